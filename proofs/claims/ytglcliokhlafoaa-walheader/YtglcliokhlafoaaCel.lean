/- Blocks with their numbers held against each other; Equal, oneSize, Same; no condition but that lists are not longer than lists can be. -/
import Derived.Test.YtglcliokhlafoaaLoad
import Derived.Test.YtglcliokhlafoaaImages
namespace Go.Proofs.Ytglcliokhlafoaa
open Go.RowKit Go.Maps
theorem eq25d (d : Nat) (f g : Nat → Int) (w : World) : (Op.equalIn (d + 1 + 1) 46 (.agg (blk f)) (.agg (blk g))).run Try.prog w = .ok (sameB f g) w := by
  have key := each25 d f g w (List.range' 0 [:1024].size) (fun i hi => by simpa [Std.Legacy.Range.size] using hi)
  rw [Op.equalIn]
  simp only [Sem.run_bind, run_underlying Try.underlying46, Result.andThen_ok]
  rw [show (sizeOf 5).run Try.prog w = .ok 1 w by simp [go_sem]]
  simp only [Result.andThen_ok, Std.Legacy.Range.forIn_eq_forIn_range']
  refine (congrArg (fun r => Result.andThen r _) key).trans ?_
  have hr : List.range' 0 [:1024].size = List.range 1024 := by simp [Std.Legacy.Range.size, List.range_eq_range']
  rw [hr]
  show Result.andThen (Result.ok ((if sameB f g = true then none else some false), ()) w) _ = _
  cases sameB f g <;> simp
theorem part_idx (c : Cel) (w : World) : (part 3 (celRow c).toArray 0).run Try.prog w = .ok (.int .i64 c.1) w := by
  simp [part, Try.isAgg3, celRow]
theorem part_blk (c : Cel) (w : World) : (part 46 (celRow c).toArray 1).run Try.prog w = .ok (.agg (blk c.2)) w := by
  have hs := blk_size c.2
  have hc := cel_size c
  have he : (celRow c).toArray.extract 1 (1 + 1024) = blk c.2 := by
    apply Array.toList_inj.1
    have ht : (blk c.2).toList.take 1024 = (blk c.2).toList := List.take_of_length_le (by rw [Array.length_toList, hs]; omega)
    simp [celRow, ht]
  generalize hR : (celRow c).toArray = R at *
  simp [part, Try.isAgg46, Try.sizeOf46, hc, he]
theorem fields85 : (Try.prog.fieldsOf 59).toList.map (fun f => (f.name, f.type, f.offset)) = [("Index", 3, 0), ("Data", 46, 1)] := by kernel_rfl
theorem under85 : Try.prog.underlying 59 = some (.struct (Try.prog.fieldsOf 59)) := by
  unfold Program.fieldsOf
  rw [Try.underlying59]
theorem held85 : Try.prog.stoodInHeld 59 = false := by kernel_rfl
/-- Are two blocks with their numbers the same? -/
def celB (a b : Cel) : Bool := (a.1 == b.1) && sameB a.2 b.2
theorem eq_cel (d : Nat) (a b : Cel) (w : World) : (Op.equalIn (d + 1 + 1 + 1) 59 (.agg (celRow a).toArray) (.agg (celRow b).toArray)).run Try.prog w = .ok (celB a b) w := by
  rw [run_equalIn_struct w (d + 1 + 1) 59 _ _ under85 held85]
  have hf := fields85
  generalize (Try.prog.fieldsOf 59).toList = fs at hf
  obtain ⟨f1, f2, rfl⟩ : ∃ f1 f2, fs = [f1, f2] := by
    have hl : fs.length = 2 := by have := congrArg List.length hf; simpa using this
    rcases fs with _ | ⟨f1, _ | ⟨f2, _ | ⟨f3, t⟩⟩⟩
    · simp at hl
    · simp at hl
    · exact ⟨f1, f2, rfl⟩
    · simp at hl
  · simp only [List.map_cons, List.map_nil, List.cons.injEq, Prod.mk.injEq] at hf
    obtain ⟨⟨n1, t1, o1⟩, ⟨n2, t2, o2⟩, _⟩ := hf
    have e1 := part_idx a
    have e2 := part_idx b
    have e3 := part_blk a
    have e4 := part_blk b
    have e5 := eq25d d a.2 b.2
    generalize (celRow a).toArray = A at *
    generalize (celRow b).toArray = B at *
    generalize blk a.2 = F at *
    generalize blk b.2 = G at *
    unfold celB
    cases hx : (a.1 == b.1)
    · simp [Op.eqFields, n1, t1, o1, e1, e2, run_equalIn_int _ _ _ _ _ _ _ Try.underlying3, hx]
    · cases hy : sameB a.2 b.2
      · rw [hy] at e5
        simp [Op.eqFields, n1, t1, o1, n2, t2, o2, e1, e2, e3, e4, e5, run_equalIn_int _ _ _ _ _ _ _ Try.underlying3, hx]
      · rw [hy] at e5
        simp [Op.eqFields, n1, t1, o1, n2, t2, o2, e1, e2, e3, e4, e5, run_equalIn_int _ _ _ _ _ _ _ Try.underlying3, hx]
/-- A block with its number lies at a place. -/
def CelAt (w : World) (g off : Nat) (c : Cel) : Prop := w.cell? ⟨g, off, none⟩ = some (.int .i64 c.1) ∧ BlkAt w g (off + 1) c.2
theorem CelAt.range {w : World} {g off : Nat} {c : Cel} (h : CelAt w g off c) : w.rangeAt g off (celRow c) := fun j v hv => by
  cases j with
  | zero =>
    have e : Value.int .i64 c.1 = v := by simpa [celRow] using hv
    rw [← e]
    exact h.1
  | succ j =>
    have hv' : (blk c.2).toList[j]? = some v := by simpa [celRow] using hv
    have := h.2 j v hv'
    rwa [show off + 1 + j = off + (j + 1) by omega] at this
theorem load85 {w : World} {g off : Nat} {c : Cel} (h : CelAt w g off c) : (Instr.loadAt 59 (.pointer (some ⟨g, off, none⟩))).run Try.prog w = .ok (.agg (celRow c).toArray) w :=
  run_loadAt_mid (P := Try.prog) w g off 59 (celRow c) _ h.range Try.underlying59 rfl (by rw [celRow_len]; exact size85)
theorem neqg85 (x y : Operand) (F G : Array Value) (u : World) : (eqGuard .neq 59 x y (.agg F) (.agg G)).run Try.prog u = .ok () u := by
  unfold eqGuard
  simp
theorem eqg85 (x y : Operand) (F G : Array Value) (u : World) : (eqGuard .eql 59 x y (.agg F) (.agg G)).run Try.prog u = .ok () u := by
  unfold eqGuard
  simp
theorem neq85 (a b : Cel) (r : Bool) (hr : celB a b = r) (u : World) : (binOp .neq 59 (.agg (celRow a).toArray) (.agg (celRow b).toArray)).run Try.prog u = .ok (.bool (!r)) u := by
  have h := eq_cel 9997 a b u
  rw [hr] at h
  generalize (celRow a).toArray = F at *
  generalize (celRow b).toArray = G at *
  have h' : (Op.equalIn 10000 59 (.agg F) (.agg G)).run Try.prog u = .ok r u := h
  simp only [binOp, Op.equal, Op.maxDepth, Sem.run_bind, h', Result.andThen_ok, Sem.run_pure]
theorem eql85 (a b : Cel) (r : Bool) (hr : celB a b = r) (u : World) : (binOp .eql 59 (.agg (celRow a).toArray) (.agg (celRow b).toArray)).run Try.prog u = .ok (.bool r) u := by
  have h := eq_cel 9997 a b u
  rw [hr] at h
  generalize (celRow a).toArray = F at *
  generalize (celRow b).toArray = G at *
  have h' : (Op.equalIn 10000 59 (.agg F) (.agg G)).run Try.prog u = .ok r u := h
  simp only [binOp, Op.equal, Op.maxDepth, Sem.run_bind, h', Result.andThen_ok, Sem.run_pure]
theorem wpStill_load85 {ops : Array Oper} {Q : Act → Prop} {a : Act} {o : Oper} {rest : List Oper} {w : World} (hw : Region.wanted o (yielded ops a.tmps) = true) (x : Operand) (ho : o.op = .load 59 x)
    (g off : Nat) (hx : a.eval x = .pointer (some ⟨g, off, none⟩)) (c : Cel) (hg : CelAt w g off c)
    (h : wpStill Try.prog ops w Q rest (a.put o.dst (.agg (celRow c).toArray))) : wpStill Try.prog ops w Q (o :: rest) a := by
  unfold wpStill
  rw [if_pos hw]
  unfold Oper.still execOp
  simp only [ho, hx, load85 hg, Sem.run_bind, Result.andThen_ok, Sem.run_pure, Oper.stillUpon]
  exact ⟨trivial, h⟩
theorem wpStill_neq85 {ops : Array Oper} {Q : Act → Prop} {a : Act} {o : Oper} {rest : List Oper} {w : World} (hw : Region.wanted o (yielded ops a.tmps) = true) (x y : Operand) (ho : o.op = .binOp .neq 59 x y 59)
    (c d : Cel) (r : Bool) (hx : a.eval x = .agg (celRow c).toArray) (hy : a.eval y = .agg (celRow d).toArray) (hr : celB c d = r)
    (h : wpStill Try.prog ops w Q rest (a.put o.dst (.bool (!r)))) : wpStill Try.prog ops w Q (o :: rest) a := by
  have e := neq85 c d r hr w
  unfold wpStill
  rw [if_pos hw]
  unfold Oper.still execOp
  simp only [ho, hx, hy, Sem.run_bind, neqg85, e, Result.andThen_ok, Sem.run_pure, Oper.stillUpon]
  exact ⟨trivial, h⟩
/-- Are two lists the same? -/
def celsB : List Cel → List Cel → Bool
  | [], [] => true
  | a :: s, b :: t => celB a b && celsB s t
  | _, _ => false
theorem celsB_len : ∀ {s t : List Cel}, celsB s t = true → s.length = t.length
  | [], [], _ => rfl
  | a :: s, b :: t, h => by
    unfold celsB at h
    simp at h
    simp [celsB_len h.2]
  | [], _ :: _, h => by simp [celsB] at h
  | _ :: _, [], h => by simp [celsB] at h
theorem celB_iff {a b : Cel} (ha : Can a.2) (hb : Can b.2) : celB a b = true ↔ a = b := by
  unfold celB
  simp only [Bool.and_eq_true, beq_iff_eq, ha.same hb]
  constructor
  · rintro ⟨h1, h2⟩
    exact Prod.ext h1 h2
  · rintro rfl
    exact ⟨rfl, rfl⟩
theorem celsB_iff : ∀ {s t : List Cel}, (∀ c ∈ s, Can c.2) → (∀ c ∈ t, Can c.2) → (celsB s t = true ↔ s = t)
  | [], [], _, _ => by simp [celsB]
  | a :: s, b :: t, hs, ht => by
    have ih := celsB_iff (s := s) (t := t) (fun c hc => hs c (List.mem_cons_of_mem _ hc)) (fun c hc => ht c (List.mem_cons_of_mem _ hc))
    unfold celsB
    simp only [Bool.and_eq_true, celB_iff (hs a (by simp)) (ht b (by simp)), ih, List.cons.injEq]
  | [], _ :: _, _, _ => by simp [celsB]
  | _ :: _, [], _, _ => by simp [celsB]
theorem ImgAt.cel {w : World} {b off : Nat} {l : List Cel} (h : CelsAt w b off l) {k : Nat} {c : Cel} (hc : l[k]? = some c) : CelAt w b (off + k * 1025) c := h k c hc
end Go.Proofs.Ytglcliokhlafoaa
