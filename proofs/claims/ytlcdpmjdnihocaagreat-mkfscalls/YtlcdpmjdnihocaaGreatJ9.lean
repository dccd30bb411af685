/- Several texts joined, each with its own remark; no condition. -/
import Derived.Test.YtlcdpmjdnihocaaGreatJ8
import Derived.Deep.DeepAppendWide
import Derived.Deep.Onto
import Derived.OneCell
/- Load: a disk of every image that may be, none of any other; no condition. -/
namespace Go.Proofs.YtlcdpmjdnihocaaGreatD
open Go.RowKit
/-- The disk of an image. -/
def loadV (n : Int) (l : List Cel) : St := holdAll (newV n) l
theorem rises_bounds {n : Int} : ∀ (l : List Cel) (a : Int), -1 ≤ a → risesB n a l = true → ∀ c ∈ l, 0 ≤ c.1 ∧ c.1 < n ∧ blankB c.2 = false
  | [], _, _, _, c, hc => by simp at hc
  | x :: t, a, ha, h, c, hc => by
    unfold risesB at h
    simp at h
    obtain ⟨⟨⟨h1, h2⟩, h3⟩, h4⟩ := h
    rcases List.mem_cons.1 hc with rfl | hc
    · exact ⟨by omega, by omega, h3⟩
    · exact rises_bounds t x.1 (by omega) h4 c hc
theorem may_bounds {n : Int} {l : List Cel} (h : mayB n l = true) : bndB n = true ∧ ∀ c ∈ l, 0 ≤ c.1 ∧ c.1 < n ∧ blankB c.2 = false := by
  unfold mayB at h
  simp at h
  exact ⟨h.1, rises_bounds l (-1) (by omega) h.2⟩
theorem ImgAt.later {w W : World} {p : Option Addr} {l : List Cel} (h : ImgAt w p l) (hb : Below w.heap.size w W) : ImgAt W p l := fun h0 => by
  obtain ⟨b, off, h1, h2, h3⟩ := h h0
  exact ⟨b, off, h1, Nat.lt_of_lt_of_le h2 hb.size, h3.later hb h2⟩
set_option maxRecDepth 20000 in
theorem load_bad (n : Int) (l : List Cel) (p : Option Addr) (cap : Nat) (w : World) (hl : l.length < 9223372036854775807) (h : ImgAt w p l) (hm : mayB n l = false) :
    Calls Tryz.prog 7 #[.agg #[.int .i64 n, .slice p l.length cap]] w fun e w' => e = .returned (.tuple #[.pointer none, .int .i64 4]) ∧ Below w.heap.size w w' := by
  have hB := below_new w (.cells #[.int .i64 n, .slice p l.length cap] 24)
  have hM := may_any n l p cap _ hl (h.later hB)
  rw [hm] at hM
  go_enter Tryz.func7, Tryz.ntmps7
  go_wp2_with (go_at_call 34; refine hM.mono ?_; rintro e W1 ⟨rfl, hb1⟩)
  go_ret2
  exact ⟨rfl, below_next hB hb1⟩
set_option maxRecDepth 20000 in
set_option maxHeartbeats 2000000 in
theorem load_ok (n : Int) (l : List Cel) (p : Option Addr) (cap : Nat) (w : World) (hl : l.length < 9223372036854775807) (h : ImgAt w p l) (hcan : ∀ c ∈ l, Can c.2) (hm : mayB n l = true) :
    Calls Tryz.prog 7 #[.agg #[.int .i64 n, .slice p l.length cap]] w fun e w' => ∃ L : Loc, e = .returned (.tuple #[.pointer (some ⟨L.d, 0, none⟩), .int .i64 0]) ∧ DiskAt w' L (loadV n l) ∧ L.from w.heap.size ∧ Below w.heap.size w w' := by
  have hB := below_new w (.cells #[.int .i64 n, .slice p l.length cap] 24)
  have hG := heap_alloc_new w (.cells #[.int .i64 n, .slice p l.length cap] 24)
  have hM := may_any n l p cap _ hl (h.later hB)
  rw [hm] at hM
  have HI : Hid (ImgAt w p l) := h
  have HC : Hid (∀ c ∈ l, Can c.2) := hcan
  obtain ⟨hbn, hbs⟩ := may_bounds hm
  have HBs : Hid (∀ c ∈ l, 0 ≤ c.1 ∧ c.1 < n ∧ blankB c.2 = false) := hbs
  clear h hcan hm hbs
  go_enter Tryz.func7, Tryz.ntmps7
  go_wp2_with (go_at_call 34; fail)
  refine hM.mono ?_
  rintro e W1 ⟨rfl, hb1⟩
  have hG1 := heap_kept hG hb1
  have hB1 := below_next hB hb1
  have i0 : W1.cell? ⟨w.heap.size, 0, none⟩ = some (.int .i64 n) := Joins.cell_of_block hG1 0
  clear hM hG hB hb1
  go_wp2_with (go_at_call 35; fail)
  refine (new_ok hbn W1).mono ?_
  rintro e W2 ⟨L, rfl, hD2, hL2, hb2⟩
  have hG2 := heap_kept hG1 hb2
  have HB2 : Hid (Below w.heap.size w W2) := below_next hB1 hb2
  have i1 : W2.cell? ⟨w.heap.size, 1, none⟩ = some (.slice p l.length cap) := Joins.cell_of_block hG2 1
  have HD2 : Hid (DiskAt W2 L (newV n)) := hD2
  have HL2 : Hid (L.from w.heap.size ∧ ¬ L.has w.heap.size) := by
    have hs := hB1.size
    have hlt : w.heap.size < W1.heap.size := (Array.getElem?_eq_some_iff.1 hG1).1
    exact ⟨fun k hk => by have := hL2 k hk; omega, fun q => by have := hL2 _ q; omega⟩
  have HG2 : Hid (W2.heap[w.heap.size]? = some (.cells #[.int .i64 n, .slice p l.length cap] 24)) := hG2
  clear hD2 hL2 hb2 hB1 hG1 i0 hG2
  go_wp2
  go_loopw [19] (fun s19 wx => ∃ k : Nat, k ≤ l.length ∧ s19 = .int .i64 k ∧ Hid (DiskAt wx L (holdAll (newV n) (l.take k))) ∧ Hid (Below w.heap.size w wx) ∧ Hid (wx.heap[w.heap.size]? = some (.cells #[.int .i64 n, .slice p l.length cap] 24))) (fun s19 _ => l.length - (intOf s19).toNat)
  case atStart => exact ⟨0, by omega, rfl, HD2.out, HB2.out, HG2.out⟩
  case round =>
    obtain ⟨k, hk, rfl, HD, HB, HG⟩ := hrel
    clear HD2 HB2 HG2 i1
    by_cases hk2 : (k : Int) < l.length
    · have hc : l[k]? = some l[k] := List.getElem?_eq_getElem (by omega)
      obtain ⟨b, off, rfl, hlt, hC⟩ := HI.out (by omega)
      generalize l[k] = c at hc
      have hmem := List.mem_of_getElem? hc
      obtain ⟨q1, _⟩ := (hC.later HB.out hlt) k c hc
      have hbd : Below w.heap.size w wr.drew := HB.out.drew
      obtain ⟨_, q2⟩ := (hC.later hbd hlt) k c hc
      have HDd : DiskAt wr.drew L (holdAll (newV n) (l.take k)) := HD.out.fr (Fr.drew (T := fun _ => False) wr) fun _ _ q => q
      obtain ⟨y1, y2, _⟩ := HBs.out c hmem
      have hH := hold_of HDd (k := c.1) (by rw [holdAll_n]; exact ⟨y1, y2⟩) (HC.out c hmem) q2
      rw [← holdAll_snoc, ← take_snoc hc] at hH
      have HH : Hid (Calls Tryz.prog 36 #[.pointer (some ⟨L.d, 0, none⟩), .int .i64 c.1, .pointer (some ⟨b, off + k * 1025 + 1, none⟩)] wr.drew fun e w' => e = .returned (.tuple #[]) ∧ DiskAt w' L (holdAll (newV n) (l.take (k + 1))) ∧ Below w.heap.size w w' ∧ w'.heap[w.heap.size]? = some (.cells #[.int .i64 n, .slice (some ⟨b, off, none⟩) l.length cap] 24)) :=
        hH.mono fun e w' ⟨h1, h2, h3⟩ => ⟨h1, h2, hbd.trans ((h3.mono fun i _ q => (.inr (.inl q) : L.has i)).below HL2.out.1 hbd.size), (h3.block _ (Array.getElem?_eq_some_iff.1 HG.out).1 fun q => HL2.out.2 (.inr (.inl q))).trans HG.out⟩
      have i1 : wr.cell? ⟨w.heap.size, 1, none⟩ = some (.slice (some ⟨b, off, none⟩) l.length cap) := Joins.cell_of_block HG.out 1
      clear hH q2 HDd hbd hC hmem hc HD HB HG
      go_wp2
      go_still_tail 12, (by kernel_rfl)
      change wpList _ _ _ _ _ (World.drew _)
      go_wp2_with (go_at_call 36; fail)
      refine HH.out.mono ?_
      rintro e W3 ⟨rfl, hD3, hB3, hG3⟩
      have HD3 : Hid (DiskAt W3 L (holdAll (newV n) (l.take (k + 1)))) := hD3
      have HB3 : Hid (Below w.heap.size w W3) := hB3
      have HG3 : Hid (W3.heap[w.heap.size]? = some (.cells #[.int .i64 n, .slice (some ⟨b, off, none⟩) l.length cap] 24)) := hG3
      clear hD3 hB3 hG3 HH i1
      go_wp2
      exact ⟨⟨k + 1, by omega, by go_num, HD3.out, HB3.out, HG3.out⟩, by simp [intOf]; omega⟩
    · obtain rfl : k = l.length := by omega
      have hD := HD.out
      rw [List.take_length] at hD
      have HD3 : Hid (DiskAt wr L (loadV n l)) := hD
      clear hD HD HG
      go_wp2
      go_ret2
      exact ⟨L, rfl, HD3.out, HL2.out.1, HB.out⟩
end Go.Proofs.YtlcdpmjdnihocaaGreatD
/- Blocks with their numbers held against each other; Equal, oneSize, Same; no condition but that lists are not longer than lists can be. -/
namespace Go.Proofs.YtlcdpmjdnihocaaGreatD
open Go.RowKit Go.Maps
theorem eq25d (d : Nat) (f g : Nat → Int) (w : World) : (Op.equalIn (d + 1 + 1) 79 (.agg (blk f)) (.agg (blk g))).run Tryz.prog w = .ok (sameB f g) w := by
  have key := each25 d f g w (List.range' 0 [:1024].size) (fun i hi => by simpa [Std.Legacy.Range.size] using hi)
  rw [Op.equalIn]
  simp only [Sem.run_bind, run_underlying Tryz.underlying79, Result.andThen_ok]
  rw [show (sizeOf 5).run Tryz.prog w = .ok 1 w by simp [go_sem]]
  simp only [Result.andThen_ok, Std.Legacy.Range.forIn_eq_forIn_range']
  refine (congrArg (fun r => Result.andThen r _) key).trans ?_
  have hr : List.range' 0 [:1024].size = List.range 1024 := by simp [Std.Legacy.Range.size, List.range_eq_range']
  rw [hr]
  show Result.andThen (Result.ok ((if sameB f g = true then none else some false), ()) w) _ = _
  cases sameB f g <;> simp
theorem part_idx (c : Cel) (w : World) : (part 3 (celRow c).toArray 0).run Tryz.prog w = .ok (.int .i64 c.1) w := by
  simp [part, Tryz.isAgg3, celRow]
theorem part_blk (c : Cel) (w : World) : (part 79 (celRow c).toArray 1).run Tryz.prog w = .ok (.agg (blk c.2)) w := by
  have hs := blk_size c.2
  have hc := cel_size c
  have he : (celRow c).toArray.extract 1 (1 + 1024) = blk c.2 := by
    apply Array.toList_inj.1
    have ht : (blk c.2).toList.take 1024 = (blk c.2).toList := List.take_of_length_le (by rw [Array.length_toList, hs]; omega)
    simp [celRow, ht]
  generalize hR : (celRow c).toArray = R at *
  simp [part, Tryz.isAgg79, Tryz.sizeOf79, hc, he]
theorem fields85 : (Tryz.prog.fieldsOf 81).toList.map (fun f => (f.name, f.type, f.offset)) = [("Index", 3, 0), ("Data", 79, 1)] := by kernel_rfl
theorem under85 : Tryz.prog.underlying 81 = some (.struct (Tryz.prog.fieldsOf 81)) := by
  unfold Program.fieldsOf
  rw [Tryz.underlying81]
theorem held85 : Tryz.prog.stoodInHeld 81 = false := by kernel_rfl
/-- Are two blocks with their numbers the same? -/
def celB (a b : Cel) : Bool := (a.1 == b.1) && sameB a.2 b.2
theorem eq_cel (d : Nat) (a b : Cel) (w : World) : (Op.equalIn (d + 1 + 1 + 1) 81 (.agg (celRow a).toArray) (.agg (celRow b).toArray)).run Tryz.prog w = .ok (celB a b) w := by
  rw [run_equalIn_struct w (d + 1 + 1) 81 _ _ under85 held85]
  have hf := fields85
  generalize (Tryz.prog.fieldsOf 81).toList = fs at hf
  obtain ⟨f1, f2, rfl⟩ : ∃ f1 f2, fs = [f1, f2] := by
    have hl : fs.length = 2 := by have := congrArg List.length hf; simpa using this
    rcases fs with _ | ⟨f1, _ | ⟨f2, _ | ⟨f3, t⟩⟩⟩
    · simp at hl
    · simp at hl
    · exact ⟨f1, f2, rfl⟩
    · simp at hl
  · simp only [List.map_cons, List.map_nil, List.cons.injEq, Prod.mk.injEq] at hf
    obtain ⟨⟨n1, t1, o1⟩, ⟨n2, t2, o2⟩, _⟩ := hf
    have e1 := part_idx a
    have e2 := part_idx b
    have e3 := part_blk a
    have e4 := part_blk b
    have e5 := eq25d d a.2 b.2
    generalize (celRow a).toArray = A at *
    generalize (celRow b).toArray = B at *
    generalize blk a.2 = F at *
    generalize blk b.2 = G at *
    unfold celB
    cases hx : (a.1 == b.1)
    · simp [Op.eqFields, n1, t1, o1, e1, e2, run_equalIn_int _ _ _ _ _ _ _ Tryz.underlying3, hx]
    · cases hy : sameB a.2 b.2
      · rw [hy] at e5
        simp [Op.eqFields, n1, t1, o1, n2, t2, o2, e1, e2, e3, e4, e5, run_equalIn_int _ _ _ _ _ _ _ Tryz.underlying3, hx]
      · rw [hy] at e5
        simp [Op.eqFields, n1, t1, o1, n2, t2, o2, e1, e2, e3, e4, e5, run_equalIn_int _ _ _ _ _ _ _ Tryz.underlying3, hx]
/-- A block with its number lies at a place. -/
def CelAt (w : World) (g off : Nat) (c : Cel) : Prop := w.cell? ⟨g, off, none⟩ = some (.int .i64 c.1) ∧ BlkAt w g (off + 1) c.2
theorem CelAt.range {w : World} {g off : Nat} {c : Cel} (h : CelAt w g off c) : w.rangeAt g off (celRow c) := fun j v hv => by
  cases j with
  | zero =>
    have e : Value.int .i64 c.1 = v := by simpa [celRow] using hv
    rw [← e]
    exact h.1
  | succ j =>
    have hv' : (blk c.2).toList[j]? = some v := by simpa [celRow] using hv
    have := h.2 j v hv'
    rwa [show off + 1 + j = off + (j + 1) by omega] at this
theorem load85 {w : World} {g off : Nat} {c : Cel} (h : CelAt w g off c) : (Instr.loadAt 81 (.pointer (some ⟨g, off, none⟩))).run Tryz.prog w = .ok (.agg (celRow c).toArray) w :=
  run_loadAt_mid (P := Tryz.prog) w g off 81 (celRow c) _ h.range Tryz.underlying81 rfl (by rw [celRow_len]; exact size85)
theorem neqg85 (x y : Operand) (F G : Array Value) (u : World) : (eqGuard .neq 81 x y (.agg F) (.agg G)).run Tryz.prog u = .ok () u := by
  unfold eqGuard
  simp
theorem eqg85 (x y : Operand) (F G : Array Value) (u : World) : (eqGuard .eql 81 x y (.agg F) (.agg G)).run Tryz.prog u = .ok () u := by
  unfold eqGuard
  simp
theorem neq85 (a b : Cel) (r : Bool) (hr : celB a b = r) (u : World) : (binOp .neq 81 (.agg (celRow a).toArray) (.agg (celRow b).toArray)).run Tryz.prog u = .ok (.bool (!r)) u := by
  have h := eq_cel 9997 a b u
  rw [hr] at h
  generalize (celRow a).toArray = F at *
  generalize (celRow b).toArray = G at *
  have h' : (Op.equalIn 10000 81 (.agg F) (.agg G)).run Tryz.prog u = .ok r u := h
  simp only [binOp, Op.equal, Op.maxDepth, Sem.run_bind, h', Result.andThen_ok, Sem.run_pure]
theorem eql85 (a b : Cel) (r : Bool) (hr : celB a b = r) (u : World) : (binOp .eql 81 (.agg (celRow a).toArray) (.agg (celRow b).toArray)).run Tryz.prog u = .ok (.bool r) u := by
  have h := eq_cel 9997 a b u
  rw [hr] at h
  generalize (celRow a).toArray = F at *
  generalize (celRow b).toArray = G at *
  have h' : (Op.equalIn 10000 81 (.agg F) (.agg G)).run Tryz.prog u = .ok r u := h
  simp only [binOp, Op.equal, Op.maxDepth, Sem.run_bind, h', Result.andThen_ok, Sem.run_pure]
theorem wpStill_load85 {ops : Array Oper} {Q : Act → Prop} {a : Act} {o : Oper} {rest : List Oper} {w : World} (hw : Region.wanted o (yielded ops a.tmps) = true) (x : Operand) (ho : o.op = .load 81 x)
    (g off : Nat) (hx : a.eval x = .pointer (some ⟨g, off, none⟩)) (c : Cel) (hg : CelAt w g off c)
    (h : wpStill Tryz.prog ops w Q rest (a.put o.dst (.agg (celRow c).toArray))) : wpStill Tryz.prog ops w Q (o :: rest) a := by
  unfold wpStill
  rw [if_pos hw]
  unfold Oper.still execOp
  simp only [ho, hx, load85 hg, Sem.run_bind, Result.andThen_ok, Sem.run_pure, Oper.stillUpon]
  exact ⟨trivial, h⟩
theorem wpStill_neq85 {ops : Array Oper} {Q : Act → Prop} {a : Act} {o : Oper} {rest : List Oper} {w : World} (hw : Region.wanted o (yielded ops a.tmps) = true) (x y : Operand) (ho : o.op = .binOp .neq 81 x y 81)
    (c d : Cel) (r : Bool) (hx : a.eval x = .agg (celRow c).toArray) (hy : a.eval y = .agg (celRow d).toArray) (hr : celB c d = r)
    (h : wpStill Tryz.prog ops w Q rest (a.put o.dst (.bool (!r)))) : wpStill Tryz.prog ops w Q (o :: rest) a := by
  have e := neq85 c d r hr w
  unfold wpStill
  rw [if_pos hw]
  unfold Oper.still execOp
  simp only [ho, hx, hy, Sem.run_bind, neqg85, e, Result.andThen_ok, Sem.run_pure, Oper.stillUpon]
  exact ⟨trivial, h⟩
/-- Are two lists the same? -/
def celsB : List Cel → List Cel → Bool
  | [], [] => true
  | a :: s, b :: t => celB a b && celsB s t
  | _, _ => false
theorem celsB_len : ∀ {s t : List Cel}, celsB s t = true → s.length = t.length
  | [], [], _ => rfl
  | a :: s, b :: t, h => by
    unfold celsB at h
    simp at h
    simp [celsB_len h.2]
  | [], _ :: _, h => by simp [celsB] at h
  | _ :: _, [], h => by simp [celsB] at h
theorem celB_iff {a b : Cel} (ha : Can a.2) (hb : Can b.2) : celB a b = true ↔ a = b := by
  unfold celB
  simp only [Bool.and_eq_true, beq_iff_eq, ha.same hb]
  constructor
  · rintro ⟨h1, h2⟩
    exact Prod.ext h1 h2
  · rintro rfl
    exact ⟨rfl, rfl⟩
theorem celsB_iff : ∀ {s t : List Cel}, (∀ c ∈ s, Can c.2) → (∀ c ∈ t, Can c.2) → (celsB s t = true ↔ s = t)
  | [], [], _, _ => by simp [celsB]
  | a :: s, b :: t, hs, ht => by
    have ih := celsB_iff (s := s) (t := t) (fun c hc => hs c (List.mem_cons_of_mem _ hc)) (fun c hc => ht c (List.mem_cons_of_mem _ hc))
    unfold celsB
    simp only [Bool.and_eq_true, celB_iff (hs a (by simp)) (ht b (by simp)), ih, List.cons.injEq]
  | [], _ :: _, _, _ => by simp [celsB]
  | _ :: _, [], _, _ => by simp [celsB]
theorem ImgAt.cel {w : World} {b off : Nat} {l : List Cel} (h : CelsAt w b off l) {k : Nat} {c : Cel} (hc : l[k]? = some c) : CelAt w b (off + k * 1025) c := h k c hc
end Go.Proofs.YtlcdpmjdnihocaaGreatD
/- slices.Equal of blocks with their numbers; no condition but that lists are not longer than lists can be. -/
namespace Go.Proofs.YtlcdpmjdnihocaaGreatD
open Go.RowKit Go.Maps
set_option maxRecDepth 20000 in
set_option maxHeartbeats 1000000 in
theorem sameHelds_any (s t : List Cel) (p q : Option Addr) (cp cq : Nat) (w : World) (hls : s.length < 9223372036854775807) (_hlt : t.length < 9223372036854775807) (hs : ImgAt w p s) (ht : ImgAt w q t) :
    Calls Tryz.prog 48 #[.slice p s.length cp, .slice q t.length cq] w fun e w' => e = .returned (.bool (celsB s t)) ∧ Below w.heap.size w w' := by
  by_cases hl : s.length = t.length
  · have HS : Hid (ImgAt w p s) := hs
    have HT : Hid (ImgAt w q t) := ht
    have HR : Hid (celsB s t = celsB (s.drop 0) (t.drop 0)) := rfl
    generalize celsB s t = res at *
    obtain ⟨n, hn⟩ : ∃ n, s.length = n := ⟨_, rfl⟩
    have hn2 : t.length = n := by omega
    rw [hn, hn2]
    rw [hn] at hls
    have HL : Hid (s.length = n ∧ t.length = n) := ⟨hn, hn2⟩
    clear hs ht hl hn hn2
    go_enter Tryz.func48, Tryz.ntmps48
    go_wp2
    go_loopw [5] (fun s5 wx => ∃ k : Nat, k ≤ n ∧ s5 = .int .i64 k ∧ Hid (Below w.heap.size w wx) ∧ Hid (res = celsB (s.drop k) (t.drop k))) (fun s5 _ => n - (intOf s5).toNat)
    case atStart => exact ⟨0, by omega, rfl, Below.refl _ _, HR.out⟩
    case round =>
      obtain ⟨k, hk, rfl, HB, HR2⟩ := hrel
      clear HR
      by_cases hk2 : (k : Int) < n
      · obtain ⟨hn, hn2⟩ := HL.out
        have hc : s[k]? = some s[k] := List.getElem?_eq_getElem (by omega)
        have hd : t[k]? = some t[k] := List.getElem?_eq_getElem (by omega)
        have hcd : s.drop k = s[k] :: s.drop (k + 1) := List.drop_eq_getElem_cons (by omega)
        have hdd : t.drop k = t[k] :: t.drop (k + 1) := List.drop_eq_getElem_cons (by omega)
        obtain ⟨b1, o1, rfl, l1, C1⟩ := HS.out (by omega)
        obtain ⟨b2, o2, rfl, l2, C2⟩ := HT.out (by omega)
        generalize s[k] = c at hc hcd
        generalize t[k] = d at hd hdd
        have q1 : CelAt wr b1 (o1 + k * 1025) c := (C1.later HB.out l1) k c hc
        have q2 : CelAt wr b2 (o2 + k * 1025) d := (C2.later HB.out l2) k d hd
        have hR := HR2.out
        rw [hcd, hdd] at hR
        unfold celsB at hR
        clear HR2 C1 C2 hcd hdd hc hd hn hn2
        cases hb : celB c d
        · have hr0 : res = false := by rw [hR, hb]; rfl
          clear hR
          subst hr0
          go_wp2
          refine wp_region_still_lit (by kernel_rfl) (by kernel_rfl) ?_
          repeat still_step
          refine wpStill_load85 rfl (.tmp 19) rfl b1 (o1 + k * 1025) rfl c q1 ?_
          repeat still_step
          refine wpStill_load85 rfl (.tmp 23) rfl b2 (o2 + k * 1025) rfl d q2 ?_
          repeat still_step
          refine wpStill_neq85 rfl (.tmp 20) (.tmp 24) rfl c d false rfl rfl hb ?_
          simp only [Act.put, List.setIfInBounds_toArray, List.set_cons_succ, List.set_cons_zero, Bool.not_false]
          refine wpStill_nil ?_
          go_wp2
          go_ret
          exact ⟨rfl, HB.out.drew⟩
        · have HR3 : Hid (res = celsB (s.drop (k + 1)) (t.drop (k + 1))) := by
            have e : res = celsB (s.drop (k + 1)) (t.drop (k + 1)) := by rw [hR, hb]; rfl
            exact e
          clear hR
          go_wp2
          refine wp_region_still_lit (by kernel_rfl) (by kernel_rfl) ?_
          repeat still_step
          refine wpStill_load85 rfl (.tmp 19) rfl b1 (o1 + k * 1025) rfl c q1 ?_
          repeat still_step
          refine wpStill_load85 rfl (.tmp 23) rfl b2 (o2 + k * 1025) rfl d q2 ?_
          repeat still_step
          refine wpStill_neq85 rfl (.tmp 20) (.tmp 24) rfl c d true rfl rfl hb ?_
          simp only [Act.put, List.setIfInBounds_toArray, List.set_cons_succ, List.set_cons_zero, Bool.not_true]
          refine wpStill_nil ?_
          go_wp2
          exact ⟨⟨k + 1, by omega, by go_num, HB.out.drew, HR3.out⟩, by simp [intOf]; omega⟩
      · obtain rfl : k = n := by omega
        have hr0 : res = true := by
          obtain ⟨hn, hn2⟩ := HL.out
          rw [HR2.out, List.drop_of_length_le (by omega), List.drop_of_length_le (by omega)]
          rfl
        subst hr0
        go_wp2
        go_ret
        exact ⟨rfl, HB.out⟩
  · have e : celsB s t = false := by
      cases h : celsB s t
      · rfl
      · exact absurd (celsB_len h) hl
    rw [e]
    have hlI : ¬ ((s.length : Int) = t.length) := by omega
    clear e hs ht
    go_enter Tryz.func48, Tryz.ntmps48
    go_wp2
    go_ret
    exact ⟨rfl, Below.refl _ _⟩
end Go.Proofs.YtlcdpmjdnihocaaGreatD
/- Regions whose order is drawn, where what was read is written over at the end: A holds all along, B until the operation m has come up; what m waits for may be read under B. -/
namespace Go.Proofs.YtlcdpmjdnihocaaGreatD
open Go.RowKit
section
variable {P : Program} {ops : Array Oper} {Q : Exit → Act → World → Prop} {A B : World → Prop} {m : Nat}
/-- What is asked behind an operation: A, and B as long as m is to come. -/
def PhS (A B : World → Prop) (m : Nat) (L : Array Bool) (w : World) : Prop := A w ∧ (L.getD m true = false → B w)
/-- Whatever order comes up from here on. -/
def anyPh (P : Program) (ops : Array Oper) (Q : Exit → Act → World → Prop) (A B : World → Prop) (m : Nat) : Nat → Array Bool → Act → World → Prop
  | 0, L, a, w => Region.ready .any ops L = [] ∧ Q .normal a w
  | n + 1, L, a, w => (Region.ready .any ops L = [] → Q .normal a w) ∧ ∀ i ∈ Region.ready .any ops L, wpOp P ops Q i (fun a' w' => PhS A B m (L.setIfInBounds i true) w' ∧ anyPh P ops Q A B m n (L.setIfInBounds i true) a' w') a w
theorem anyPh_any : ∀ (n : Nat) (L : Array Bool) (a : Act) (w : World), anyPh P ops Q A B m n L a w → wpAny P .any ops Q n L a w
  | 0, _, _, _, h => h
  | n + 1, _, _, _, h => ⟨h.1, fun i hi => wpOp_mono (fun a' w' h' => anyPh_any n _ a' w' h'.2) (h.2 i hi)⟩
theorem unlisted_of_ready {i j : Nat} {L : Array Bool} {oj : Oper} (hi : i ∈ Region.ready .any ops L) (hj : j ∈ Region.ready .any ops L) (hoj : ops[j]? = some oj) : ∀ e ∈ oj.after, Region.binds .any e = true → e.on ≠ i := fun e he hb heq => by
  obtain ⟨_, o, ho, hall⟩ := mem_ready.1 hj
  rw [hoj] at ho
  cases ho
  have h1 := hall e he hb
  have h0 := (mem_ready.1 hi).1
  rw [heq] at h1
  rcases Nat.lt_or_ge i L.size with h' | h'
  · simp [h'] at h0 h1
    rw [h0] at h1
    cases h1
  · simp [Array.getElem?_eq_none h'] at h1
/-- An operation is taken first: V is what it reads under; V holds as long as it is to come. -/
theorem anyPh_first {V : World → Prop} {i : Nat} {oi : Oper} {v : Value} (hi : ops[i]? = some oi) (hsel : ∀ (j : Nat) (o : Oper) cs b, ops[j]? = some o → o.op ≠ .select cs b) (hQ : ∀ c a w, Q (.panic c) (a.put oi.dst v) w → Q (.panic c) a w) (him : i ≠ m)
    (hV : (∀ w, A w → V w) ∨ ((∀ w, A w → B w → V w) ∧ ∀ om, ops[m]? = some om → ∃ e ∈ om.after, Region.binds .any e = true ∧ e.on = i)) :
    ∀ (n : Nat) (L : Array Bool) (a : Act) (w : World), (∀ j oj, ops[j]? = some oj → j ≠ i → L.getD j true = false → (∀ e ∈ oj.after, Region.binds .any e = true → e.on ≠ i) → oi.apart ops oj = true) →
      ((∀ w, A w → V w) ∨ L.getD m true = false) → i ∈ Region.ready .any ops L → YieldsIf P ops V oi v a → PhS A B m L w → anyPh P ops Q A B m n (L.setIfInBounds i true) (a.put oi.dst v) w → anyPh P ops Q A B m (n + 1) L a w := by
  have same : ∀ (L : Array Bool) (w : World), PhS A B m (L.setIfInBounds i true) w ↔ PhS A B m L w := fun L w => by
    unfold PhS
    rw [getD_set_ne true him]
  have reads : ∀ (L : Array Bool) (w : World), ((∀ w, A w → V w) ∨ L.getD m true = false) → PhS A B m L w → V w := fun L w hL h => by
    rcases hV with q | ⟨q, _⟩
    · exact q w h.1
    · rcases hL with q2 | q2
      · exact q2 w h.1
      · exact q w h.1 (h.2 q2)
  intro n
  induction n with
  | zero =>
    intro L a w _ hL hr hy hS H
    refine ⟨fun h => (by rw [h] at hr; cases hr), fun j hj => ?_⟩
    by_cases hji : j = i
    · subst hji
      exact hy.wpOp hi (reads L w hL hS) ⟨(same L w).2 hS, H⟩
    · have := ready_mono hj hji
      rw [H.1] at this
      cases this
  | succ n ih =>
    intro L a w hfree hL hr hy hS H
    refine ⟨fun h => (by rw [h] at hr; cases hr), fun j hj => ?_⟩
    by_cases hji : j = i
    · subst hji
      exact hy.wpOp hi (reads L w hL hS) ⟨(same L w).2 hS, H⟩
    · obtain ⟨hjun, oj, hoj, _⟩ := mem_ready.1 hj
      have hnot := unlisted_of_ready hr hj hoj
      have h2 := wpOp_putIf hoj (hfree j oj hoj hji hjun hnot) (fun cs b => hsel i oi cs b hi) (fun cs b => hsel j oj cs b hoj) hQ hy (H.2 j (ready_mono hj hji))
      have hL' : (∀ w, A w → V w) ∨ (L.setIfInBounds j true).getD m true = false := by
        rcases hV with q | ⟨_, q⟩
        · exact .inl q
        · rcases hL with q2 | q2
          · exact .inl q2
          · refine .inr ?_
            have hjm : j ≠ m := fun e => by
              subst e
              obtain ⟨e, h1, h2, h3⟩ := q oj hoj
              exact hnot e h1 h2 h3
            rw [getD_set_ne true hjm]
            exact q2
      refine wpOp_mono (fun a' w' h3 => ?_) h2
      have h4 : PhS A B m (L.setIfInBounds j true) w' := by
        refine (same _ w').1 ?_
        rw [Array.setIfInBounds_comm _ _ hji]
        exact h3.2.1
      refine ⟨h4, ih (L.setIfInBounds j true) a' w' (fun k ok hk hki hun hno => hfree k ok hk hki ?_ hno) hL' (ready_mono hr (Ne.symm hji)) h3.1 h4 ?_⟩
      · by_cases hjk : j = k
        · subst hjk
          exact hjun
        · rw [getD_set_ne true hjk] at hun
          exact hun
      · rw [Array.setIfInBounds_comm _ _ hji]
        exact h3.2.2
/-- May the operations be taken in this order? 0: a read under A; 1: a read under B, that m waits for; else: nothing else may come up. -/
def ordC (ops : Array Oper) (m : Nat) : List (Nat × Nat) → Array Bool → Bool
  | [], L => (Region.ready .any ops L).isEmpty
  | (i, 0) :: r, L => (Region.ready .any ops L).contains i && Region.free .any ops L i && (ops[i]?).isSome && (i != m) && ordC ops m r (L.setIfInBounds i true)
  | (i, 1) :: r, L => (Region.ready .any ops L).contains i && Region.free .any ops L i && (ops[i]?).isSome && (i != m) && (!(L.getD m true)) && (match ops[m]? with | some om => om.after.any fun e => Region.binds .any e && (e.on == i) | none => false) && ordC ops m r (L.setIfInBounds i true)
  | (i, _) :: r, L => (Region.ready .any ops L == [i]) && (ops[i]?).isSome && ordC ops m r (L.setIfInBounds i true)
/-- The operations themselves, in that order. -/
def inOrdC (ol : List Oper) (m : Nat) : List (Nat × Nat) → List (Nat × Bool × Oper)
  | [] => []
  | (i, k) :: r => match ol[i]? with
    | some o => (k, i == m, o) :: inOrdC ol m r
    | none => inOrdC ol m r
def wpPh (P : Program) (ops : Array Oper) (Q : Exit → Act → World → Prop) (A B : World → Prop) : List (Nat × Bool × Oper) → Bool → Act → World → Prop
  | [], _, a, w => Q .normal a w
  | (0, _, o) :: r, f, a, w => ∃ v, YieldsIf P ops A o v a ∧ wpPh P ops Q A B r f (a.put o.dst v) w
  | (1, _, o) :: r, f, a, w => ∃ v, YieldsIf P ops (fun w => A w ∧ B w) o v a ∧ wpPh P ops Q A B r f (a.put o.dst v) w
  | (_, mm, o) :: r, f, a, w => if Region.wanted o (yielded ops a.tmps) then o.wp P a w (fun a' w' => (A w' ∧ ((f || mm) = false → B w')) ∧ wpPh P ops Q A B r (f || mm) a' w') Q else (A w ∧ ((f || mm) = false → B w)) ∧ wpPh P ops Q A B r (f || mm) (a.put o.dst undef) w
theorem listed_next {L : Array Bool} {f : Bool} {i : Nat} (hf : L.getD m true = f) : (L.setIfInBounds i true).getD m true = (f || (i == m)) := by
  by_cases e : i = m
  · subst e
    rw [beq_self_eq_true, Bool.or_true]
    rcases Nat.lt_or_ge i L.size with h | h
    · simp [h]
    · simp [h]
  · rw [getD_set_ne true e, hf, beq_false_of_ne e, Bool.or_false]
theorem wpPh_any {ol : List Oper} (hs : Region.noSelect ol.toArray = true) (hQ : ∀ d v c a w, Q (.panic c) (a.put d v) w → Q (.panic c) a w) : ∀ (l : List (Nat × Nat)) (L : Array Bool) (f : Bool) (a : Act) (w : World), L.getD m true = f → PhS A B m L w →
    ordC ol.toArray m l L = true → wpPh P ol.toArray Q A B (inOrdC ol m l) f a w → anyPh P ol.toArray Q A B m l.length L a w
  | [], L, f, a, w, _, _, hB, h => ⟨by simpa [ordC] using hB, h⟩
  | (i, 0) :: r, L, f, a, w, hf, hS, hB, h => by
    simp only [ordC, Bool.and_eq_true, bne_iff_ne, ne_eq] at hB
    obtain ⟨⟨⟨⟨h1, h2⟩, h3⟩, h4⟩, h5⟩ := hB
    obtain ⟨o, hi⟩ := Option.isSome_iff_exists.1 h3
    have hi' : ol[i]? = some o := by simpa using hi
    simp only [inOrdC, hi', wpPh] at h
    obtain ⟨v, hy, hr⟩ := h
    have hn := listed_next (i := i) hf
    rw [beq_false_of_ne h4, Bool.or_false] at hn
    exact anyPh_first (V := A) hi (Region.noSelect_spec hs) (fun c a w => hQ _ _ c a w) h4 (.inl fun _ q => q) _ _ a w (Region.free_spec hi h2) (.inl fun _ q => q) (by simpa using h1) hy hS (wpPh_any hs hQ r _ f _ w hn (by unfold PhS at hS ⊢; rw [getD_set_ne true h4]; exact hS) h5 hr)
  | (i, 1) :: r, L, f, a, w, hf, hS, hB, h => by
    simp only [ordC, Bool.and_eq_true, bne_iff_ne, ne_eq, Bool.not_eq_true'] at hB
    obtain ⟨⟨⟨⟨⟨⟨h1, h2⟩, h3⟩, h4⟩, h6⟩, h7⟩, h5⟩ := hB
    obtain ⟨o, hi⟩ := Option.isSome_iff_exists.1 h3
    have hi' : ol[i]? = some o := by simpa using hi
    simp only [inOrdC, hi', wpPh] at h
    obtain ⟨v, hy, hr⟩ := h
    have hn := listed_next (i := i) hf
    rw [beq_false_of_ne h4, Bool.or_false] at hn
    refine anyPh_first (V := fun w => A w ∧ B w) hi (Region.noSelect_spec hs) (fun c a w => hQ _ _ c a w) h4 (.inr ⟨fun _ q1 q2 => ⟨q1, q2⟩, fun om hom => ?_⟩) _ _ a w (Region.free_spec hi h2) (.inr h6) (by simpa using h1) hy hS (wpPh_any hs hQ r _ f _ w hn (by unfold PhS at hS ⊢; rw [getD_set_ne true h4]; exact hS) h5 hr)
    rw [hom] at h7
    simp only [Array.any_eq_true, Bool.and_eq_true, beq_iff_eq] at h7
    obtain ⟨k, hk, q1, q2⟩ := h7
    exact ⟨_, Array.getElem_mem hk, q1, q2⟩
  | (i, k + 2) :: r, L, f, a, w, hf, hS, hB, h => by
    simp only [ordC, Bool.and_eq_true, beq_iff_eq] at hB
    obtain ⟨⟨h1, h3⟩, h2⟩ := hB
    obtain ⟨o, hi⟩ := Option.isSome_iff_exists.1 h3
    have hi' : ol[i]? = some o := by simpa using hi
    simp only [inOrdC, hi', wpPh] at h
    have hn := listed_next (i := i) hf
    have ph : ∀ w', (A w' ∧ ((f || (i == m)) = false → B w')) → PhS A B m (L.setIfInBounds i true) w' := fun w' q => by
      unfold PhS
      rw [hn]
      exact q
    refine ⟨fun q => (by rw [h1] at q; cases q), fun j hj => ?_⟩
    rw [h1] at hj
    obtain rfl : j = i := by simpa using hj
    unfold wpOp
    rw [hi]
    simp only
    split
    · rename_i hw
      rw [if_pos hw] at h
      exact .inl (Oper.wp_mono (fun a' w' h' => ⟨ph w' h'.1, wpPh_any hs hQ r _ _ a' w' hn (ph w' h'.1) h2 h'.2⟩) h)
    · rename_i hw
      rw [if_neg hw] at h
      exact ⟨ph w h.1, wpPh_any hs hQ r _ _ _ w hn (ph w h.1) h2 h.2⟩
/-- A region that draws its order, walked in the order l. -/
theorem wp_region_ph {id : Nat} {a : Act} {w : World} {ol : List Oper} (m : Nat) (l : List (Nat × Nat)) (hm : P.follows .mixedOrders = true) (hl : l.length = ol.length)
    (hB : (Region.noSelect ol.toArray && (!((Array.replicate ol.toArray.size false).getD m true)) && ordC ol.toArray m l (Array.replicate ol.toArray.size false)) = true) (hQ : ∀ d v c a w, Q (.panic c) (a.put d v) w → Q (.panic c) a w)
    (hA : A w.drew) (hB0 : B w.drew) (h : wpPh P ol.toArray Q A B (inOrdC ol m l) false a w.drew) : (Code.region id ol.toArray true).wp P Q a w := by
  simp only [Bool.and_eq_true, Bool.not_eq_true'] at hB
  have h1 := wpPh_any hB.1.1 hQ l _ false a w.drew hB.1.2 ⟨hA, fun _ => hB0⟩ hB.2 h
  rw [hl] at h1
  exact wp_region_any hm (anyPh_any _ _ _ _ (by simpa using h1))
section
variable {r : List (Nat × Bool × Oper)} {mm f : Bool} {a : Act} {w w' : World} {o : Oper} {v : Value}
/-- The steps of such a walk: a read under A, a read under B, something that is made, something that is done, a call. -/
theorem wpPh_yield (hw : Region.wanted o (yielded ops a.tmps) = true) (hr : ∀ u, A u → (execOp a.eval o).run P u = .ok (.value v) u) (h : wpPh P ops Q A B r f (a.put o.dst v) w) : wpPh P ops Q A B ((0, mm, o) :: r) f a w := ⟨v, .inl ⟨hw, hr⟩, h⟩
theorem wpPh_read (hw : Region.wanted o (yielded ops a.tmps) = true) (hr : ∀ u, A u → B u → (execOp a.eval o).run P u = .ok (.value v) u) (h : wpPh P ops Q A B r f (a.put o.dst v) w) : wpPh P ops Q A B ((1, mm, o) :: r) f a w := ⟨v, .inl ⟨hw, fun u q => hr u q.1 q.2⟩, h⟩
theorem wpPh_make (hw : Region.wanted o (yielded ops a.tmps) = true) (hr : (execOp a.eval o).run P w = .ok (.value v) w') (hS : A w' ∧ ((f || mm) = false → B w')) (h : wpPh P ops Q A B r (f || mm) (a.put o.dst v) w') : wpPh P ops Q A B ((2, mm, o) :: r) f a w := by
  simp only [wpPh, hw, if_true]
  unfold Oper.wp
  rw [hr]
  exact ⟨hS, h⟩
theorem wpPh_do (hw : Region.wanted o (yielded ops a.tmps) = true) (hr : (execOp a.eval o).run P w = .ok .skip w') (hS : A w' ∧ ((f || mm) = false → B w')) (h : wpPh P ops Q A B r (f || mm) (a.put o.dst undef) w') : wpPh P ops Q A B ((2, mm, o) :: r) f a w := by
  simp only [wpPh, hw, if_true]
  unfold Oper.wp
  rw [hr]
  exact ⟨hS, h⟩
theorem wpPh_call (hw : Region.wanted o (yielded ops a.tmps) = true) (fn : FuncId) (xs : List Operand) (ts : Array TypeId) (ho : o.op = .call { callee := .value (.func fn), args := xs.toArray, argTypes := ts }) (hc : ∀ args u, (callFunc fn args).run P u = .ok (.enter fn args) u) (args : List Value) (hx : xs.map a.eval = args)
    (h : Calls P fn args.toArray w fun e w' => ∃ v, e = .returned v ∧ (A w' ∧ ((f || mm) = false → B w')) ∧ wpPh P ops Q A B r (f || mm) (a.put o.dst v) w') : wpPh P ops Q A B ((2, mm, o) :: r) f a w := by
  simp only [wpPh, hw, if_true]
  unfold Oper.wp execOp
  have e : (do let d ← resolve a.eval { callee := .value (.func fn), args := xs.toArray, argTypes := ts } o.type; invoke d.target d.args : Sem Next).run P w = .ok (.enter fn args.toArray) w := by
    have hx' : xs.toArray.map a.eval = args.toArray := by rw [← hx]; simp
    simp only [resolve, hx']
    simp [Act.eval, Deferred.ofValue, invoke, hc]
  simp only [ho]
  rw [e]
  unfold Oper.upon
  exact h.mono fun e w' ⟨v, he, h1, h2⟩ => by subst he; exact ⟨h1, h2⟩
end
end
end Go.Proofs.YtlcdpmjdnihocaaGreatD
/- Lists of blocks with their numbers that grow; copies of them; of fewer bytes than memory has. -/
namespace Go.Proofs.YtlcdpmjdnihocaaGreatD
open Go.RowKit Go.Maps
section
variable {w W W' : World} {v v' : Value}
theorem append_gen {st e : TypeId} {i : TypeInfo} {z : Value} {size bytes : Nat} (ht : Tryz.prog.underlying st = some (.slice e)) (hi : Tryz.prog.info? e = some i) (hz : i.zero = some z) (hsize : i.size = size) (hby : i.bytes = bytes) (hzs : z.cells.size = size) (hsz : 0 < size)
    {B : Nat} {n : Nat} {xs : List Value} (hown : W.ownsRow B e size v n xs) {ad : Addr} {m c : Nat} {news : List Value} (hm : 0 < m) (hl : news.length = m * size)
    (hnews : ∀ j u, news[j]? = some u → W.cell? (ad.add j) = some u) (h1 : ∀ u ∈ news, u.oneCell' = true) (h63 : n + m ≤ maxLen) (hbytes : ((n + m) + (n + m) / 4 + 192) * bytes ≤ 281474976710656) (hB : B ≤ W.heap.size) (ty : TypeId) :
    ∃ v' w', (Builtin.append_ #[st, st] ty #[v, .slice (some ad) m c]).run Tryz.prog W = .ok v' w' ∧ w'.ownsRow B e size v' (n + m) (xs ++ news) ∧ Fr (fun k => v.ownBlock = some k) W w' ∧ ∀ k, v'.ownBlock = some k → v.ownBlock = some k ∨ W.heap.size ≤ k := by
  obtain ⟨v', w', hr, h2, hg, _⟩ := run_append_own_wide (P := Tryz.prog) W B st ty e i z size bytes ht hi hz hsize hby hzs hsz v n xs hown ad m c news hl hnews h1 h63 hbytes hB
  refine ⟨v', w', hr, h2, Fr.ofGrown hg, fun k hk => ?_⟩
  have hmx : n + m ≤ 9223372036854775807 := by simp only [maxLen] at h63; omega
  have hmb : m * i.bytes ≤ 281474976710656 := by
    rw [hby]
    exact Nat.le_trans (Nat.mul_le_mul_right _ (by omega)) hbytes
  subst hsize
  subst hby
  rcases hown.2 with ⟨rfl, rfl⟩ | ⟨g, cap, cur, rfl, _, hg', hnc, hcm, hcs, htake⟩
  · rw [run_append_nil (P := Tryz.prog) W st ty e i _ ht hi hz ad m c news hl hnews hm (by omega) hmb] at hr
    injection hr with q1 q2
    rw [← q1] at hk
    injection hk with hk
    exact .inr (by rw [← hk]; exact Nat.le_refl _)
  · by_cases hroom : n + m ≤ cap
    · have hfit : n * i.size + news.length ≤ cur.size := by rw [hl, hcs, ← Nat.add_mul]; exact Nat.mul_le_mul_right _ hroom
      rw [run_append_room (P := Tryz.prog) W st ty e i ht hi g n cap cur hg' ad m c news hl hnews h1 hroom hfit] at hr
      injection hr with q1 q2
      rw [← q1] at hk
      exact .inl hk
    · rw [run_append_grow (P := Tryz.prog) W st ty e i _ ht hi hz ⟨g, 0, none⟩ n cap xs hown.1 (hown.cells (g := g) rfl) ad m c news hl hnews (by omega) (by omega) (growslice_fits_wide (by omega) hbytes)] at hr
      injection hr with q1 q2
      rw [← q1] at hk
      injection hk with hk
      exact .inr (by rw [← hk]; exact Nat.le_refl _)
theorem exec_push {o : Oper} {a : Act} {s y : Operand} {st : TypeId} {ad : Addr} {m c : Nat} (ho : o.op = .call { callee := .builtin .append, args := #[s, y], argTypes := #[st, st] }) (hs : a.eval s = v) (hx : a.eval y = .slice (some ad) m c)
    (hr : (Builtin.append_ #[st, st] o.type #[v, .slice (some ad) m c]).run Tryz.prog W = .ok v' W') : (execOp a.eval o).run Tryz.prog W = .ok (.value v') W' := by
  simp [execOp, ho, resolve, invoke, builtin, hs, hx, hr, Result.andThen]
theorem build30 (c : Cel) (u : World) : (Instr.buildSlice 22 1 #[(0, .agg (celRow c).toArray)]).run Tryz.prog u = .ok (.slice (some ⟨u.heap.size, 0, none⟩) 1 1) (u.alloc (.cells (celRow c).toArray 81)) :=
  build1 22 81 1025 _ _ Tryz.underlying22 Tryz.sizeOf81 (by omega) zero85 (cel_size c) u
section
variable {o : Oper} {a : Act}
theorem exec_mv {x : Operand} {v : Value} (ho : o.op = .move x) (hx : a.eval x = v) : (execOp a.eval o).run Tryz.prog W = .ok (.value v) W := by
  unfold execOp
  simp [ho, hx]
theorem exec_slice85 {y : Operand} {c : Cel} (ho : o.op = .buildSlice 22 1 #[(0, y)]) (hy : a.eval y = .agg (celRow c).toArray) : (execOp a.eval o).run Tryz.prog W = .ok (.value (.slice (some ⟨W.heap.size, 0, none⟩) 1 1)) (W.alloc (.cells (celRow c).toArray 81)) := by
  have e := build30 c W
  generalize (celRow c).toArray = Z at *
  simp [execOp, ho, hy, e]
theorem exec_build85 {x y : Operand} {p : Int} {f : Nat → Int} (ho : o.op = .build 81 #[(0, x), (1, y)]) (hx : a.eval x = .int .i64 p) (hy : a.eval y = .agg (blk f)) : (execOp a.eval o).run Tryz.prog W = .ok (.value (.agg (celRow (p, f)).toArray)) W := by
  have e := build85 p f W
  generalize (celRow (p, f)).toArray = Z at *
  generalize blk f = Y at *
  simp [execOp, ho, hx, hy, e]
theorem exec_load85 {x : Operand} {g off : Nat} {c : Cel} (ho : o.op = .load 81 x) (hx : a.eval x = .pointer (some ⟨g, off, none⟩)) (hc : CelAt W g off c) : (execOp a.eval o).run Tryz.prog W = .ok (.value (.agg (celRow c).toArray)) W := by
  have e := load85 hc
  generalize (celRow c).toArray = Z at *
  unfold execOp
  simp only [ho, hx, e, Sem.run_bind, Result.andThen_ok, Sem.run_pure]
theorem wpList_exec {ops : Array Oper} {rest : List Oper} {Q : Exit → Act → World → Prop} {v : Value} {W' : World} (hgd : o.guard = none) (hr : (execOp a.eval o).run Tryz.prog W = .ok (.value v) W') (h : wpList Tryz.prog ops Q rest (a.put o.dst v) W') : wpList Tryz.prog ops Q (o :: rest) a W := by
  refine wpList_plain hgd fun K' hK' => ?_
  unfold Oper.wp
  rw [hr]
  exact hK' _ _ h
end
/-- A list of blocks with their numbers, made since B. -/
def HL (B : Nat) (W : World) (v : Value) (l : List Cel) : Prop := W.ownsRow B 81 1025 v l.length (celCells l)
theorem HL.img {B : Nat} {l : List Cel} (h : HL B W v l) : ∃ p c, v = .slice p l.length c ∧ ImgAt W p l ∧ l.length ≤ c ∧ (∀ b off, p = some ⟨b, off, none⟩ → B ≤ b ∧ b < W.heap.size ∧ off = 0) := by
  have h' := h
  rcases h.2 with ⟨h1, h2⟩ | ⟨g, cap, cur, h1, hB, hg, hnc, _, hcs, ht⟩
  · exact ⟨none, 0, by rw [h1, h2], fun q => by omega, by omega, fun _ _ q => by cases q⟩
  · have hlt := (Array.getElem?_eq_some_iff.1 hg).1
    subst h1
    refine ⟨some ⟨g, 0, none⟩, cap, rfl, fun _ => ⟨g, 0, rfl, hlt, fun k c hc => ?_⟩, hnc, fun b off q => ?_⟩
    · have q := cel_at h' (K := 0 + k * 1025) (by omega) hc
      exact q
    · injection q with q
      injection q with q1 q2
      exact ⟨by omega, by omega, by omega⟩
theorem celCells_snoc (l : List Cel) (c : Cel) : celCells (l ++ [c]) = celCells l ++ celRow c := by simp [celCells]
theorem HL.nil (B : Nat) (W : World) : HL B W (.slice none 0 0) [] := ⟨rfl, .inl ⟨rfl, rfl⟩⟩
theorem HL.push {B : Nat} {l : List Cel} (h : HL B W v l) (hB : B ≤ W.heap.size) (hl : l.length ≤ 100000000) (c : Cel) (ty : TypeId) :
    ∃ v' W', (Builtin.append_ #[22, 22] ty #[v, .slice (some ⟨W.heap.size, 0, none⟩) 1 1]).run Tryz.prog (W.alloc (.cells (celRow c).toArray 81)) = .ok v' W' ∧ HL B W' v' (l ++ [c]) ∧ Below B W W' ∧ Fr (fun k => v.ownBlock = some k) W W' ∧ ∀ k, v'.ownBlock = some k → v.ownBlock = some k ∨ W.heap.size ≤ k := by
  obtain ⟨i0, hi0, hz0, hz1, hz2⟩ := info_parts info85
  have hnews : ∀ j u, (celRow c)[j]? = some u → (W.alloc (.cells (celRow c).toArray 81)).cell? ((⟨W.heap.size, 0, none⟩ : Addr).add j) = some u := fun j u hu => by
    rw [Go.WideShapes.add_plain, Nat.zero_add, cell_of_row _ _ j _ 81 _ (heap_alloc_new W _), List.getElem?_toArray]
    exact hu
  obtain ⟨v', W', hr, h2, h3, h4⟩ := append_gen Tryz.underlying22 hi0 hz0 hz1 hz2 (cel_size (0, nought)) (by omega) (World.ownsRow.alloc h (.cells (celRow c).toArray 81)) (ad := ⟨W.heap.size, 0, none⟩) (m := 1) (c := 1) (news := celRow c) (by omega) (by rw [celRow_len]) hnews (celRow_one c) (by unfold maxLen; omega) (by omega) (by simp only [World.alloc, Array.size_push]; omega) ty
  have hF : Fr (fun k => v.ownBlock = some k) W W' := (Fr.alloc _ W (.cells (celRow c).toArray 81)).trans h3 fun _ _ q => q
  refine ⟨v', W', hr, ?_, hF.below (fun i q => (h.lt i q).1) hB, hF, fun k hk => ?_⟩
  · unfold HL
    rw [celCells_snoc, List.length_append]
    exact h2
  · rcases h4 k hk with q | q
    · exact .inl q
    · exact .inr (by simp only [World.alloc, Array.size_push] at q; omega)
end
end Go.Proofs.YtlcdpmjdnihocaaGreatD
/- Lists of anything in memory of their own: copied, gone on with, told apart; one cell of a row written. -/
namespace Go.Proofs.YtlcdpmjdnihocaaGreatD
open Go.RowKit Go.Maps
section
variable {α : Type} {en : α → List Value} {sz : Nat}
theorem fml (hr : ∀ x, (en x).length = sz) : ∀ l : List α, (l.flatMap en).length = l.length * sz
  | [] => by simp
  | x :: t => by rw [List.flatMap_cons, List.length_append, hr, fml hr t, List.length_cons, Nat.add_mul, Nat.one_mul, Nat.add_comm]
/-- A row with some cells written over. -/
def putE (cur : Array Value) (off : Nat) (r : List Value) : Array Value := (cur.toList.take off ++ r ++ cur.toList.drop (off + r.length)).toArray
theorem own_set (hr : ∀ x, (en x).length = sz) {B e g n c i : Nat} {w : World} {l : List α} {x : α} (h : w.ownsRow B e sz (.slice (some ⟨g, 0, none⟩) n c) n (l.flatMap en)) (hl : l.length = n) (hi : i < n) :
    ∃ cur, w.heap[g]? = some (.cells cur e) ∧ i * sz + sz ≤ cur.size ∧ (w.setRow g (putE cur (i * sz) (en x))).ownsRow B e sz (.slice (some ⟨g, 0, none⟩) n c) n ((l.set i x).flatMap en) := by
  obtain ⟨_, h2⟩ := h
  rcases h2 with ⟨q, _⟩ | ⟨g', cap, cur, hv, hB, hg, hnc, hcm, hcs, ht⟩
  · simp at q
  · injection hv with q1 q2 q3
    injection q1 with q1
    injection q1 with q1
    subst q1; subst q3
    have el : l = l.take i ++ l[i] :: l.drop (i + 1) := by rw [← List.drop_eq_getElem_cons (by omega), List.take_append_drop]
    have es : l.set i x = l.take i ++ x :: l.drop (i + 1) := List.set_eq_take_append_cons_drop.trans (if_pos (by omega))
    have hA : ((l.take i).flatMap en).length = i * sz := by rw [fml hr, List.length_take, Nat.min_eq_left (by omega)]
    have hC : ((l.drop (i + 1)).flatMap en).length = (n - (i + 1)) * sz := by rw [fml hr, List.length_drop, hl]
    have hF : l.flatMap en = (l.take i).flatMap en ++ (en l[i] ++ (l.drop (i + 1)).flatMap en) := by
      conv => lhs; rw [el]
      rw [List.flatMap_append, List.flatMap_cons]
    have hcur : cur.toList = (l.take i).flatMap en ++ (en l[i] ++ ((l.drop (i + 1)).flatMap en ++ cur.toList.drop (n * sz))) := by
      conv => lhs; rw [← List.take_append_drop (n * sz) cur.toList]
      rw [ht, hF, List.append_assoc, List.append_assoc]
    have hmul : i * sz + (sz + (n - (i + 1)) * sz) = n * sz := by
      rw [← Nat.add_assoc, show i * sz + sz = (i + 1) * sz by rw [Nat.add_mul, Nat.one_mul], ← Nat.add_mul]
      congr 1
      omega
    have hle : n * sz ≤ cur.size := by rw [hcs]; exact Nat.mul_le_mul_right _ hnc
    have hne : (l.set i x).flatMap en = (l.take i).flatMap en ++ (en x ++ (l.drop (i + 1)).flatMap en) := by rw [es, List.flatMap_append, List.flatMap_cons]
    generalize (l.take i).flatMap en = A at *
    generalize (l.drop (i + 1)).flatMap en = C at *
    generalize cur.toList.drop (n * sz) = R at *
    have hp : putE cur (i * sz) (en x) = (A ++ (en x ++ (C ++ R))).toArray := by
      unfold putE
      rw [hr, hcur, ← hA, List.take_left, show A.length + sz = (A ++ en l[i]).length by rw [List.length_append, hr], ← List.append_assoc, List.drop_left, List.append_assoc]
    have hcl : cur.size = A.length + (sz + (C.length + R.length)) := by
      rw [← Array.length_toList, hcur, List.length_append, List.length_append, List.length_append, hr]
    refine ⟨cur, hg, by omega, ?_⟩
    rw [hp, hne]
    refine ⟨by rw [List.length_append, List.length_append, hr, hA, hC]; exact hmul, .inr ⟨g, c, _, rfl, hB, setRow_heap _ _ _ _ _ _ hg, hnc, hcm, ?_, ?_⟩⟩
    · rw [List.size_toArray, List.length_append, List.length_append, List.length_append, hr, ← hcl, hcs]
    · rw [List.toList_toArray, show n * sz = (A ++ (en x ++ C)).length by rw [List.length_append, List.length_append, hr, hA, hC]; exact hmul.symm, ← List.append_assoc, ← List.append_assoc, ← List.append_assoc, List.take_left]
theorem own_other {B e n g : Nat} {w : World} {v : Value} {xs : List Value} (h : w.ownsRow B e sz v n xs) (hg : v.ownBlock ≠ some g) (cs : Array Value) : (w.setRow g cs).ownsRow B e sz v n xs := by
  obtain ⟨h1, h2⟩ := h
  refine ⟨h1, ?_⟩
  rcases h2 with h2 | ⟨g', cap, cur, rfl, hB, hh, r⟩
  · exact .inl h2
  · refine .inr ⟨g', cap, cur, rfl, hB, ?_, r⟩
    rw [setRow_other w g g' cs fun q => hg (by rw [q]; rfl)]
    exact hh
theorem own_later {w w' : World} {base e size : Nat} {v : Value} {n : Nat} {xs : List Value} (h : w.ownsRow base e size v n xs) (hb : Below w.heap.size w w') : w'.ownsRow base e size v n xs := by
  obtain ⟨h1, h2⟩ := h
  refine ⟨h1, ?_⟩
  rcases h2 with h2 | ⟨g, cap, cur, hv, hg, hh, r⟩
  · exact .inl h2
  · exact .inr ⟨g, cap, cur, hv, hg, (hb.block g (Array.getElem?_eq_some_iff.1 hh).1).trans hh, r⟩
theorem own_frame {w w' : World} {base e size : Nat} {v : Value} {n : Nat} {xs : List Value} {T : Nat → Prop} (h : w.ownsRow base e size v n xs) (hf : Fr T w w') (hT : ∀ i, v.ownBlock = some i → ¬ T i) : w'.ownsRow base e size v n xs := by
  obtain ⟨h1, h2⟩ := h
  refine ⟨h1, ?_⟩
  rcases h2 with h2 | ⟨g, cap, cur, rfl, hg, hh, r⟩
  · exact .inl h2
  · exact .inr ⟨g, cap, cur, rfl, hg, (hf.block g (Array.getElem?_eq_some_iff.1 hh).1 (hT g rfl)).trans hh, r⟩
theorem own_get (hr : ∀ x, (en x).length = sz) {B e g n c i : Nat} {w : World} {l : List α} {x : α} (h : w.ownsRow B e sz (.slice (some ⟨g, 0, none⟩) n c) n (l.flatMap en)) (hx : l[i]? = some x) : ∀ j v, (en x)[j]? = some v → w.cell? ⟨g, i * sz + j, none⟩ = some v := fun j v hv => by
  have hj : j < sz := by have := (List.getElem?_eq_some_iff.1 hv).1; rwa [hr] at this
  have hln := h.1
  rw [fml hr] at hln
  have hi : i < l.length := (List.getElem?_eq_some_iff.1 hx).1
  have hlt : i * sz + j < n * sz := by
    rw [← hln]
    have : (i + 1) * sz ≤ l.length * sz := Nat.mul_le_mul_right _ hi
    rw [Nat.add_mul, Nat.one_mul] at this
    omega
  rw [World.ownsRow.cellAt h _ hlt, fm_get (row := en) (n := sz) hr l i j x hx hj]
  exact hv
theorem own_form {w : World} {B e n : Nat} {v : Value} {xs : List Value} (h : w.ownsRow B e sz v n xs) : (v = .slice none 0 0 ∧ n = 0) ∨ ∃ g c, v = .slice (some ⟨g, 0, none⟩) n c ∧ g < w.heap.size := by
  rcases h.2 with q | ⟨g, c, cur, hv, _, hh, _⟩
  · exact .inl q
  · exact .inr ⟨g, c, hv, (Array.getElem?_eq_some_iff.1 hh).1⟩
/-- Append onto a list: the longer one, what stays, and that the shorter one is as it was. -/
theorem append_keep {st e : TypeId} {i : TypeInfo} {z : Value} {bytes : Nat} (ht : Tryz.prog.underlying st = some (.slice e)) (hi : Tryz.prog.info? e = some i) (hz : i.zero = some z) (hsize : i.size = sz) (hby : i.bytes = bytes) (hzs : z.cells.size = sz) (hsz : 0 < sz)
    {W : World} {v : Value} {B : Nat} {n : Nat} {xs : List Value} (hown : W.ownsRow B e sz v n xs) {ad : Addr} {m c : Nat} {news : List Value} (hm : 0 < m) (hl : news.length = m * sz)
    (hnews : ∀ j u, news[j]? = some u → W.cell? (ad.add j) = some u) (h1 : ∀ u ∈ news, u.oneCell' = true) (h63 : n + m ≤ maxLen) (hbytes : ((n + m) + (n + m) / 4 + 192) * bytes ≤ 281474976710656) (hB : B ≤ W.heap.size) (ty : TypeId) :
    ∃ v' w', (Builtin.append_ #[st, st] ty #[v, .slice (some ad) m c]).run Tryz.prog W = .ok v' w' ∧ w'.ownsRow B e sz v' (n + m) (xs ++ news) ∧ w'.ownsRow B e sz v n xs ∧ Fr (fun k => v.ownBlock = some k) W w' ∧ ∀ k, v'.ownBlock = some k → v.ownBlock = some k ∨ W.heap.size ≤ k := by
  obtain ⟨v', w', hr, h2, hg, h4⟩ := append_gen (W := W) (v := v) ht hi hz hsize hby hzs hsz hown (ad := ad) (m := m) (c := c) hm hl hnews h1 h63 hbytes hB ty
  refine ⟨v', w', hr, h2, ?_, hg, h4⟩
  have hmx : n + m ≤ 9223372036854775807 := by simp only [maxLen] at h63; omega
  subst hsize
  subst hby
  have hown' := hown
  rcases hown.2 with ⟨rfl, rfl⟩ | ⟨g, cap, cur, rfl, hBg, hg', hnc, hcm, hcs, htake⟩
  · exact ⟨hown.1, .inl ⟨rfl, rfl⟩⟩
  · by_cases hroom : n + m ≤ cap
    · have hfit : n * i.size + news.length ≤ cur.size := by rw [hl, hcs, ← Nat.add_mul]; exact Nat.mul_le_mul_right _ hroom
      rw [run_append_room (P := Tryz.prog) W st ty e i ht hi g n cap cur hg' ad m c news hl hnews h1 hroom hfit] at hr
      injection hr with q1 q2
      subst q1
      rcases h2.2 with ⟨q, _⟩ | ⟨g2, cap2, cur2, q, _, hh2, _, _, hcs2, ht2⟩
      · simp at q
      · injection q with q1 q2' q3
        injection q1 with q1
        injection q1 with q1
        subst q1; subst q3
        refine ⟨hown.1, .inr ⟨g, cap, cur2, rfl, hBg, hh2, hnc, hcm, hcs2, ?_⟩⟩
        have hx := hown.1
        rw [show cur2.toList.take (n * i.size) = (cur2.toList.take ((n + m) * i.size)).take (n * i.size) by rw [List.take_take, Nat.min_eq_left (Nat.mul_le_mul_right _ (by omega))], ht2, ← hx, List.take_left]
    · rw [run_append_grow (P := Tryz.prog) W st ty e i _ ht hi hz ⟨g, 0, none⟩ n cap xs hown.1 (hown.cells (g := g) rfl) ad m c news hl hnews (by omega) (by omega) (growslice_fits_wide (by omega) hbytes)] at hr
      injection hr with q1 q2
      rw [← q2]
      exact World.ownsRow.alloc (show W.drew.ownsRow B e i.size _ n xs from hown') _
/-- Marks in a list. -/
def mks (mk : Nat → α) (n : Nat) : List α := (List.range n).map mk
theorem mks_len (mk : Nat → α) (n : Nat) : (mks mk n).length = n := by simp [mks]
theorem mks_succ (mk : Nat → α) (n : Nat) : mks mk (n + 1) = mks mk n ++ [mk n] := by simp [mks, List.range_succ]
theorem mks_get (mk : Nat → α) (n i : Nat) (h : i < n) : (mks mk n)[i]? = some (mk i) := by simp [mks, h]
/-- l, its first i as marks. -/
def asM (mk : Nat → α) (l : List α) (i : Nat) : List α := mks mk i ++ l.drop i
theorem asM_len (mk : Nat → α) (l : List α) (i : Nat) (h : i ≤ l.length) : (asM mk l i).length = l.length := by
  unfold asM
  rw [List.length_append, mks_len, List.length_drop]
  omega
theorem asM_set (mk : Nat → α) (l : List α) (i : Nat) (h : i < l.length) : (asM mk l i).set i (mk i) = asM mk l (i + 1) := by
  unfold asM
  rw [mks_succ, List.set_append_right _ _ (by rw [mks_len]; omega), mks_len, Nat.sub_self, List.drop_eq_getElem_cons h, List.set_cons_zero, List.append_assoc]
  rfl
theorem asM_full (mk : Nat → α) (l : List α) : asM mk l l.length = mks mk l.length := by unfold asM; rw [List.drop_length, List.append_nil]
theorem asM_zero (mk : Nat → α) (l : List α) : asM mk l 0 = l := by unfold asM mks; simp
/-- Some are written full, one as far as i. -/
def fillU (mk : Nat → Nat → α) (fs : Nat → List α) (k i : Nat) : Nat → List α := fun j => if j < k then mks (mk j) (fs j).length else if j = k then asM (mk j) (fs j) i else fs j
theorem fillU_at (mk : Nat → Nat → α) (fs : Nat → List α) (k i : Nat) : fillU mk fs k i k = asM (mk k) (fs k) i := by unfold fillU; rw [if_neg (by omega), if_pos rfl]
theorem fillU_len (mk : Nat → Nat → α) (fs : Nat → List α) (k i : Nat) (h : i ≤ (fs k).length) (j : Nat) : (fillU mk fs k i j).length = (fs j).length := by
  unfold fillU
  split
  · rw [mks_len]
  · split
    · rename_i e
      subst e
      exact asM_len _ _ _ h
    · rfl
theorem fillU_zero (mk : Nat → Nat → α) (fs : Nat → List α) (j : Nat) : fillU mk fs 0 0 j = fs j := by
  unfold fillU
  rw [if_neg (by omega)]
  split
  · rw [asM_zero]
  · rfl
theorem fillU_next (mk : Nat → Nat → α) (fs : Nat → List α) (k j : Nat) : fillU mk fs k (fs k).length j = fillU mk fs (k + 1) 0 j := by
  unfold fillU
  by_cases h1 : j < k
  · rw [if_pos h1, if_pos (by omega)]
  · by_cases h2 : j = k
    · subst h2
      rw [if_neg h1, if_pos rfl, if_pos (by omega), asM_full]
    · rw [if_neg h1, if_neg h2, if_neg (by omega)]
      by_cases h3 : j = k + 1
      · rw [if_pos h3, asM_zero]
      · rw [if_neg h3]
theorem fillU_step (mk : Nat → Nat → α) (fs : Nat → List α) (k i j : Nat) (h : j ≠ k) : fillU mk fs k i j = fillU mk fs k (i + 1) j := by unfold fillU; simp [h]
/-- The lists' blocks. -/
def TV (K : Nat) (vs : Nat → Value) (i : Nat) : Prop := ∃ k, k < K ∧ (vs k).ownBlock = some i
/-- No two of the lists lie in one block, and none lies in their row's. -/
structure Apt (K gl : Nat) (vs : Nat → Value) : Prop where
  row : ∀ k, k < K → (vs k).ownBlock ≠ some gl
  two : ∀ j k, j < K → k < K → j ≠ k → ∀ b, (vs j).ownBlock = some b → (vs k).ownBlock ≠ some b
/-- The lists' row, the lists; nothing else has turned. -/
structure Lsts (en : α → List Value) (e sz : Nat) (K gl : Nat) (vs : Nat → Value) (w0 : World) (fs : Nat → List α) (w : World) : Prop where
  fr : Fr (TV K vs) w0 w
  head : ∀ k, k < K → w.cell? ⟨gl, k, none⟩ = some (vs k)
  own : ∀ k, k < K → w.ownsRow 0 e sz (vs k) (fs k).length ((fs k).flatMap en)
theorem Lsts.later {e K gl : Nat} {vs : Nat → Value} {w0 w w' : World} {fs : Nat → List α} (h : Lsts en e sz K gl vs w0 fs w) (hb : Below w.heap.size w w') : Lsts en e sz K gl vs w0 fs w' :=
  ⟨h.fr.trans (Fr.ofBelow (T := TV K vs) hb) (fun _ _ q => q), fun k hk => (hb.cell (p := ⟨gl, k, none⟩) (block_lt_of_cell (h.head k hk))).trans (h.head k hk), fun k hk => own_later (h.own k hk) hb⟩
theorem Lsts.next {e K gl : Nat} {mk : Nat → Nat → α} {vs : Nat → Value} {w0 w : World} {fs : Nat → List α} {k : Nat} (h : Lsts en e sz K gl vs w0 (fillU mk fs k (fs k).length) w) : Lsts en e sz K gl vs w0 (fillU mk fs (k + 1) 0) w :=
  ⟨h.fr, h.head, fun j hj => by rw [← fillU_next]; exact h.own j hj⟩
theorem Lsts.store (hr : ∀ x, (en x).length = sz) {e K gl : Nat} {mk : Nat → Nat → α} {vs : Nat → Value} {w0 w : World} {fs : Nat → List α} {k i g n c : Nat} (h : Lsts en e sz K gl vs w0 (fillU mk fs k i) w) (hap : Apt K gl vs) (hk : k < K)
    (hv : vs k = .slice (some ⟨g, 0, none⟩) n c) (hn : (fs k).length = n) (hi : i < n) :
    ∃ cur, w.heap[g]? = some (.cells cur e) ∧ i * sz + sz ≤ cur.size ∧ Lsts en e sz K gl vs w0 (fillU mk fs k (i + 1)) (w.setRow g (putE cur (i * sz) (en (mk k i)))) := by
  have ho := h.own k hk
  rw [fillU_len _ _ _ _ (by omega), hv, hn, fillU_at] at ho
  obtain ⟨cur, hg, hfit, hnew⟩ := own_set hr (x := mk k i) ho (by rw [asM_len _ _ _ (by omega)]; exact hn) hi
  rw [asM_set _ _ _ (by omega)] at hnew
  have hgl : gl ≠ g := fun q => hap.row k hk (by rw [hv, q]; rfl)
  refine ⟨cur, hg, hfit, ⟨h.fr.trans (Fr.setRow w g _) (fun j _ q => ⟨k, hk, by rw [hv, q]; rfl⟩), fun j hj => ?_, fun j hj => ?_⟩⟩
  · exact (World.cell?_of_block (a := ⟨gl, j, none⟩) (setRow_other w g gl _ hgl)).trans (h.head j hj)
  · by_cases q : j = k
    · subst q
      rw [fillU_len _ _ _ _ (by omega), hv, hn, fillU_at]
      exact hnew
    · have hj2 := own_other (h.own j hj) (g := g) (fun q2 => hap.two j k hj hk q g q2 (by rw [hv]; rfl)) (putE cur (i * sz) (en (mk k i)))
      rw [← fillU_step _ _ _ _ _ q]
      exact hj2
/-- What the lists hold still: marks. -/
def KeepC (en : α → List Value) (sz : Nat) (mk : Nat → α) (v : Value) (n : Nat) (w : World) : Prop := 0 < n → ∃ g c, v = .slice (some ⟨g, 0, none⟩) n c ∧ g < w.heap.size ∧ ∀ i, i < n → ∀ j u, (en (mk i))[j]? = some u → w.cell? ⟨g, i * sz + j, none⟩ = some u
theorem KeepC.of (hr : ∀ x, (en x).length = sz) {B e n : Nat} {mk : Nat → α} {v : Value} {w : World} (h : w.ownsRow B e sz v n ((mks mk n).flatMap en)) : KeepC en sz mk v n w := fun h0 => by
  rcases own_form h with ⟨_, q⟩ | ⟨g, c, rfl, hlt⟩
  · omega
  · exact ⟨g, c, rfl, hlt, fun i hi => own_get hr h (mks_get mk n i hi)⟩
theorem KeepC.frame {n : Nat} {mk : Nat → α} {v : Value} {w w' : World} {T : Nat → Prop} (h : KeepC en sz mk v n w) (hf : Fr T w w') (hT : ∀ i, v.ownBlock = some i → ¬ T i) : KeepC en sz mk v n w' := fun h0 => by
  obtain ⟨g, c, rfl, hlt, hc⟩ := h h0
  exact ⟨g, c, rfl, Nat.lt_of_lt_of_le hlt hf.size, fun i hi j u hu => (World.cell?_of_block (a := ⟨g, i * sz + j, none⟩) (hf.block g hlt (hT g rfl))).trans (hc i hi j u hu)⟩
/-- A longer list in the same block holds what the shorter one holds. -/
theorem KeepC.under (hr : ∀ x, (en x).length = sz) {B e n m : Nat} {mk : Nat → α} {v u : Value} {w : World} (h0 : KeepC en sz mk v n w ∨ ∃ g c, v = .slice (some ⟨g, 0, none⟩) n c) (hu : w.ownsRow B e sz u m ((mks mk m).flatMap en)) (hb : u.ownBlock = v.ownBlock) (hnm : n ≤ m) : KeepC en sz mk v n w := fun hn => by
  rcases own_form hu with ⟨_, q⟩ | ⟨g, c, rfl, hlt⟩
  · omega
  · have hv : ∃ g' c', v = .slice (some ⟨g', 0, none⟩) n c' := by
      rcases h0 with q | q
      · obtain ⟨g', c', q, _⟩ := q hn
        exact ⟨g', c', q⟩
      · exact q
    obtain ⟨g', c', rfl⟩ := hv
    have e1 : g = g' := by simpa [Value.ownBlock] using hb
    subst e1
    exact ⟨g, c', rfl, hlt, fun i hi => own_get hr hu (mks_get mk m i (by omega))⟩
/-- gv, but at k. -/
def updV (gv : Nat → Value) (k : Nat) (x : Value) : Nat → Value := fun j => if j = k then x else gv j
theorem range_updV (gv : Nat → Value) (k : Nat) (x : Value) : (List.range k).map gv ++ [x] = (List.range (k + 1)).map (updV gv k x) := by
  rw [List.range_succ, List.map_append]
  congr 1
  · apply List.map_congr_left
    intro j hj
    have := List.mem_range.1 hj
    unfold updV
    rw [if_neg (by omega)]
  · simp [updV]
end
section
variable {α : Type} {en : α → List Value} {e sl sz K gl : Nat} {mk : Nat → Nat → α} {vs : Nat → Value} {ns : Nat → Nat}
/-- The first k lists have been gone on with (gv), their row is v. -/
structure Grn (en : α → List Value) (e sl sz K gl : Nat) (mk : Nat → Nat → α) (vs : Nat → Value) (ns : Nat → Nat) (W2 : World) (k : Nat) (gv : Nat → Value) (v : Value) (w : World) : Prop where
  row : w.ownsRow W2.heap.size sl 1 v k ((List.range k).map gv)
  each : ∀ j, j < k → w.ownsRow 0 e sz (gv j) (ns j + 6) ((mks (mk j) (ns j + 6)).flatMap en) ∧ ((gv j).ownBlock = (vs j).ownBlock ∨ ∀ b, (gv j).ownBlock = some b → W2.heap.size ≤ b)
  keep : ∀ j, j < K → KeepC en sz (mk j) (vs j) (ns j) w
  own : ∀ j, k ≤ j → j < K → w.ownsRow 0 e sz (vs j) (ns j) ((mks (mk j) (ns j)).flatMap en)
  head : ∀ j, j < K → w.cell? ⟨gl, j, none⟩ = some (vs j)
  fr : Fr (TV K vs) W2 w
  glt : gl < W2.heap.size
  vlt : ∀ j, j < K → ∀ b, (vs j).ownBlock = some b → b < W2.heap.size
/-- List k is being gone on with: i marks more. -/
structure Inn (en : α → List Value) (e sz : Nat) (mk : Nat → α) (vk : Value) (nk : Nat) (W3 : World) (i : Nat) (u : Value) (w : World) : Prop where
  own : w.ownsRow 0 e sz u (nk + i) ((mks mk (nk + i)).flatMap en)
  blk : u.ownBlock = vk.ownBlock ∨ ∀ b, u.ownBlock = some b → W3.heap.size ≤ b
  keep : KeepC en sz mk vk nk w
  fr : Fr (fun b => vk.ownBlock = some b) W3 w
  vlt : ∀ b, vk.ownBlock = some b → b < W3.heap.size
theorem Inn.later {mk : Nat → α} {vk u : Value} {nk i : Nat} {W3 w w' : World} (h : Inn en e sz mk vk nk W3 i u w) (hb : Below w.heap.size w w') : Inn en e sz mk vk nk W3 i u w' :=
  ⟨own_later h.own hb, h.blk, h.keep.frame (Fr.ofBelow (T := fun _ => False) hb) (fun _ _ q => q), h.fr.trans (Fr.ofBelow (T := fun _ => False) hb) (fun _ _ q => q.elim), h.vlt⟩
theorem Inn.push (hr : ∀ x, (en x).length = sz) (h1 : ∀ x, ∀ u ∈ en x, u.oneCell' = true) {st : TypeId} {ti : TypeInfo} {z : Value} {bytes : Nat} (ht : Tryz.prog.underlying st = some (.slice e)) (hi : Tryz.prog.info? e = some ti) (hz : ti.zero = some z) (hsize : ti.size = sz) (hby : ti.bytes = bytes) (hzs : z.cells.size = sz) (hsz : 0 < sz)
    {mk : Nat → α} {vk u : Value} {nk i : Nat} {W3 w : World} (h : Inn en e sz mk vk nk W3 i u w) (hn : nk + i + 1 ≤ 500000000) (hbb : bytes ≤ 2000) (ty : TypeId) :
    ∃ u' w', (Builtin.append_ #[st, st] ty #[u, .slice (some ⟨w.heap.size, 0, none⟩) 1 1]).run Tryz.prog (w.alloc (.cells (en (mk (nk + i))).toArray e)) = .ok u' w' ∧ Inn en e sz mk vk nk W3 (i + 1) u' w' := by
  have hnews : ∀ j v, (en (mk (nk + i)))[j]? = some v → (w.alloc (.cells (en (mk (nk + i))).toArray e)).cell? ((⟨w.heap.size, 0, none⟩ : Addr).add j) = some v := fun j v hv => by
    rw [Go.WideShapes.add_plain, Nat.zero_add, cell_of_row _ _ j _ e _ (heap_alloc_new w _), List.getElem?_toArray]
    exact hv
  have hbt : ((nk + i + 1) + (nk + i + 1) / 4 + 192) * bytes ≤ 281474976710656 := by
    have : ((nk + i + 1) + (nk + i + 1) / 4 + 192) * bytes ≤ 625001940 * 2000 := Nat.mul_le_mul (by omega) hbb
    omega
  obtain ⟨u', w', hrun, ho', hou, hf, hnew⟩ := append_keep ht hi hz hsize hby hzs hsz (World.ownsRow.alloc h.own (.cells (en (mk (nk + i))).toArray e)) (ad := ⟨w.heap.size, 0, none⟩) (m := 1) (c := 1) (news := en (mk (nk + i))) (by omega) (by rw [hr, Nat.one_mul]) hnews (h1 _) (by unfold maxLen; omega) hbt (Nat.zero_le _) ty
  have hF : Fr (fun b => u.ownBlock = some b) w w' := (Fr.alloc _ w (.cells (en (mk (nk + i))).toArray e)).trans hf fun _ _ q => q
  have hsz3 : W3.heap.size ≤ w.heap.size := h.fr.size
  refine ⟨u', w', hrun, ⟨?_, ?_, ?_, h.fr.trans hF fun j hj q => ?_, h.vlt⟩⟩
  · rw [show nk + (i + 1) = nk + i + 1 by omega, mks_succ, List.flatMap_append]
    simpa using ho'
  · cases hb : u'.ownBlock with
    | none => exact .inr fun b q => by cases q
    | some b =>
      rcases hnew b hb with q | q
      · rcases h.blk with r | r
        · left
          rw [← r, q]
        · right
          intro b' hb'
          injection hb' with hb'
          rw [← hb']
          exact r b q
      · right
        intro b' hb'
        injection hb' with hb'
        rw [← hb']
        simp only [World.alloc, Array.size_push] at q
        omega
  · rcases h.blk with r | r
    · exact KeepC.under hr (.inl (show KeepC en sz mk vk nk w' from fun h0 => by
        obtain ⟨g, c, hv, hlt, _⟩ := h.keep h0
        exact (KeepC.under (n := nk) (v := vk) hr (.inr ⟨g, c, hv⟩) hou r (by omega)) h0)) hou r (by omega)
    · exact h.keep.frame hF fun b hb q => by
        have := h.vlt b hb
        have := r b q
        omega
  · rcases h.blk with r | r
    · rw [← r]; exact q
    · have := r j q
      omega
theorem Inn.start {vk : Value} {nk : Nat} {mk : Nat → α} {W3 : World} (hr : ∀ x, (en x).length = sz) (h : W3.ownsRow 0 e sz vk nk ((mks mk nk).flatMap en)) : Inn en e sz mk vk nk W3 0 vk W3 :=
  ⟨h, .inl rfl, KeepC.of hr h, Fr.refl _ _, fun b hb => (h.lt b hb).2⟩
/-- The row of the longer lists grows by one. -/
theorem Grn.next {ss : TypeId} {ti : TypeInfo} (ht : Tryz.prog.underlying ss = some (.slice sl)) (hi : Tryz.prog.info? sl = some ti) (hz : ti.zero = some (.slice none 0 0)) (hsize : ti.size = 1) (hby : ti.bytes = 32) (hne : sl ≠ e)
    {W2 W3 w : World} {k : Nat} {gv : Nat → Value} {v u : Value} (hap : Apt K gl vs) (h : Grn en e sl sz K gl mk vs ns W2 k gv v W3) (hk : k < K) (hK : K ≤ 8000000) (hu : Inn en e sz (mk k) (vs k) (ns k) W3 6 u w) (hu1 : u.oneCell' = true) (ty : TypeId) :
    ∃ v' w', (Builtin.append_ #[ss, ss] ty #[v, .slice (some ⟨w.heap.size, 0, none⟩) 1 1]).run Tryz.prog (w.alloc (.cells #[u] sl)) = .ok v' w' ∧ Grn en e sl sz K gl mk vs ns W2 (k + 1) (updV gv k u) v' w' := by
  have hs23 : W2.heap.size ≤ W3.heap.size := h.fr.size
  have hs3 : W3.heap.size ≤ w.heap.size := hu.fr.size
  have hrow3 : w.ownsRow W2.heap.size sl 1 v k ((List.range k).map gv) := own_frame h.row hu.fr fun b hb q => by
    have h1 := (h.row.lt b hb).1
    have h2 := h.vlt k hk b q
    omega
  have hnews : ∀ j x, [u][j]? = some x → (w.alloc (.cells #[u] sl)).cell? ((⟨w.heap.size, 0, none⟩ : Addr).add j) = some x := fun j x hx => by
    rw [Go.WideShapes.add_plain, Nat.zero_add, cell_of_row _ _ j _ sl _ (heap_alloc_new w _)]
    simpa using hx
  obtain ⟨v', w', hrun, ho', hf, hnew⟩ := append_gen (W := w.alloc (.cells #[u] sl)) (v := v) ht hi hz hsize hby rfl (by omega) (World.ownsRow.alloc hrow3 (.cells #[u] sl)) (ad := ⟨w.heap.size, 0, none⟩) (m := 1) (c := 1) (news := [u]) (by omega) rfl hnews (fun x hx => by simp at hx; subst hx; exact hu1) (by unfold maxLen; omega) (by omega) (by simp only [World.alloc, Array.size_push]; omega) ty
  have hF : Fr (fun b => v.ownBlock = some b) w w' := (Fr.alloc _ w (.cells #[u] sl)).trans hf fun _ _ q => q
  have hvB : ∀ b, v.ownBlock = some b → W2.heap.size ≤ b := fun b hb => (h.row.lt b hb).1
  have hF2 : Fr (fun b => v.ownBlock = some b ∨ (vs k).ownBlock = some b) W3 w' := (hu.fr.mono (T' := fun b => v.ownBlock = some b ∨ (vs k).ownBlock = some b) fun _ _ q => .inr q).trans hF fun _ _ q => .inl q
  have typ : ∀ {W : World} {x : Value} {n : Nat} {xs : List Value} {b : Nat}, W.ownsRow 0 e sz x n xs → x.ownBlock = some b → W.ownsRow W2.heap.size sl 1 v k ((List.range k).map gv) → v.ownBlock ≠ some b := fun {W x n xs b} hx hb hv q => by
    obtain ⟨_, hx⟩ := hx
    obtain ⟨_, hv⟩ := hv
    rcases hx with ⟨rfl, _⟩ | ⟨g1, c1, r1, rfl, _, hg1, _⟩
    · cases hb
    · rcases hv with ⟨rfl, _⟩ | ⟨g2, c2, r2, rfl, _, hg2, _⟩
      · cases q
      · injection hb with hb
        injection q with q
        have e1 : g1 = g2 := by rw [show g1 = b from hb, show g2 = b from q]
        subst e1
        rw [hg1] at hg2
        injection hg2 with hg2
        injection hg2 with _ hg2
        exact hne hg2.symm
  refine ⟨v', w', hrun, ⟨?_, fun j hj => ?_, fun j hj => ?_, fun j hj1 hj2 => ?_, fun j hj => ?_, ?_, h.glt, h.vlt⟩⟩
  · rw [← range_updV]
    exact ho'
  · by_cases q : j = k
    · subst q
      have eu : updV gv j u j = u := by unfold updV; rw [if_pos rfl]
      rw [eu]
      refine ⟨own_frame hu.own hF fun b hb => typ hu.own hb hrow3, ?_⟩
      rcases hu.blk with r | r
      · exact .inl r
      · exact .inr fun b hb => Nat.le_trans hs23 (r b hb)
    · have eu : updV gv k u j = gv j := by unfold updV; rw [if_neg q]
      rw [eu]
      obtain ⟨h1, h2⟩ := h.each j (by omega)
      refine ⟨own_frame h1 hF2 fun b hb r => ?_, h2⟩
      rcases r with r | r
      · exact typ h1 hb h.row r
      · rcases h2 with h2 | h2
        · rw [h2] at hb
          exact hap.two j k (by omega) hk q b hb r
        · have := h2 b hb
          have := h.vlt k hk b r
          omega
  · by_cases q : j = k
    · subst q
      exact hu.keep.frame hF fun b hb r => by
        have := h.vlt j hj b hb
        have := hvB b r
        omega
    · exact (h.keep j hj).frame hF2 fun b hb r => by
        rcases r with r | r
        · have := h.vlt j hj b hb
          have := hvB b r
          omega
        · exact hap.two j k hj hk q b hb r
  · refine own_frame (h.own j (by omega) hj2) hF2 fun b hb r => ?_
    rcases r with r | r
    · have := h.vlt j hj2 b hb
      have := hvB b r
      omega
    · exact hap.two j k hj2 hk (by omega) b hb r
  · have hc := h.head j hj
    refine (World.cell?_of_block (a := ⟨gl, j, none⟩) (hF2.block gl (Nat.lt_of_lt_of_le h.glt hs23) fun r => ?_)).trans hc
    rcases r with r | r
    · have := hvB gl r
      have := h.glt
      omega
    · exact hap.row k hk r
  · refine h.fr.trans hF2 fun b hb r => ?_
    rcases r with r | r
    · have := hvB b r
      omega
    · exact ⟨k, hk, r⟩
theorem Grn.start (hr : ∀ x, (en x).length = sz) {w0 W2 : World} (h : Lsts en e sz K gl vs w0 (fun j => mks (mk j) (ns j)) W2) (hK : 0 < K) : Grn en e sl sz K gl mk vs ns W2 0 (fun _ => undef) (.slice none 0 0) W2 :=
  ⟨World.ownsRow_nil _ _ _ _, fun j hj => absurd hj (by omega), fun j hj => KeepC.of hr (by have := h.own j hj; rwa [mks_len] at this), fun j _ hj => by have := h.own j hj; rwa [mks_len] at this, h.head, Fr.refl _ _, block_lt_of_cell (h.head 0 hK), fun j hj b hb => ((h.own j hj).lt b hb).2⟩
end
section
variable {α : Type} {en : α → List Value} {sz e : Nat}
/-- A list lies somewhere. -/
def LiesE (en : α → List Value) (sz : Nat) (w : World) (p : Option Addr) (l : List α) : Prop := 0 < l.length → ∃ b off, p = some ⟨b, off, none⟩ ∧ b < w.heap.size ∧ ∀ k x, l[k]? = some x → ∀ j v, (en x)[j]? = some v → w.cell? ⟨b, off + k * sz + j, none⟩ = some v
theorem LiesE.cells (hr : ∀ x, (en x).length = sz) (hsz : 0 < sz) {w : World} {b off : Nat} {l : List α} (h : ∀ k x, l[k]? = some x → ∀ j v, (en x)[j]? = some v → w.cell? ⟨b, off + k * sz + j, none⟩ = some v) : ∀ j v, (l.flatMap en)[j]? = some v → w.cell? ⟨b, off + j, none⟩ = some v := fun j v hv => by
  have hj := (List.getElem?_eq_some_iff.1 hv).1
  rw [fml hr] at hj
  have hk : j / sz < l.length := (Nat.div_lt_iff_lt_mul hsz).2 hj
  have hm : j % sz < sz := Nat.mod_lt _ hsz
  have hdm : j / sz * sz + j % sz = j := Nat.div_add_mod' j sz
  have h1 : l[j / sz]? = some (l[j / sz]'hk) := List.getElem?_eq_getElem hk
  have h2 := fm_get (row := en) (n := sz) hr l (j / sz) (j % sz) _ h1 hm
  rw [hdm, hv] at h2
  have := h (j / sz) _ h1 (j % sz) v h2.symm
  rwa [show off + j / sz * sz + j % sz = off + (j / sz * sz + j % sz) by omega, hdm] at this
theorem append_copy {st : TypeId} {i : TypeInfo} {z : Value} {bytes : Nat} (hr : ∀ x, (en x).length = sz) (h1 : ∀ x, ∀ u ∈ en x, u.oneCell' = true) (ht : Tryz.prog.underlying st = some (.slice e)) (hi : Tryz.prog.info? e = some i) (hz : i.zero = some z) (hsize : i.size = sz) (hby : i.bytes = bytes) (hzs : z.cells.size = sz) (hsz : 0 < sz) (hbb : bytes ≤ 2000)
    {W : World} {p : Option Addr} {c : Nat} {l : List α} (hl : LiesE en sz W p l) (hn : l.length ≤ 1000000) (ty : TypeId) :
    ∃ v' w', (Builtin.append_ #[st, st] ty #[.slice none 0 0, .slice p l.length c]).run Tryz.prog W = .ok v' w' ∧ w'.ownsRow W.heap.size e sz v' l.length (l.flatMap en) ∧ Below W.heap.size W w' := by
  have hbt : ((0 + l.length) + (0 + l.length) / 4 + 192) * bytes ≤ 281474976710656 := by
    have : ((0 + l.length) + (0 + l.length) / 4 + 192) * bytes ≤ 1250192 * 2000 := Nat.mul_le_mul (by omega) hbb
    omega
  have key : ∀ ad : Addr, p = some ad → (∀ j u, (l.flatMap en)[j]? = some u → W.cell? (ad.add j) = some u) → ∃ v' w', (Builtin.append_ #[st, st] ty #[.slice none 0 0, .slice p l.length c]).run Tryz.prog W = .ok v' w' ∧ w'.ownsRow W.heap.size e sz v' l.length (l.flatMap en) ∧ Below W.heap.size W w' := fun ad hp hc => by
    subst hp
    obtain ⟨v', w', hrun, h2, hg, _⟩ := run_append_own_wide (P := Tryz.prog) W W.heap.size st ty e i z sz bytes ht hi hz hsize hby hzs hsz (.slice none 0 0) 0 [] (World.ownsRow_nil _ _ _ _) ad l.length c (l.flatMap en) (fml hr l) hc (fun u hu => by
      obtain ⟨x, _, hx⟩ := List.mem_flatMap.1 hu
      exact h1 x u hx) (by unfold maxLen; omega) hbt (Nat.le_refl _)
    refine ⟨v', w', hrun, by simpa using h2, (Below.refl _ _).grown hg (Nat.le_refl _) fun k hk => by cases hk⟩
  by_cases h0 : 0 < l.length
  · obtain ⟨b, off, hp, _, hc⟩ := hl h0
    exact key _ hp fun j u hu => by
      rw [Go.WideShapes.add_plain]
      exact LiesE.cells hr hsz hc j u hu
  · have hl0 : l = [] := List.length_eq_zero_iff.1 (by omega)
    subst hl0
    cases p with
    | some ad => exact key ad rfl fun j u hu => by simp at hu
    | none =>
      refine ⟨.slice none 0 0, W, ?_, World.ownsRow_nil _ _ _ _, Below.refl _ _⟩
      simp [go_sem, run_underlying ht, sizeOf, typeInfo, hi]
theorem own_push {st : TypeId} {i : TypeInfo} {z : Value} {bytes : Nat} (hr : ∀ x, (en x).length = sz) (h1 : ∀ x, ∀ u ∈ en x, u.oneCell' = true) (ht : Tryz.prog.underlying st = some (.slice e)) (hi : Tryz.prog.info? e = some i) (hz : i.zero = some z) (hsize : i.size = sz) (hby : i.bytes = bytes) (hzs : z.cells.size = sz) (hsz : 0 < sz) (hbb : bytes ≤ 2000)
    {B : Nat} {w : World} {v : Value} {l : List α} (h : w.ownsRow B e sz v l.length (l.flatMap en)) (hB : B ≤ w.heap.size) (hn : l.length ≤ 50000000) (x : α) (ty : TypeId) :
    ∃ v' w', (Builtin.append_ #[st, st] ty #[v, .slice (some ⟨w.heap.size, 0, none⟩) 1 1]).run Tryz.prog (w.alloc (.cells (en x).toArray e)) = .ok v' w' ∧ w'.ownsRow B e sz v' (l ++ [x]).length ((l ++ [x]).flatMap en) ∧ Below B w w' := by
  have hnews : ∀ j v, (en x)[j]? = some v → (w.alloc (.cells (en x).toArray e)).cell? ((⟨w.heap.size, 0, none⟩ : Addr).add j) = some v := fun j v hv => by
    rw [Go.WideShapes.add_plain, Nat.zero_add, cell_of_row _ _ j _ e _ (heap_alloc_new w _), List.getElem?_toArray]
    exact hv
  have hbt : ((l.length + 1) + (l.length + 1) / 4 + 192) * bytes ≤ 281474976710656 := by
    have : ((l.length + 1) + (l.length + 1) / 4 + 192) * bytes ≤ 62500194 * 2000 := Nat.mul_le_mul (by omega) hbb
    omega
  obtain ⟨v', w', hrun, ho', hf, _⟩ := append_gen (W := w.alloc (.cells (en x).toArray e)) (v := v) ht hi hz hsize hby hzs hsz (World.ownsRow.alloc h (.cells (en x).toArray e)) (ad := ⟨w.heap.size, 0, none⟩) (m := 1) (c := 1) (news := en x) (by omega) (by rw [hr, Nat.one_mul]) hnews (h1 x) (by unfold maxLen; omega) hbt (by simp only [World.alloc, Array.size_push]; omega) ty
  have hF : Fr (fun b => v.ownBlock = some b) w w' := (Fr.alloc _ w (.cells (en x).toArray e)).trans hf fun _ _ q => q
  refine ⟨v', w', hrun, ?_, hF.below (fun j q => (h.lt j q).1) hB⟩
  rw [List.length_append, List.flatMap_append]
  simpa using ho'
theorem own_lies (hr : ∀ x, (en x).length = sz) {B : Nat} {w : World} {p : Option Addr} {c : Nat} {l : List α} (h : w.ownsRow B e sz (.slice p l.length c) l.length (l.flatMap en)) : LiesE en sz w p l := fun h0 => by
  rcases own_form h with ⟨_, q⟩ | ⟨g, c', q, hlt⟩
  · omega
  · injection q with q1 q2 q3
    subst q1
    exact ⟨g, 0, rfl, hlt, fun k x hx j v hv => by
      rw [Nat.zero_add]
      exact own_get hr h hx j v hv⟩
theorem own_slice {B n : Nat} {w : World} {v : Value} {xs : List Value} (h : w.ownsRow B e sz v n xs) : ∃ p c, v = .slice p n c ∧ (p = none → n = 0) := by
  rcases own_form h with ⟨q, r⟩ | ⟨g, c', q, hlt⟩
  · exact ⟨none, 0, by rw [q, r], fun _ => r⟩
  · exact ⟨_, c', q, fun q => by cases q⟩
end
theorem exec_pushY {o : Oper} {a : Act} {s y : Operand} {st : TypeId} {Y v v' : Value} {W W' : World} (ho : o.op = .call { callee := .builtin .append, args := #[s, y], argTypes := #[st, st] }) (hs : a.eval s = v) (hx : a.eval y = Y)
    (hr : (Builtin.append_ #[st, st] o.type #[v, Y]).run Tryz.prog W = .ok v' W') : (execOp a.eval o).run Tryz.prog W = .ok (.value v') W' := by
  simp [execOp, ho, resolve, invoke, builtin, hs, hx, hr, Result.andThen]
theorem own_pushF {α : Type} {en : α → List Value} {sz e : Nat} {st : TypeId} {i : TypeInfo} {z : Value} {bytes : Nat} (hr : ∀ x, (en x).length = sz) (h1 : ∀ x, ∀ u ∈ en x, u.oneCell' = true) (ht : Tryz.prog.underlying st = some (.slice e)) (hi : Tryz.prog.info? e = some i) (hz : i.zero = some z) (hsize : i.size = sz) (hby : i.bytes = bytes) (hzs : z.cells.size = sz) (hsz : 0 < sz) (hbb : bytes ≤ 2000)
    {B : Nat} {w : World} {v : Value} {l : List α} (h : w.ownsRow B e sz v l.length (l.flatMap en)) (hB : B ≤ w.heap.size) (hn : l.length ≤ 50000000) (x : α) (ty : TypeId) :
    ∃ v' w', (Builtin.append_ #[st, st] ty #[v, .slice (some ⟨w.heap.size, 0, none⟩) 1 1]).run Tryz.prog (w.alloc (.cells (en x).toArray e)) = .ok v' w' ∧ w'.ownsRow B e sz v' (l ++ [x]).length ((l ++ [x]).flatMap en) ∧ Below B w w' ∧ Fr (fun b => v.ownBlock = some b) w w' := by
  have hnews : ∀ j v, (en x)[j]? = some v → (w.alloc (.cells (en x).toArray e)).cell? ((⟨w.heap.size, 0, none⟩ : Addr).add j) = some v := fun j v hv => by
    rw [Go.WideShapes.add_plain, Nat.zero_add, cell_of_row _ _ j _ e _ (heap_alloc_new w _), List.getElem?_toArray]
    exact hv
  have hbt : ((l.length + 1) + (l.length + 1) / 4 + 192) * bytes ≤ 281474976710656 := by
    have : ((l.length + 1) + (l.length + 1) / 4 + 192) * bytes ≤ 62500194 * 2000 := Nat.mul_le_mul (by omega) hbb
    omega
  obtain ⟨v', w', hrun, ho', hf, _⟩ := append_gen (W := w.alloc (.cells (en x).toArray e)) (v := v) ht hi hz hsize hby hzs hsz (World.ownsRow.alloc h (.cells (en x).toArray e)) (ad := ⟨w.heap.size, 0, none⟩) (m := 1) (c := 1) (news := en x) (by omega) (by rw [hr, Nat.one_mul]) hnews (h1 x) (by unfold maxLen; omega) hbt (by simp only [World.alloc, Array.size_push]; omega) ty
  have hF : Fr (fun b => v.ownBlock = some b) w w' := (Fr.alloc _ w (.cells (en x).toArray e)).trans hf fun _ _ q => q
  refine ⟨v', w', hrun, ?_, hF.below (fun j q => (h.lt j q).1) hB, hF⟩
  rw [List.length_append, List.flatMap_append]
  simpa using ho'
theorem own_pushL {α : Type} {en : α → List Value} {sz e : Nat} {st : TypeId} {i : TypeInfo} {z : Value} {bytes : Nat} (hr : ∀ x, (en x).length = sz) (h1 : ∀ x, ∀ u ∈ en x, u.oneCell' = true) (ht : Tryz.prog.underlying st = some (.slice e)) (hi : Tryz.prog.info? e = some i) (hz : i.zero = some z) (hsize : i.size = sz) (hby : i.bytes = bytes) (hzs : z.cells.size = sz) (hsz : 0 < sz) (hbb : bytes ≤ 2000)
    {B : Nat} {w : World} {v : Value} {l : List α} (h : w.ownsRow B e sz v l.length (l.flatMap en)) (hB : B ≤ w.heap.size) (hn : l.length ≤ 50000000) (x : α) (ty : TypeId) :
    ∃ v' w', (Builtin.append_ #[st, st] ty #[v, .slice (some ⟨w.heap.size, 0, none⟩) 1 1]).run Tryz.prog (w.alloc (.cells (en x).toArray e)) = .ok v' w' ∧ w'.ownsRow B e sz v' (l ++ [x]).length ((l ++ [x]).flatMap en) ∧ Below B w w' ∧ Fr (fun b => v.ownBlock = some b) w w' ∧ ∀ k, v'.ownBlock = some k → v.ownBlock = some k ∨ w.heap.size ≤ k := by
  have hnews : ∀ j v, (en x)[j]? = some v → (w.alloc (.cells (en x).toArray e)).cell? ((⟨w.heap.size, 0, none⟩ : Addr).add j) = some v := fun j v hv => by
    rw [Go.WideShapes.add_plain, Nat.zero_add, cell_of_row _ _ j _ e _ (heap_alloc_new w _), List.getElem?_toArray]
    exact hv
  have hbt : ((l.length + 1) + (l.length + 1) / 4 + 192) * bytes ≤ 281474976710656 := by
    have : ((l.length + 1) + (l.length + 1) / 4 + 192) * bytes ≤ 62500194 * 2000 := Nat.mul_le_mul (by omega) hbb
    omega
  obtain ⟨v', w', hrun, ho', hf, hor⟩ := append_gen (W := w.alloc (.cells (en x).toArray e)) (v := v) ht hi hz hsize hby hzs hsz (World.ownsRow.alloc h (.cells (en x).toArray e)) (ad := ⟨w.heap.size, 0, none⟩) (m := 1) (c := 1) (news := en x) (by omega) (by rw [hr, Nat.one_mul]) hnews (h1 x) (by unfold maxLen; omega) hbt (by simp only [World.alloc, Array.size_push]; omega) ty
  have hF : Fr (fun b => v.ownBlock = some b) w w' := (Fr.alloc _ w (.cells (en x).toArray e)).trans hf fun _ _ q => q
  refine ⟨v', w', hrun, ?_, hF.below (fun j q => (h.lt j q).1) hB, hF, fun k hk => ?_⟩
  · rw [List.length_append, List.flatMap_append]
    simpa using ho'
  · rcases hor k hk with q | q
    · exact .inl q
    · simp only [World.alloc, Array.size_push] at q
      exact .inr (by omega)
theorem rows_apart {W : World} {B B' e e' sz sz' n n' b : Nat} {x v : Value} {xs ys : List Value} (hne : e' ≠ e) (hx : W.ownsRow B e sz x n xs) (hb : x.ownBlock = some b) (hv : W.ownsRow B' e' sz' v n' ys) : v.ownBlock ≠ some b := fun q => by
  obtain ⟨_, hx⟩ := hx
  obtain ⟨_, hv⟩ := hv
  rcases hx with ⟨rfl, _⟩ | ⟨g1, c1, r1, rfl, _, hg1, _⟩
  · cases hb
  · rcases hv with ⟨rfl, _⟩ | ⟨g2, c2, r2, rfl, _, hg2, _⟩
    · cases q
    · injection hb with hb
      injection q with q
      have e1 : g1 = g2 := by rw [show g1 = b from hb, show g2 = b from q]
      subst e1
      rw [hg1] at hg2
      injection hg2 with hg2
      injection hg2 with _ hg2
      exact hne hg2.symm
theorem own_ne {W : World} {B e sz n g t : Nat} {v : Value} {xs : List Value} {Z : Array Value} (h : W.ownsRow B e sz v n xs) (hg : W.heap[g]? = some (.cells Z t)) (hne : e ≠ t) : v.ownBlock ≠ some g := fun q => by
  obtain ⟨_, h⟩ := h
  rcases h with ⟨rfl, _⟩ | ⟨g1, c1, r1, rfl, _, hg1, _⟩
  · cases q
  · injection q with q
    have q' : g1 = g := q
    subst q'
    rw [hg1] at hg
    injection hg with hg
    injection hg with _ hg
    exact hne hg
section
variable {α : Type} {en : α → List Value} {sz : Nat}
theorem fm_put (hr : ∀ x, (en x).length = sz) : ∀ (l : List α) (i j : Nat) (x x' : α) (u : Value), l[i]? = some x → j < sz → en x' = (en x).set j u → (l.flatMap en).set (i * sz + j) u = (l.set i x').flatMap en
  | [], i, j, x, x', u, h, _, _ => by simp at h
  | y :: t, 0, j, x, x', u, h, hj, he => by
    have h' : y = x := by simpa using h
    subst h'
    rw [List.set_cons_zero, List.flatMap_cons, List.flatMap_cons, Nat.zero_mul, Nat.zero_add, List.set_append_left _ _ (by rw [hr]; exact hj), he]
  | y :: t, i + 1, j, x, x', u, h, hj, he => by
    have h' : t[i]? = some x := by simpa using h
    have e : (i + 1) * sz + j = sz + (i * sz + j) := by rw [Nat.add_mul, Nat.one_mul]; omega
    rw [List.set_cons_succ, List.flatMap_cons, List.flatMap_cons, e, List.set_append_right _ _ (by rw [hr]; omega), hr, Nat.add_sub_cancel_left, fm_put hr t i j x x' u h' hj he]
theorem own_cell (hr : ∀ x, (en x).length = sz) {B e g n c i j : Nat} {w : World} {l : List α} {x x' : α} {u : Value} (h : w.ownsRow B e sz (.slice (some ⟨g, 0, none⟩) n c) n (l.flatMap en)) (hx : l[i]? = some x) (hj : j < sz) (he : en x' = (en x).set j u) :
    (w.setCell ⟨g, i * sz + j, none⟩ u).ownsRow B e sz (.slice (some ⟨g, 0, none⟩) n c) n ((l.set i x').flatMap en) := by
  have := (World.ownsRow.stored h (i * sz + j) u).1
  rwa [fm_put hr l i j x x' u hx hj he] at this
theorem lies_prefix {w : World} {p : Option Addr} {l r : List α} (h : LiesE en sz w p (l ++ r)) : LiesE en sz w p l := fun h0 => by
  obtain ⟨b, off, hp, hlt, hc⟩ := h (by rw [List.length_append]; omega)
  exact ⟨b, off, hp, hlt, fun k x hx => hc k x (by rw [List.getElem?_append_left (List.getElem?_eq_some_iff.1 hx).1]; exact hx)⟩
end
theorem box_ne {w : World} {g g' t e : Nat} {cs cur : Array Value} (h : w.heap[g]? = some (.cells cs t)) (h' : w.heap[g']? = some (.cells cur e)) (hne : t ≠ e) : g ≠ g' := fun q => by
  subst q
  rw [h] at h'
  injection h' with h'
  injection h' with _ h'
  exact hne h'
theorem own_heap {w : World} {B e sz g n c : Nat} {xs : List Value} (h : w.ownsRow B e sz (.slice (some ⟨g, 0, none⟩) n c) n xs) : B ≤ g ∧ n ≤ c ∧ ∃ cur, w.heap[g]? = some (.cells cur e) := by
  rcases h.2 with ⟨q, _⟩ | ⟨g', c', cur, q, hB, hh, hn, _⟩
  · cases q
  · injection q with q1 q2 q3
    injection q1 with q1
    injection q1 with q1
    subst q1; subst q3
    exact ⟨hB, hn, cur, hh⟩
/-- One of two, one of four. -/
def sel2 {β : Type} (a b : β) (k : Nat) : β := if k = 0 then a else b
def sel4 {β : Type} (a b c d : β) (k : Nat) : β := if k = 0 then a else if k = 1 then b else if k = 2 then c else d
section
variable {α : Type} {en : α → List Value} {e sz et : Nat} {W : World}
theorem two_ready {Ba Bb ca cb : Nat} {pa pb : Option Addr} {l : List α} (ha : W.ownsRow Ba e sz (.slice pa l.length ca) l.length (l.flatMap en)) (hb : W.ownsRow Bb e sz (.slice pb l.length cb) l.length (l.flatMap en))
    (hne : ∀ b, (Value.slice pa l.length ca).ownBlock = some b → (Value.slice pb l.length cb).ownBlock ≠ some b) :
    Apt 2 W.heap.size (fun k => .slice (sel2 pa pb k) l.length (sel2 ca cb k)) ∧ Lsts en e sz 2 W.heap.size (fun k => .slice (sel2 pa pb k) l.length (sel2 ca cb k)) (W.alloc (.cells #[.slice pa l.length ca, .slice pb l.length cb] et)) (fun _ => l) (W.alloc (.cells #[.slice pa l.length ca, .slice pb l.length cb] et)) := by
  have hbn := below_new W (.cells #[.slice pa l.length ca, .slice pb l.length cb] et)
  have hg := heap_alloc_new W (.cells #[.slice pa l.length ca, .slice pb l.length cb] et)
  refine ⟨⟨fun k hk q => ?_, fun j k hj hk hjk b hb1 hb2 => ?_⟩, ⟨Fr.refl _ _, fun k hk => ?_, fun k hk => ?_⟩⟩
  · match k, hk, q with
    | 0, _, q => exact absurd (ha.lt _ q).2 (by omega)
    | 1, _, q => exact absurd (hb.lt _ q).2 (by omega)
  · match j, k, hj, hk, hjk, hb1, hb2 with
    | 0, 0, _, _, h, _, _ => exact h rfl
    | 1, 1, _, _, h, _, _ => exact h rfl
    | 0, 1, _, _, _, h1, h2 => exact hne b h1 h2
    | 1, 0, _, _, _, h1, h2 => exact hne b h2 h1
  · match k, hk with
    | 0, _ => exact Joins.cell_of_block hg 0
    | 1, _ => exact Joins.cell_of_block hg 1
  · match k, hk with
    | 0, _ => exact World.ownsRow.mono (own_later ha hbn) (Nat.zero_le _)
    | 1, _ => exact World.ownsRow.mono (own_later hb hbn) (Nat.zero_le _)
theorem four_ready {Ba Bb Bc Bd ca cb cc cd : Nat} {pa pb pc pd : Option Addr} {l t : List α} (ha : W.ownsRow Ba e sz (.slice pa l.length ca) l.length (l.flatMap en)) (hb : W.ownsRow Bb e sz (.slice pb l.length cb) l.length (l.flatMap en)) (hc : W.ownsRow Bc e sz (.slice pc t.length cc) t.length (t.flatMap en)) (hd : W.ownsRow Bd e sz (.slice pd t.length cd) t.length (t.flatMap en))
    (n1 : ∀ b, (Value.slice pa l.length ca).ownBlock = some b → b < Bb ∧ b < Bc ∧ b < Bd) (n2 : ∀ b, (Value.slice pb l.length cb).ownBlock = some b → b < Bc ∧ b < Bd) (n3 : ∀ b, (Value.slice pc t.length cc).ownBlock = some b → b < Bd) :
    Apt 4 W.heap.size (fun k => .slice (sel4 pa pb pc pd k) (sel4 l.length l.length t.length t.length k) (sel4 ca cb cc cd k)) ∧ Lsts en e sz 4 W.heap.size (fun k => .slice (sel4 pa pb pc pd k) (sel4 l.length l.length t.length t.length k) (sel4 ca cb cc cd k)) (W.alloc (.cells #[.slice pa l.length ca, .slice pb l.length cb, .slice pc t.length cc, .slice pd t.length cd] et)) (sel4 l l t t) (W.alloc (.cells #[.slice pa l.length ca, .slice pb l.length cb, .slice pc t.length cc, .slice pd t.length cd] et)) := by
  have hbn := below_new W (.cells #[.slice pa l.length ca, .slice pb l.length cb, .slice pc t.length cc, .slice pd t.length cd] et)
  have hg := heap_alloc_new W (.cells #[.slice pa l.length ca, .slice pb l.length cb, .slice pc t.length cc, .slice pd t.length cd] et)
  have lb : ∀ b, (Value.slice pb l.length cb).ownBlock = some b → Bb ≤ b := fun b h => (hb.lt b h).1
  have lc : ∀ b, (Value.slice pc t.length cc).ownBlock = some b → Bc ≤ b := fun b h => (hc.lt b h).1
  have ld : ∀ b, (Value.slice pd t.length cd).ownBlock = some b → Bd ≤ b := fun b h => (hd.lt b h).1
  refine ⟨⟨fun k hk q => ?_, fun j k hj hk hjk b hb1 hb2 => ?_⟩, ⟨Fr.refl _ _, fun k hk => ?_, fun k hk => ?_⟩⟩
  · match k, hk, q with
    | 0, _, q => exact absurd (ha.lt _ q).2 (by omega)
    | 1, _, q => exact absurd (hb.lt _ q).2 (by omega)
    | 2, _, q => exact absurd (hc.lt _ q).2 (by omega)
    | 3, _, q => exact absurd (hd.lt _ q).2 (by omega)
  · have w12 : ∀ b, (Value.slice pa l.length ca).ownBlock = some b → (Value.slice pb l.length cb).ownBlock = some b → False := fun b h1 h2 => by have := n1 b h1; have := lb b h2; omega
    have w13 : ∀ b, (Value.slice pa l.length ca).ownBlock = some b → (Value.slice pc t.length cc).ownBlock = some b → False := fun b h1 h2 => by have := n1 b h1; have := lc b h2; omega
    have w14 : ∀ b, (Value.slice pa l.length ca).ownBlock = some b → (Value.slice pd t.length cd).ownBlock = some b → False := fun b h1 h2 => by have := n1 b h1; have := ld b h2; omega
    have w23 : ∀ b, (Value.slice pb l.length cb).ownBlock = some b → (Value.slice pc t.length cc).ownBlock = some b → False := fun b h1 h2 => by have := n2 b h1; have := lc b h2; omega
    have w24 : ∀ b, (Value.slice pb l.length cb).ownBlock = some b → (Value.slice pd t.length cd).ownBlock = some b → False := fun b h1 h2 => by have := n2 b h1; have := ld b h2; omega
    have w34 : ∀ b, (Value.slice pc t.length cc).ownBlock = some b → (Value.slice pd t.length cd).ownBlock = some b → False := fun b h1 h2 => by have := n3 b h1; have := ld b h2; omega
    match j, k, hj, hk, hjk, hb1, hb2 with
    | 0, 0, _, _, h, _, _ => exact h rfl
    | 1, 1, _, _, h, _, _ => exact h rfl
    | 2, 2, _, _, h, _, _ => exact h rfl
    | 3, 3, _, _, h, _, _ => exact h rfl
    | 0, 1, _, _, _, h1, h2 => exact w12 b h1 h2
    | 1, 0, _, _, _, h1, h2 => exact w12 b h2 h1
    | 0, 2, _, _, _, h1, h2 => exact w13 b h1 h2
    | 2, 0, _, _, _, h1, h2 => exact w13 b h2 h1
    | 0, 3, _, _, _, h1, h2 => exact w14 b h1 h2
    | 3, 0, _, _, _, h1, h2 => exact w14 b h2 h1
    | 1, 2, _, _, _, h1, h2 => exact w23 b h1 h2
    | 2, 1, _, _, _, h1, h2 => exact w23 b h2 h1
    | 1, 3, _, _, _, h1, h2 => exact w24 b h1 h2
    | 3, 1, _, _, _, h1, h2 => exact w24 b h2 h1
    | 2, 3, _, _, _, h1, h2 => exact w34 b h1 h2
    | 3, 2, _, _, _, h1, h2 => exact w34 b h2 h1
  · match k, hk with
    | 0, _ => exact Joins.cell_of_block hg 0
    | 1, _ => exact Joins.cell_of_block hg 1
    | 2, _ => exact Joins.cell_of_block hg 2
    | 3, _ => exact Joins.cell_of_block hg 3
  · match k, hk with
    | 0, _ => exact World.ownsRow.mono (own_later ha hbn) (Nat.zero_le _)
    | 1, _ => exact World.ownsRow.mono (own_later hb hbn) (Nat.zero_le _)
    | 2, _ => exact World.ownsRow.mono (own_later hc hbn) (Nat.zero_le _)
    | 3, _ => exact World.ownsRow.mono (own_later hd hbn) (Nat.zero_le _)
theorem two_tv {Ba Bb ca cb B i : Nat} {pa pb : Option Addr} {l : List α} (ha : W.ownsRow Ba e sz (.slice pa l.length ca) l.length (l.flatMap en)) (hb : W.ownsRow Bb e sz (.slice pb l.length cb) l.length (l.flatMap en)) (h : TV 2 (fun k => .slice (sel2 pa pb k) l.length (sel2 ca cb k)) i) (hA : B ≤ Ba) (hB : B ≤ Bb) : B ≤ i ∧ ∀ {B' e' sz' n' : Nat} {v : Value} {ys : List Value}, e' ≠ e → W.ownsRow B' e' sz' v n' ys → v.ownBlock ≠ some i := by
  obtain ⟨k, hk, q⟩ := h
  match k, hk, q with
  | 0, _, q => exact ⟨by have := (ha.lt _ q).1; omega, fun hne hv => rows_apart hne ha q hv⟩
  | 1, _, q => exact ⟨by have := (hb.lt _ q).1; omega, fun hne hv => rows_apart hne hb q hv⟩
end
theorem wpList_st3 {ops : Array Oper} {rest : List Oper} {o : Oper} {a : Act} {w : World} {Q : Exit → Act → World → Prop} (hgd : o.guard = none) (x y : Operand) (ho : o.op = .store 3 x y) (g i : Nat) (v : Int) (old : Value) (hx : a.eval x = .pointer (some ⟨g, i, none⟩)) (hy : a.eval y = .int .i64 v) (hc : w.cell? ⟨g, i, none⟩ = some old) (hf : w.frozen? ⟨g, i, none⟩ = false)
    (h : wpList Tryz.prog ops Q rest (a.put o.dst undef) (w.setCell ⟨g, i, none⟩ (.int .i64 v))) : wpList Tryz.prog ops Q (o :: rest) a w :=
  wpList_plain hgd fun _ hK => by
    unfold Oper.wp execOp
    simp only [ho, hx, hy]
    simp [go_sem, hc, hf]
    exact hK _ _ h
theorem wpList_st5 {ops : Array Oper} {rest : List Oper} {o : Oper} {a : Act} {w : World} {Q : Exit → Act → World → Prop} (hgd : o.guard = none) (x y : Operand) (ho : o.op = .store 5 x y) (g i : Nat) (v : Int) (old : Value) (hx : a.eval x = .pointer (some ⟨g, i, none⟩)) (hy : a.eval y = .int .u8 v) (hc : w.cell? ⟨g, i, none⟩ = some old) (hf : w.frozen? ⟨g, i, none⟩ = false)
    (h : wpList Tryz.prog ops Q rest (a.put o.dst undef) (w.setCell ⟨g, i, none⟩ (.int .u8 v))) : wpList Tryz.prog ops Q (o :: rest) a w :=
  wpList_plain hgd fun _ hK => by
    unfold Oper.wp execOp
    simp only [ho, hx, hy]
    simp [go_sem, hc, hf]
    exact hK _ _ h
theorem wpList_st4 {ops : Array Oper} {rest : List Oper} {o : Oper} {a : Act} {w : World} {Q : Exit → Act → World → Prop} (hgd : o.guard = none) (x y : Operand) (ho : o.op = .store 4 x y) (g i : Nat) (v : Bool) (old : Value) (hx : a.eval x = .pointer (some ⟨g, i, none⟩)) (hy : a.eval y = .bool v) (hc : w.cell? ⟨g, i, none⟩ = some old) (hf : w.frozen? ⟨g, i, none⟩ = false)
    (h : wpList Tryz.prog ops Q rest (a.put o.dst undef) (w.setCell ⟨g, i, none⟩ (.bool v))) : wpList Tryz.prog ops Q (o :: rest) a w :=
  wpList_plain hgd fun _ hK => by
    unfold Oper.wp execOp
    simp only [ho, hx, hy]
    simp [go_sem, hc, hf]
    exact hK _ _ h
end Go.Proofs.YtlcdpmjdnihocaaGreatD
/- The document's disk in memory, and its plain calls: Len, Made, Reads, Stopped, Claimed, Fuse, Claim, and whether the fuse lets one through; no condition but that counters have not come to the end of numbers. -/
namespace Go.Proofs.YtlcdpmjdnihocaaGreatD
open Go.RowKit Go.Maps
/-- The document's disk. -/
structure RSt where
  n : Int
  held : List Cel
  wait : List Cel
  fused : Bool
  left : Int
  dead : Bool
  ops : List Rec
  count : Int
  seen : Int
  claims : Int
  owner : Int
def rdRow (hv wv ov : Value) (s : RSt) : Array Value := #[.int .i64 s.n, hv, wv, .bool s.fused, .int .i64 s.left, .bool s.dead, ov, .int .i64 s.count, .int .i64 s.seen, .int .i64 s.claims, .int .i64 s.owner]
structure RDAt (w : World) (B g : Nat) (hv wv ov : Value) (s : RSt) : Prop where
  row : w.heap[g]? = some (.cells (rdRow hv wv ov s) 75)
  held : w.ownsRow B 81 1025 hv s.held.length (s.held.flatMap celRow)
  wait : w.ownsRow B 81 1025 wv s.wait.length (s.wait.flatMap celRow)
  ops : w.ownsRow B 94 1026 ov s.ops.length (s.ops.flatMap recCells)
  two : ∀ b, hv.ownBlock = some b → wv.ownBlock ≠ some b
  base : B ≤ g
section
variable {w w' : World} {B g : Nat} {hv wv ov : Value} {s s' : RSt}
theorem RDAt.later (h : RDAt w B g hv wv ov s) (hb : Below w.heap.size w w') : RDAt w' B g hv wv ov s :=
  ⟨heap_kept h.row hb, own_later h.held hb, own_later h.wait hb, own_later h.ops hb, h.two, h.base⟩
theorem RDAt.free (h : RDAt w B g hv wv ov s) (i : Nat) : w.frozen? ⟨g, i, none⟩ = false := Joins.unfrozen_of_block h.row i
theorem RDAt.cells (h : RDAt w B g hv wv ov s) : w.cell? ⟨g, 0, none⟩ = some (.int .i64 s.n) ∧ w.cell? ⟨g, 1, none⟩ = some hv ∧ w.cell? ⟨g, 2, none⟩ = some wv ∧ w.cell? ⟨g, 3, none⟩ = some (.bool s.fused) ∧ w.cell? ⟨g, 4, none⟩ = some (.int .i64 s.left) ∧ w.cell? ⟨g, 5, none⟩ = some (.bool s.dead) ∧ w.cell? ⟨g, 6, none⟩ = some ov ∧ w.cell? ⟨g, 7, none⟩ = some (.int .i64 s.count) ∧ w.cell? ⟨g, 8, none⟩ = some (.int .i64 s.seen) ∧ w.cell? ⟨g, 9, none⟩ = some (.int .i64 s.claims) ∧ w.cell? ⟨g, 10, none⟩ = some (.int .i64 s.owner) :=
  ⟨Joins.cell_of_block h.row 0, Joins.cell_of_block h.row 1, Joins.cell_of_block h.row 2, Joins.cell_of_block h.row 3, Joins.cell_of_block h.row 4, Joins.cell_of_block h.row 5, Joins.cell_of_block h.row 6, Joins.cell_of_block h.row 7, Joins.cell_of_block h.row 8, Joins.cell_of_block h.row 9, Joins.cell_of_block h.row 10⟩
/-- One of the disk's plain cells is written. -/
theorem RDAt.set (h : RDAt w B g hv wv ov s) {j : Nat} {u : Value} (hr : (rdRow hv wv ov s).setIfInBounds j u = rdRow hv wv ov s') (h1 : s'.held = s.held) (h2 : s'.wait = s.wait) (h3 : s'.ops = s.ops) : RDAt (w.setCell ⟨g, j, none⟩ u) B g hv wv ov s' := by
  refine ⟨?_, ?_, ?_, ?_, h.two, h.base⟩
  · rw [heap_setCell_same w g j _ 75 u h.row, hr]
  · rw [h1]; exact ownsRow_setCell_other h.held (a := ⟨g, j, none⟩) (own_ne h.held h.row (by decide)) u
  · rw [h2]; exact ownsRow_setCell_other h.wait (a := ⟨g, j, none⟩) (own_ne h.wait h.row (by decide)) u
  · rw [h3]; exact ownsRow_setCell_other h.ops (a := ⟨g, j, none⟩) (own_ne h.ops h.row (by decide)) u
theorem rLen_any (h : RDAt w B g hv wv ov s) : Calls Tryz.prog 43 #[.pointer (some ⟨g, 0, none⟩)] w fun e w' => e = .returned (.int .i64 s.n) ∧ w' = w := by
  obtain ⟨c0, _⟩ := h.cells
  go_enter Tryz.func43, Tryz.ntmps43
  go_wp2
  go_ret
  exact ⟨rfl, rfl⟩
theorem rMade_any (h : RDAt w B g hv wv ov s) : Calls Tryz.prog 26 #[.pointer (some ⟨g, 0, none⟩)] w fun e w' => e = .returned (.int .i64 s.count) ∧ w' = w := by
  have c7 := h.cells.2.2.2.2.2.2.2.1
  go_enter Tryz.func26, Tryz.ntmps26
  go_wp2
  go_ret
  exact ⟨rfl, rfl⟩
theorem rStopped_any (h : RDAt w B g hv wv ov s) : Calls Tryz.prog 24 #[.pointer (some ⟨g, 0, none⟩)] w fun e w' => e = .returned (.bool s.dead) ∧ w' = w := by
  have c5 := h.cells.2.2.2.2.2.1
  go_enter Tryz.func24, Tryz.ntmps24
  go_wp2
  go_ret
  exact ⟨rfl, rfl⟩
/-- Does a number claim it? -/
def rClaimed (s : RSt) (n : Int) : Bool := !s.dead && decide (0 < n) && decide (n = s.owner)
theorem rClaimed_any (h : RDAt w B g hv wv ov s) (n : Int) : Calls Tryz.prog 16 #[.pointer (some ⟨g, 0, none⟩), .int .i64 n] w fun e w' => e = .returned (.bool (rClaimed s n)) ∧ w' = w := by
  have c5 := h.cells.2.2.2.2.2.1
  have c10 := h.cells.2.2.2.2.2.2.2.2.2.2
  unfold rClaimed
  cases hd : s.dead
  · rw [hd] at c5
    by_cases h0 : 0 < n
    · by_cases h1 : n = s.owner
      · have e1 : (n == s.owner) = true := by simpa using h1
        have e2 : (!false && decide (0 < n) && decide (n = s.owner)) = true := by rw [decide_eq_true h0, decide_eq_true h1]; rfl
        rw [e2]
        go_enter Tryz.func16, Tryz.ntmps16
        go_wp2
        go_ret
        exact ⟨rfl, rfl⟩
      · have e1 : (n == s.owner) = false := by simpa using h1
        have e2 : (!false && decide (0 < n) && decide (n = s.owner)) = false := by simp [h1]
        rw [e2]
        clear h1 e2
        go_enter Tryz.func16, Tryz.ntmps16
        go_wp2
        go_ret
        exact ⟨rfl, rfl⟩
    · have e1 : decide (0 < n) = false := decide_eq_false h0
      have e2 : (!false && decide (0 < n) && decide (n = s.owner)) = false := by simp [h0]
      rw [e2]
      clear h0 e2
      go_enter Tryz.func16, Tryz.ntmps16
      go_wp2
      go_ret
      exact ⟨rfl, rfl⟩
  · rw [hd] at c5
    go_enter Tryz.func16, Tryz.ntmps16
    go_wp2
    go_ret
    exact ⟨rfl, rfl⟩
/-- A new fuse. -/
def rFuse (s : RSt) (n : Int) : RSt := if s.dead then s else { s with fused := decide (0 ≤ n), left := n }
theorem rFuse_any (h : RDAt w B g hv wv ov s) (n : Int) : Calls Tryz.prog 12 #[.pointer (some ⟨g, 0, none⟩), .int .i64 n] w fun e w' => e = .returned (.tuple #[]) ∧ RDAt w' B g hv wv ov (rFuse s n) ∧ Fr (fun i => i = g) w w' := by
  have c5 := h.cells.2.2.2.2.2.1
  have c3 := h.cells.2.2.2.1
  have f3 := h.free 3
  unfold rFuse
  cases hd : s.dead
  · rw [hd] at c5
    have H1 := Hid.mk' (h.set (j := 3) (u := .bool (decide (0 ≤ n))) (s' := { s with fused := decide (0 ≤ n) }) rfl rfl rfl rfl)
    have HF1 := Hid.mk' (Fr.setCell w g 3 (.bool (decide (0 ≤ n))))
    have HD := Hid.mk' hd
    clear h hd
    go_enter Tryz.func12, Tryz.ntmps12
    go_upto_region 2 with fail
    clear c3 f3 c5
    generalize w.setCell ⟨g, 3, none⟩ (.bool (decide (0 ≤ n))) = w1 at *
    have c4 := H1.out.cells.2.2.2.2.1
    have f4 := H1.out.free 4
    have H2 := Hid.mk' (H1.out.set (j := 4) (u := .int .i64 n) (s' := { s with fused := decide (0 ≤ n), left := n }) rfl rfl rfl rfl)
    have HF2 := Hid.mk' (HF1.out.trans (Fr.setCell w1 g 4 (.int .i64 n)) fun _ _ q => q)
    clear H1 HF1
    go_wp2
    go_end0
    refine ⟨rfl, ?_, HF2.out⟩
    have e := H2.out
    rw [HD.out] at e
    exact e
  · rw [hd] at c5
    have HH := Hid.mk' h
    clear h
    go_enter Tryz.func12, Tryz.ntmps12
    go_wp2
    refine bodyPost_ret (results_none rfl _ _ _) rfl ?_
    exact ⟨rfl, HH.out, Fr.refl _ _⟩
/-- A claim. -/
def rClaim (s : RSt) : RSt := if s.dead then s else { s with claims := s.claims + 1, owner := s.claims + 1 }
def rClaimN (s : RSt) : Int := if s.dead then 0 else s.claims + 1
theorem rClaim_any (h : RDAt w B g hv wv ov s) (hc : 0 ≤ s.claims ∧ s.claims < 9223372036854775807) : Calls Tryz.prog 10 #[.pointer (some ⟨g, 0, none⟩)] w fun e w' => e = .returned (.int .i64 (rClaimN s)) ∧ RDAt w' B g hv wv ov (rClaim s) ∧ Fr (fun i => i = g) w w' := by
  have c5 := h.cells.2.2.2.2.2.1
  have c9 := h.cells.2.2.2.2.2.2.2.2.2.1
  have f9 := h.free 9
  unfold rClaim rClaimN
  cases hd : s.dead
  · rw [hd] at c5
    have hw : IntKind.i64.wrap (s.claims + 1) = s.claims + 1 := by rw [IntKind.wrap_i64]; omega
    have H1 := Hid.mk' (h.set (j := 9) (u := .int .i64 (s.claims + 1)) (s' := { s with claims := s.claims + 1 }) rfl rfl rfl rfl)
    have HF1 := Hid.mk' (Fr.setCell w g 9 (.int .i64 (s.claims + 1)))
    have HD := Hid.mk' hd
    clear h hd
    go_enter Tryz.func10, Tryz.ntmps10
    go_upto_region 4 with fail
    clear c9 f9 c5
    generalize w.setCell ⟨g, 9, none⟩ (.int .i64 (s.claims + 1)) = w1 at *
    have c9 := H1.out.cells.2.2.2.2.2.2.2.2.2.1
    have c10 := H1.out.cells.2.2.2.2.2.2.2.2.2.2
    have f10 := H1.out.free 10
    dsimp only at c9 c10
    have H2 := Hid.mk' (H1.out.set (j := 10) (u := .int .i64 (s.claims + 1)) (s' := { s with claims := s.claims + 1, owner := s.claims + 1 }) rfl rfl rfl rfl)
    have HF2 := Hid.mk' (HF1.out.trans (Fr.setCell w1 g 10 (.int .i64 (s.claims + 1))) fun _ _ q => q)
    clear H1 HF1
    go_upto_region 5 with fail
    clear c9 c10 f10
    generalize w1.setCell ⟨g, 10, none⟩ (.int .i64 (s.claims + 1)) = w2 at *
    have c9 := H2.out.cells.2.2.2.2.2.2.2.2.2.1
    dsimp only at c9
    go_wp2
    go_ret
    refine ⟨rfl, ?_, HF2.out⟩
    have e := H2.out
    rw [HD.out] at e
    exact e
  · rw [hd] at c5
    have HH := Hid.mk' h
    clear h
    go_enter Tryz.func10, Tryz.ntmps10
    go_wp2
    go_ret
    exact ⟨rfl, HH.out, Fr.refl _ _⟩
/-- Does the fuse let one through, and what the disk is then. -/
def rLetsB (s : RSt) : Bool := !(s.fused && decide (s.left = 0))
def rLets (s : RSt) : RSt := if rLetsB s then (if s.fused then { s with left := s.left - 1, count := s.count + 1 } else { s with count := s.count + 1 }) else { s with dead := true }
theorem rLets_any (h : RDAt w B g hv wv ov s) (hl : s.fused = true → 0 ≤ s.left ∧ s.left ≤ 9223372036854775807) (hc : 0 ≤ s.count ∧ s.count < 9223372036854775807) : Calls Tryz.prog 65 #[.pointer (some ⟨g, 0, none⟩)] w fun e w' => e = .returned (.bool (rLetsB s)) ∧ RDAt w' B g hv wv ov (rLets s) ∧ Fr (fun i => i = g) w w' := by
  have c3 := h.cells.2.2.2.1
  have c4 := h.cells.2.2.2.2.1
  have c5 := h.cells.2.2.2.2.2.1
  have c7 := h.cells.2.2.2.2.2.2.2.1
  have f4 := h.free 4
  have f5 := h.free 5
  have f7 := h.free 7
  have hw7 : IntKind.i64.wrap (s.count + 1) = s.count + 1 := by rw [IntKind.wrap_i64]; omega
  unfold rLets rLetsB
  cases hf : s.fused
  · rw [hf] at c3
    have H1 := Hid.mk' (h.set (j := 7) (u := .int .i64 (s.count + 1)) (s' := { s with count := s.count + 1 }) rfl rfl rfl rfl)
    have HF1 := Hid.mk' (Fr.setCell w g 7 (.int .i64 (s.count + 1)))
    have HD := Hid.mk' hf
    clear h hf hl
    go_enter Tryz.func65, Tryz.ntmps65
    go_wp2
    go_ret
    refine ⟨rfl, ?_, HF1.out⟩
    have e := H1.out
    rw [HD.out] at e
    exact e
  · rw [hf] at c3
    by_cases h0 : s.left = 0
    · have H1 := Hid.mk' (h.set (j := 5) (u := .bool true) (s' := { s with dead := true }) rfl rfl rfl rfl)
      have HF1 := Hid.mk' (Fr.setCell w g 5 (.bool true))
      have HD := Hid.mk' hf
      have e0 : (s.left == 0) = true := by simpa using h0
      have HE : Hid ((!(true && decide (s.left = 0))) = false) := by rw [decide_eq_true h0]; exact Hid.mk' rfl
      rw [HE.out]
      clear h hf hl h0 HE
      go_enter Tryz.func65, Tryz.ntmps65
      go_wp2
      go_ret
      refine ⟨rfl, ?_, HF1.out⟩
      have e := H1.out
      rw [HD.out] at e
      exact e
    · have hl0 := hl hf
      have e0 : (s.left == 0) = false := by simpa using h0
      have HE : Hid ((!(true && decide (s.left = 0))) = true) := by rw [decide_eq_false h0]; exact Hid.mk' rfl
      have hw4 : IntKind.i64.wrap (s.left - 1) = s.left - 1 := by rw [IntKind.wrap_i64]; omega
      have H1 := Hid.mk' (h.set (j := 4) (u := .int .i64 (s.left - 1)) (s' := { s with left := s.left - 1 }) rfl rfl rfl rfl)
      have HF1 := Hid.mk' (Fr.setCell w g 4 (.int .i64 (s.left - 1)))
      have HD := Hid.mk' hf
      rw [HE.out]
      clear h hf hl h0 HE hl0
      go_enter Tryz.func65, Tryz.ntmps65
      go_upto_region 6 with fail
      clear c3 c4 c5 c7 f4 f5 f7
      generalize w.setCell ⟨g, 4, none⟩ (.int .i64 (s.left - 1)) = w1 at *
      have c7 := H1.out.cells.2.2.2.2.2.2.2.1
      have f7 := H1.out.free 7
      dsimp only at c7
      have H2 := Hid.mk' (H1.out.set (j := 7) (u := .int .i64 (s.count + 1)) (s' := { s with left := s.left - 1, count := s.count + 1 }) rfl rfl rfl rfl)
      have HF2 := Hid.mk' (HF1.out.trans (Fr.setCell w1 g 7 (.int .i64 (s.count + 1))) fun _ _ q => q)
      clear H1 HF1
      go_wp2
      go_ret
      refine ⟨rfl, ?_, HF2.out⟩
      have e := H2.out
      rw [HD.out] at e
      exact e
end
end Go.Proofs.YtlcdpmjdnihocaaGreatD
