import Derived.Test.YtbnbbelkddbndaaAfter
/- Blocks with their numbers held against each other; Equal, oneSize, Same; no condition but that lists are not longer than lists can be. -/
namespace Go.Proofs.Ytbnbbelkddbndaa
open Go.RowKit Go.Maps
theorem eq25d (d : Nat) (f g : Nat → Int) (w : World) : (Op.equalIn (d + 1 + 1) 40 (.agg (blk f)) (.agg (blk g))).run Try.prog w = .ok (sameB f g) w := by
  have key := each25 d f g w (List.range' 0 [:1024].size) (fun i hi => by simpa [Std.Legacy.Range.size] using hi)
  rw [Op.equalIn]
  simp only [Sem.run_bind, run_underlying Try.underlying40, Result.andThen_ok]
  rw [show (sizeOf 5).run Try.prog w = .ok 1 w by simp [go_sem]]
  simp only [Result.andThen_ok, Std.Legacy.Range.forIn_eq_forIn_range']
  refine (congrArg (fun r => Result.andThen r _) key).trans ?_
  have hr : List.range' 0 [:1024].size = List.range 1024 := by simp [Std.Legacy.Range.size, List.range_eq_range']
  rw [hr]
  show Result.andThen (Result.ok ((if sameB f g = true then none else some false), ()) w) _ = _
  cases sameB f g <;> simp
theorem part_idx (c : Cel) (w : World) : (part 3 (celRow c).toArray 0).run Try.prog w = .ok (.int .i64 c.1) w := by
  simp [part, Try.isAgg3, celRow]
theorem part_blk (c : Cel) (w : World) : (part 40 (celRow c).toArray 1).run Try.prog w = .ok (.agg (blk c.2)) w := by
  have hs := blk_size c.2
  have hc := cel_size c
  have he : (celRow c).toArray.extract 1 (1 + 1024) = blk c.2 := by
    apply Array.toList_inj.1
    have ht : (blk c.2).toList.take 1024 = (blk c.2).toList := List.take_of_length_le (by rw [Array.length_toList, hs]; omega)
    simp [celRow, ht]
  generalize hR : (celRow c).toArray = R at *
  simp [part, Try.isAgg40, Try.sizeOf40, hc, he]
theorem fields44 : (Try.prog.fieldsOf 44).toList.map (fun f => (f.name, f.type, f.offset)) = [("Index", 3, 0), ("Data", 40, 1)] := by kernel_rfl
theorem under44 : Try.prog.underlying 44 = some (.struct (Try.prog.fieldsOf 44)) := by
  unfold Program.fieldsOf
  rw [Try.underlying44]
theorem held44 : Try.prog.stoodInHeld 44 = false := by kernel_rfl
/-- Are two blocks with their numbers the same? -/
def celB (a b : Cel) : Bool := (a.1 == b.1) && sameB a.2 b.2
theorem eq_cel (d : Nat) (a b : Cel) (w : World) : (Op.equalIn (d + 1 + 1 + 1) 44 (.agg (celRow a).toArray) (.agg (celRow b).toArray)).run Try.prog w = .ok (celB a b) w := by
  rw [run_equalIn_struct w (d + 1 + 1) 44 _ _ under44 held44]
  have hf := fields44
  generalize (Try.prog.fieldsOf 44).toList = fs at hf
  obtain ⟨f1, f2, rfl⟩ : ∃ f1 f2, fs = [f1, f2] := by
    have hl : fs.length = 2 := by have := congrArg List.length hf; simpa using this
    rcases fs with _ | ⟨f1, _ | ⟨f2, _ | ⟨f3, t⟩⟩⟩
    · simp at hl
    · simp at hl
    · exact ⟨f1, f2, rfl⟩
    · simp at hl
  · simp only [List.map_cons, List.map_nil, List.cons.injEq, Prod.mk.injEq] at hf
    obtain ⟨⟨n1, t1, o1⟩, ⟨n2, t2, o2⟩, _⟩ := hf
    have e1 := part_idx a
    have e2 := part_idx b
    have e3 := part_blk a
    have e4 := part_blk b
    have e5 := eq25d d a.2 b.2
    generalize (celRow a).toArray = A at *
    generalize (celRow b).toArray = B at *
    generalize blk a.2 = F at *
    generalize blk b.2 = G at *
    unfold celB
    cases hx : (a.1 == b.1)
    · simp [Op.eqFields, n1, t1, o1, e1, e2, run_equalIn_int _ _ _ _ _ _ _ Try.underlying3, hx]
    · cases hy : sameB a.2 b.2
      · rw [hy] at e5
        simp [Op.eqFields, n1, t1, o1, n2, t2, o2, e1, e2, e3, e4, e5, run_equalIn_int _ _ _ _ _ _ _ Try.underlying3, hx]
      · rw [hy] at e5
        simp [Op.eqFields, n1, t1, o1, n2, t2, o2, e1, e2, e3, e4, e5, run_equalIn_int _ _ _ _ _ _ _ Try.underlying3, hx]
/-- A block with its number lies at a place. -/
def CelAt (w : World) (g off : Nat) (c : Cel) : Prop := w.cell? ⟨g, off, none⟩ = some (.int .i64 c.1) ∧ BlkAt w g (off + 1) c.2
theorem CelAt.range {w : World} {g off : Nat} {c : Cel} (h : CelAt w g off c) : w.rangeAt g off (celRow c) := fun j v hv => by
  cases j with
  | zero =>
    have e : Value.int .i64 c.1 = v := by simpa [celRow] using hv
    rw [← e]
    exact h.1
  | succ j =>
    have hv' : (blk c.2).toList[j]? = some v := by simpa [celRow] using hv
    have := h.2 j v hv'
    rwa [show off + 1 + j = off + (j + 1) by omega] at this
theorem load44 {w : World} {g off : Nat} {c : Cel} (h : CelAt w g off c) : (Instr.loadAt 44 (.pointer (some ⟨g, off, none⟩))).run Try.prog w = .ok (.agg (celRow c).toArray) w :=
  run_loadAt_mid (P := Try.prog) w g off 44 (celRow c) _ h.range Try.underlying44 rfl (by rw [celRow_len]; exact size85)
theorem neqg44 (x y : Operand) (F G : Array Value) (u : World) : (eqGuard .neq 44 x y (.agg F) (.agg G)).run Try.prog u = .ok () u := by
  unfold eqGuard
  simp
theorem eqg44 (x y : Operand) (F G : Array Value) (u : World) : (eqGuard .eql 44 x y (.agg F) (.agg G)).run Try.prog u = .ok () u := by
  unfold eqGuard
  simp
theorem neq44 (a b : Cel) (r : Bool) (hr : celB a b = r) (u : World) : (binOp .neq 44 (.agg (celRow a).toArray) (.agg (celRow b).toArray)).run Try.prog u = .ok (.bool (!r)) u := by
  have h := eq_cel 9997 a b u
  rw [hr] at h
  generalize (celRow a).toArray = F at *
  generalize (celRow b).toArray = G at *
  have h' : (Op.equalIn 10000 44 (.agg F) (.agg G)).run Try.prog u = .ok r u := h
  simp only [binOp, Op.equal, Op.maxDepth, Sem.run_bind, h', Result.andThen_ok, Sem.run_pure]
theorem eql44 (a b : Cel) (r : Bool) (hr : celB a b = r) (u : World) : (binOp .eql 44 (.agg (celRow a).toArray) (.agg (celRow b).toArray)).run Try.prog u = .ok (.bool r) u := by
  have h := eq_cel 9997 a b u
  rw [hr] at h
  generalize (celRow a).toArray = F at *
  generalize (celRow b).toArray = G at *
  have h' : (Op.equalIn 10000 44 (.agg F) (.agg G)).run Try.prog u = .ok r u := h
  simp only [binOp, Op.equal, Op.maxDepth, Sem.run_bind, h', Result.andThen_ok, Sem.run_pure]
theorem wpStill_load44 {ops : Array Oper} {Q : Act → Prop} {a : Act} {o : Oper} {rest : List Oper} {w : World} (hw : Region.wanted o (yielded ops a.tmps) = true) (x : Operand) (ho : o.op = .load 44 x)
    (g off : Nat) (hx : a.eval x = .pointer (some ⟨g, off, none⟩)) (c : Cel) (hg : CelAt w g off c)
    (h : wpStill Try.prog ops w Q rest (a.put o.dst (.agg (celRow c).toArray))) : wpStill Try.prog ops w Q (o :: rest) a := by
  unfold wpStill
  rw [if_pos hw]
  unfold Oper.still execOp
  simp only [ho, hx, load44 hg, Sem.run_bind, Result.andThen_ok, Sem.run_pure, Oper.stillUpon]
  exact ⟨trivial, h⟩
theorem wpStill_neq44 {ops : Array Oper} {Q : Act → Prop} {a : Act} {o : Oper} {rest : List Oper} {w : World} (hw : Region.wanted o (yielded ops a.tmps) = true) (x y : Operand) (ho : o.op = .binOp .neq 44 x y 44)
    (c d : Cel) (r : Bool) (hx : a.eval x = .agg (celRow c).toArray) (hy : a.eval y = .agg (celRow d).toArray) (hr : celB c d = r)
    (h : wpStill Try.prog ops w Q rest (a.put o.dst (.bool (!r)))) : wpStill Try.prog ops w Q (o :: rest) a := by
  have e := neq44 c d r hr w
  unfold wpStill
  rw [if_pos hw]
  unfold Oper.still execOp
  simp only [ho, hx, hy, Sem.run_bind, neqg44, e, Result.andThen_ok, Sem.run_pure, Oper.stillUpon]
  exact ⟨trivial, h⟩
/-- Are two lists the same? -/
def celsB : List Cel → List Cel → Bool
  | [], [] => true
  | a :: s, b :: t => celB a b && celsB s t
  | _, _ => false
theorem celsB_len : ∀ {s t : List Cel}, celsB s t = true → s.length = t.length
  | [], [], _ => rfl
  | a :: s, b :: t, h => by
    unfold celsB at h
    simp at h
    simp [celsB_len h.2]
  | [], _ :: _, h => by simp [celsB] at h
  | _ :: _, [], h => by simp [celsB] at h
theorem celB_iff {a b : Cel} (ha : Can a.2) (hb : Can b.2) : celB a b = true ↔ a = b := by
  unfold celB
  simp only [Bool.and_eq_true, beq_iff_eq, ha.same hb]
  constructor
  · rintro ⟨h1, h2⟩
    exact Prod.ext h1 h2
  · rintro rfl
    exact ⟨rfl, rfl⟩
theorem celsB_iff : ∀ {s t : List Cel}, (∀ c ∈ s, Can c.2) → (∀ c ∈ t, Can c.2) → (celsB s t = true ↔ s = t)
  | [], [], _, _ => by simp [celsB]
  | a :: s, b :: t, hs, ht => by
    have ih := celsB_iff (s := s) (t := t) (fun c hc => hs c (List.mem_cons_of_mem _ hc)) (fun c hc => ht c (List.mem_cons_of_mem _ hc))
    unfold celsB
    simp only [Bool.and_eq_true, celB_iff (hs a (by simp)) (ht b (by simp)), ih, List.cons.injEq]
  | [], _ :: _, _, _ => by simp [celsB]
  | _ :: _, [], _, _ => by simp [celsB]
theorem ImgAt.cel {w : World} {b off : Nat} {l : List Cel} (h : CelsAt w b off l) {k : Nat} {c : Cel} (hc : l[k]? = some c) : CelAt w b (off + k * 1025) c := h k c hc
end Go.Proofs.Ytbnbbelkddbndaa
/- slices.Equal of blocks with their numbers; no condition but that lists are not longer than lists can be. -/
namespace Go.Proofs.Ytbnbbelkddbndaa
open Go.RowKit Go.Maps
set_option maxRecDepth 20000 in
set_option maxHeartbeats 1000000 in
theorem sameHelds_any (s t : List Cel) (p q : Option Addr) (cp cq : Nat) (w : World) (hls : s.length < 9223372036854775807) (_hlt : t.length < 9223372036854775807) (hs : ImgAt w p s) (ht : ImgAt w q t) :
    Calls Try.prog 51 #[.slice p s.length cp, .slice q t.length cq] w fun e w' => e = .returned (.bool (celsB s t)) ∧ Below w.heap.size w w' := by
  by_cases hl : s.length = t.length
  · have HS : Hid (ImgAt w p s) := hs
    have HT : Hid (ImgAt w q t) := ht
    have HR : Hid (celsB s t = celsB (s.drop 0) (t.drop 0)) := rfl
    generalize celsB s t = res at *
    obtain ⟨n, hn⟩ : ∃ n, s.length = n := ⟨_, rfl⟩
    have hn2 : t.length = n := by omega
    rw [hn, hn2]
    rw [hn] at hls
    have HL : Hid (s.length = n ∧ t.length = n) := ⟨hn, hn2⟩
    clear hs ht hl hn hn2
    go_enter Try.func51, Try.ntmps51
    go_wp2
    go_loopw [5] (fun s5 wx => ∃ k : Nat, k ≤ n ∧ s5 = .int .i64 k ∧ Hid (Below w.heap.size w wx) ∧ Hid (res = celsB (s.drop k) (t.drop k))) (fun s5 _ => n - (intOf s5).toNat)
    case atStart => exact ⟨0, by omega, rfl, Below.refl _ _, HR.out⟩
    case round =>
      obtain ⟨k, hk, rfl, HB, HR2⟩ := hrel
      clear HR
      by_cases hk2 : (k : Int) < n
      · obtain ⟨hn, hn2⟩ := HL.out
        have hc : s[k]? = some s[k] := List.getElem?_eq_getElem (by omega)
        have hd : t[k]? = some t[k] := List.getElem?_eq_getElem (by omega)
        have hcd : s.drop k = s[k] :: s.drop (k + 1) := List.drop_eq_getElem_cons (by omega)
        have hdd : t.drop k = t[k] :: t.drop (k + 1) := List.drop_eq_getElem_cons (by omega)
        obtain ⟨b1, o1, rfl, l1, C1⟩ := HS.out (by omega)
        obtain ⟨b2, o2, rfl, l2, C2⟩ := HT.out (by omega)
        generalize s[k] = c at hc hcd
        generalize t[k] = d at hd hdd
        have q1 : CelAt wr b1 (o1 + k * 1025) c := (C1.later HB.out l1) k c hc
        have q2 : CelAt wr b2 (o2 + k * 1025) d := (C2.later HB.out l2) k d hd
        have hR := HR2.out
        rw [hcd, hdd] at hR
        unfold celsB at hR
        clear HR2 C1 C2 hcd hdd hc hd hn hn2
        cases hb : celB c d
        · have hr0 : res = false := by rw [hR, hb]; rfl
          clear hR
          subst hr0
          go_wp2
          refine wp_region_still_lit (by kernel_rfl) (by kernel_rfl) ?_
          repeat still_step
          refine wpStill_load44 rfl (.tmp 19) rfl b1 (o1 + k * 1025) rfl c q1 ?_
          repeat still_step
          refine wpStill_load44 rfl (.tmp 23) rfl b2 (o2 + k * 1025) rfl d q2 ?_
          repeat still_step
          refine wpStill_neq44 rfl (.tmp 20) (.tmp 24) rfl c d false rfl rfl hb ?_
          simp only [Act.put, List.setIfInBounds_toArray, List.set_cons_succ, List.set_cons_zero, Bool.not_false]
          refine wpStill_nil ?_
          go_wp2
          go_ret
          exact ⟨rfl, HB.out.drew⟩
        · have HR3 : Hid (res = celsB (s.drop (k + 1)) (t.drop (k + 1))) := by
            have e : res = celsB (s.drop (k + 1)) (t.drop (k + 1)) := by rw [hR, hb]; rfl
            exact e
          clear hR
          go_wp2
          refine wp_region_still_lit (by kernel_rfl) (by kernel_rfl) ?_
          repeat still_step
          refine wpStill_load44 rfl (.tmp 19) rfl b1 (o1 + k * 1025) rfl c q1 ?_
          repeat still_step
          refine wpStill_load44 rfl (.tmp 23) rfl b2 (o2 + k * 1025) rfl d q2 ?_
          repeat still_step
          refine wpStill_neq44 rfl (.tmp 20) (.tmp 24) rfl c d true rfl rfl hb ?_
          simp only [Act.put, List.setIfInBounds_toArray, List.set_cons_succ, List.set_cons_zero, Bool.not_true]
          refine wpStill_nil ?_
          go_wp2
          exact ⟨⟨k + 1, by omega, by go_num, HB.out.drew, HR3.out⟩, by simp [intOf]; omega⟩
      · obtain rfl : k = n := by omega
        have hr0 : res = true := by
          obtain ⟨hn, hn2⟩ := HL.out
          rw [HR2.out, List.drop_of_length_le (by omega), List.drop_of_length_le (by omega)]
          rfl
        subst hr0
        go_wp2
        go_ret
        exact ⟨rfl, HB.out⟩
  · have e : celsB s t = false := by
      cases h : celsB s t
      · rfl
      · exact absurd (celsB_len h) hl
    rw [e]
    have hlI : ¬ ((s.length : Int) = t.length) := by omega
    clear e hs ht
    go_enter Try.func51, Try.ntmps51
    go_wp2
    go_ret
    exact ⟨rfl, Below.refl _ _⟩
end Go.Proofs.Ytbnbbelkddbndaa
/- Regions whose order is drawn, where what was read is written over at the end: A holds all along, B until the operation m has come up; what m waits for may be read under B. -/
namespace Go.Proofs.Ytbnbbelkddbndaa
open Go.RowKit
section
variable {P : Program} {ops : Array Oper} {Q : Exit → Act → World → Prop} {A B : World → Prop} {m : Nat}
/-- What is asked behind an operation: A, and B as long as m is to come. -/
def PhS (A B : World → Prop) (m : Nat) (L : Array Bool) (w : World) : Prop := A w ∧ (L.getD m true = false → B w)
/-- Whatever order comes up from here on. -/
def anyPh (P : Program) (ops : Array Oper) (Q : Exit → Act → World → Prop) (A B : World → Prop) (m : Nat) : Nat → Array Bool → Act → World → Prop
  | 0, L, a, w => Region.ready .any ops L = [] ∧ Q .normal a w
  | n + 1, L, a, w => (Region.ready .any ops L = [] → Q .normal a w) ∧ ∀ i ∈ Region.ready .any ops L, wpOp P ops Q i (fun a' w' => PhS A B m (L.setIfInBounds i true) w' ∧ anyPh P ops Q A B m n (L.setIfInBounds i true) a' w') a w
theorem anyPh_any : ∀ (n : Nat) (L : Array Bool) (a : Act) (w : World), anyPh P ops Q A B m n L a w → wpAny P .any ops Q n L a w
  | 0, _, _, _, h => h
  | n + 1, _, _, _, h => ⟨h.1, fun i hi => wpOp_mono (fun a' w' h' => anyPh_any n _ a' w' h'.2) (h.2 i hi)⟩
theorem unlisted_of_ready {i j : Nat} {L : Array Bool} {oj : Oper} (hi : i ∈ Region.ready .any ops L) (hj : j ∈ Region.ready .any ops L) (hoj : ops[j]? = some oj) : ∀ e ∈ oj.after, Region.binds .any e = true → e.on ≠ i := fun e he hb heq => by
  obtain ⟨_, o, ho, hall⟩ := mem_ready.1 hj
  rw [hoj] at ho
  cases ho
  have h1 := hall e he hb
  have h0 := (mem_ready.1 hi).1
  rw [heq] at h1
  rcases Nat.lt_or_ge i L.size with h' | h'
  · simp [h'] at h0 h1
    rw [h0] at h1
    cases h1
  · simp [Array.getElem?_eq_none h'] at h1
/-- An operation is taken first: V is what it reads under; V holds as long as it is to come. -/
theorem anyPh_first {V : World → Prop} {i : Nat} {oi : Oper} {v : Value} (hi : ops[i]? = some oi) (hsel : ∀ (j : Nat) (o : Oper) cs b, ops[j]? = some o → o.op ≠ .select cs b) (hQ : ∀ c a w, Q (.panic c) (a.put oi.dst v) w → Q (.panic c) a w) (him : i ≠ m)
    (hV : (∀ w, A w → V w) ∨ ((∀ w, A w → B w → V w) ∧ ∀ om, ops[m]? = some om → ∃ e ∈ om.after, Region.binds .any e = true ∧ e.on = i)) :
    ∀ (n : Nat) (L : Array Bool) (a : Act) (w : World), (∀ j oj, ops[j]? = some oj → j ≠ i → L.getD j true = false → (∀ e ∈ oj.after, Region.binds .any e = true → e.on ≠ i) → oi.apart ops oj = true) →
      ((∀ w, A w → V w) ∨ L.getD m true = false) → i ∈ Region.ready .any ops L → YieldsIf P ops V oi v a → PhS A B m L w → anyPh P ops Q A B m n (L.setIfInBounds i true) (a.put oi.dst v) w → anyPh P ops Q A B m (n + 1) L a w := by
  have same : ∀ (L : Array Bool) (w : World), PhS A B m (L.setIfInBounds i true) w ↔ PhS A B m L w := fun L w => by
    unfold PhS
    rw [getD_set_ne true him]
  have reads : ∀ (L : Array Bool) (w : World), ((∀ w, A w → V w) ∨ L.getD m true = false) → PhS A B m L w → V w := fun L w hL h => by
    rcases hV with q | ⟨q, _⟩
    · exact q w h.1
    · rcases hL with q2 | q2
      · exact q2 w h.1
      · exact q w h.1 (h.2 q2)
  intro n
  induction n with
  | zero =>
    intro L a w _ hL hr hy hS H
    refine ⟨fun h => (by rw [h] at hr; cases hr), fun j hj => ?_⟩
    by_cases hji : j = i
    · subst hji
      exact hy.wpOp hi (reads L w hL hS) ⟨(same L w).2 hS, H⟩
    · have := ready_mono hj hji
      rw [H.1] at this
      cases this
  | succ n ih =>
    intro L a w hfree hL hr hy hS H
    refine ⟨fun h => (by rw [h] at hr; cases hr), fun j hj => ?_⟩
    by_cases hji : j = i
    · subst hji
      exact hy.wpOp hi (reads L w hL hS) ⟨(same L w).2 hS, H⟩
    · obtain ⟨hjun, oj, hoj, _⟩ := mem_ready.1 hj
      have hnot := unlisted_of_ready hr hj hoj
      have h2 := wpOp_putIf hoj (hfree j oj hoj hji hjun hnot) (fun cs b => hsel i oi cs b hi) (fun cs b => hsel j oj cs b hoj) hQ hy (H.2 j (ready_mono hj hji))
      have hL' : (∀ w, A w → V w) ∨ (L.setIfInBounds j true).getD m true = false := by
        rcases hV with q | ⟨_, q⟩
        · exact .inl q
        · rcases hL with q2 | q2
          · exact .inl q2
          · refine .inr ?_
            have hjm : j ≠ m := fun e => by
              subst e
              obtain ⟨e, h1, h2, h3⟩ := q oj hoj
              exact hnot e h1 h2 h3
            rw [getD_set_ne true hjm]
            exact q2
      refine wpOp_mono (fun a' w' h3 => ?_) h2
      have h4 : PhS A B m (L.setIfInBounds j true) w' := by
        refine (same _ w').1 ?_
        rw [Array.setIfInBounds_comm _ _ hji]
        exact h3.2.1
      refine ⟨h4, ih (L.setIfInBounds j true) a' w' (fun k ok hk hki hun hno => hfree k ok hk hki ?_ hno) hL' (ready_mono hr (Ne.symm hji)) h3.1 h4 ?_⟩
      · by_cases hjk : j = k
        · subst hjk
          exact hjun
        · rw [getD_set_ne true hjk] at hun
          exact hun
      · rw [Array.setIfInBounds_comm _ _ hji]
        exact h3.2.2
/-- May the operations be taken in this order? 0: a read under A; 1: a read under B, that m waits for; else: nothing else may come up. -/
def ordC (ops : Array Oper) (m : Nat) : List (Nat × Nat) → Array Bool → Bool
  | [], L => (Region.ready .any ops L).isEmpty
  | (i, 0) :: r, L => (Region.ready .any ops L).contains i && Region.free .any ops L i && (ops[i]?).isSome && (i != m) && ordC ops m r (L.setIfInBounds i true)
  | (i, 1) :: r, L => (Region.ready .any ops L).contains i && Region.free .any ops L i && (ops[i]?).isSome && (i != m) && (!(L.getD m true)) && (match ops[m]? with | some om => om.after.any fun e => Region.binds .any e && (e.on == i) | none => false) && ordC ops m r (L.setIfInBounds i true)
  | (i, _) :: r, L => (Region.ready .any ops L == [i]) && (ops[i]?).isSome && ordC ops m r (L.setIfInBounds i true)
/-- The operations themselves, in that order. -/
def inOrdC (ol : List Oper) (m : Nat) : List (Nat × Nat) → List (Nat × Bool × Oper)
  | [] => []
  | (i, k) :: r => match ol[i]? with
    | some o => (k, i == m, o) :: inOrdC ol m r
    | none => inOrdC ol m r
def wpPh (P : Program) (ops : Array Oper) (Q : Exit → Act → World → Prop) (A B : World → Prop) : List (Nat × Bool × Oper) → Bool → Act → World → Prop
  | [], _, a, w => Q .normal a w
  | (0, _, o) :: r, f, a, w => ∃ v, YieldsIf P ops A o v a ∧ wpPh P ops Q A B r f (a.put o.dst v) w
  | (1, _, o) :: r, f, a, w => ∃ v, YieldsIf P ops (fun w => A w ∧ B w) o v a ∧ wpPh P ops Q A B r f (a.put o.dst v) w
  | (_, mm, o) :: r, f, a, w => if Region.wanted o (yielded ops a.tmps) then o.wp P a w (fun a' w' => (A w' ∧ ((f || mm) = false → B w')) ∧ wpPh P ops Q A B r (f || mm) a' w') Q else (A w ∧ ((f || mm) = false → B w)) ∧ wpPh P ops Q A B r (f || mm) (a.put o.dst undef) w
theorem listed_next {L : Array Bool} {f : Bool} {i : Nat} (hf : L.getD m true = f) : (L.setIfInBounds i true).getD m true = (f || (i == m)) := by
  by_cases e : i = m
  · subst e
    rw [beq_self_eq_true, Bool.or_true]
    rcases Nat.lt_or_ge i L.size with h | h
    · simp [h]
    · simp [h]
  · rw [getD_set_ne true e, hf, beq_false_of_ne e, Bool.or_false]
theorem wpPh_any {ol : List Oper} (hs : Region.noSelect ol.toArray = true) (hQ : ∀ d v c a w, Q (.panic c) (a.put d v) w → Q (.panic c) a w) : ∀ (l : List (Nat × Nat)) (L : Array Bool) (f : Bool) (a : Act) (w : World), L.getD m true = f → PhS A B m L w →
    ordC ol.toArray m l L = true → wpPh P ol.toArray Q A B (inOrdC ol m l) f a w → anyPh P ol.toArray Q A B m l.length L a w
  | [], L, f, a, w, _, _, hB, h => ⟨by simpa [ordC] using hB, h⟩
  | (i, 0) :: r, L, f, a, w, hf, hS, hB, h => by
    simp only [ordC, Bool.and_eq_true, bne_iff_ne, ne_eq] at hB
    obtain ⟨⟨⟨⟨h1, h2⟩, h3⟩, h4⟩, h5⟩ := hB
    obtain ⟨o, hi⟩ := Option.isSome_iff_exists.1 h3
    have hi' : ol[i]? = some o := by simpa using hi
    simp only [inOrdC, hi', wpPh] at h
    obtain ⟨v, hy, hr⟩ := h
    have hn := listed_next (i := i) hf
    rw [beq_false_of_ne h4, Bool.or_false] at hn
    exact anyPh_first (V := A) hi (Region.noSelect_spec hs) (fun c a w => hQ _ _ c a w) h4 (.inl fun _ q => q) _ _ a w (Region.free_spec hi h2) (.inl fun _ q => q) (by simpa using h1) hy hS (wpPh_any hs hQ r _ f _ w hn (by unfold PhS at hS ⊢; rw [getD_set_ne true h4]; exact hS) h5 hr)
  | (i, 1) :: r, L, f, a, w, hf, hS, hB, h => by
    simp only [ordC, Bool.and_eq_true, bne_iff_ne, ne_eq, Bool.not_eq_true'] at hB
    obtain ⟨⟨⟨⟨⟨⟨h1, h2⟩, h3⟩, h4⟩, h6⟩, h7⟩, h5⟩ := hB
    obtain ⟨o, hi⟩ := Option.isSome_iff_exists.1 h3
    have hi' : ol[i]? = some o := by simpa using hi
    simp only [inOrdC, hi', wpPh] at h
    obtain ⟨v, hy, hr⟩ := h
    have hn := listed_next (i := i) hf
    rw [beq_false_of_ne h4, Bool.or_false] at hn
    refine anyPh_first (V := fun w => A w ∧ B w) hi (Region.noSelect_spec hs) (fun c a w => hQ _ _ c a w) h4 (.inr ⟨fun _ q1 q2 => ⟨q1, q2⟩, fun om hom => ?_⟩) _ _ a w (Region.free_spec hi h2) (.inr h6) (by simpa using h1) hy hS (wpPh_any hs hQ r _ f _ w hn (by unfold PhS at hS ⊢; rw [getD_set_ne true h4]; exact hS) h5 hr)
    rw [hom] at h7
    simp only [Array.any_eq_true, Bool.and_eq_true, beq_iff_eq] at h7
    obtain ⟨k, hk, q1, q2⟩ := h7
    exact ⟨_, Array.getElem_mem hk, q1, q2⟩
  | (i, k + 2) :: r, L, f, a, w, hf, hS, hB, h => by
    simp only [ordC, Bool.and_eq_true, beq_iff_eq] at hB
    obtain ⟨⟨h1, h3⟩, h2⟩ := hB
    obtain ⟨o, hi⟩ := Option.isSome_iff_exists.1 h3
    have hi' : ol[i]? = some o := by simpa using hi
    simp only [inOrdC, hi', wpPh] at h
    have hn := listed_next (i := i) hf
    have ph : ∀ w', (A w' ∧ ((f || (i == m)) = false → B w')) → PhS A B m (L.setIfInBounds i true) w' := fun w' q => by
      unfold PhS
      rw [hn]
      exact q
    refine ⟨fun q => (by rw [h1] at q; cases q), fun j hj => ?_⟩
    rw [h1] at hj
    obtain rfl : j = i := by simpa using hj
    unfold wpOp
    rw [hi]
    simp only
    split
    · rename_i hw
      rw [if_pos hw] at h
      exact .inl (Oper.wp_mono (fun a' w' h' => ⟨ph w' h'.1, wpPh_any hs hQ r _ _ a' w' hn (ph w' h'.1) h2 h'.2⟩) h)
    · rename_i hw
      rw [if_neg hw] at h
      exact ⟨ph w h.1, wpPh_any hs hQ r _ _ _ w hn (ph w h.1) h2 h.2⟩
/-- A region that draws its order, walked in the order l. -/
theorem wp_region_ph {id : Nat} {a : Act} {w : World} {ol : List Oper} (m : Nat) (l : List (Nat × Nat)) (hm : P.follows .mixedOrders = true) (hl : l.length = ol.length)
    (hB : (Region.noSelect ol.toArray && (!((Array.replicate ol.toArray.size false).getD m true)) && ordC ol.toArray m l (Array.replicate ol.toArray.size false)) = true) (hQ : ∀ d v c a w, Q (.panic c) (a.put d v) w → Q (.panic c) a w)
    (hA : A w.drew) (hB0 : B w.drew) (h : wpPh P ol.toArray Q A B (inOrdC ol m l) false a w.drew) : (Code.region id ol.toArray true).wp P Q a w := by
  simp only [Bool.and_eq_true, Bool.not_eq_true'] at hB
  have h1 := wpPh_any hB.1.1 hQ l _ false a w.drew hB.1.2 ⟨hA, fun _ => hB0⟩ hB.2 h
  rw [hl] at h1
  exact wp_region_any hm (anyPh_any _ _ _ _ (by simpa using h1))
section
variable {r : List (Nat × Bool × Oper)} {mm f : Bool} {a : Act} {w w' : World} {o : Oper} {v : Value}
/-- The steps of such a walk: a read under A, a read under B, something that is made, something that is done, a call. -/
theorem wpPh_yield (hw : Region.wanted o (yielded ops a.tmps) = true) (hr : ∀ u, A u → (execOp a.eval o).run P u = .ok (.value v) u) (h : wpPh P ops Q A B r f (a.put o.dst v) w) : wpPh P ops Q A B ((0, mm, o) :: r) f a w := ⟨v, .inl ⟨hw, hr⟩, h⟩
theorem wpPh_read (hw : Region.wanted o (yielded ops a.tmps) = true) (hr : ∀ u, A u → B u → (execOp a.eval o).run P u = .ok (.value v) u) (h : wpPh P ops Q A B r f (a.put o.dst v) w) : wpPh P ops Q A B ((1, mm, o) :: r) f a w := ⟨v, .inl ⟨hw, fun u q => hr u q.1 q.2⟩, h⟩
theorem wpPh_make (hw : Region.wanted o (yielded ops a.tmps) = true) (hr : (execOp a.eval o).run P w = .ok (.value v) w') (hS : A w' ∧ ((f || mm) = false → B w')) (h : wpPh P ops Q A B r (f || mm) (a.put o.dst v) w') : wpPh P ops Q A B ((2, mm, o) :: r) f a w := by
  simp only [wpPh, hw, if_true]
  unfold Oper.wp
  rw [hr]
  exact ⟨hS, h⟩
theorem wpPh_do (hw : Region.wanted o (yielded ops a.tmps) = true) (hr : (execOp a.eval o).run P w = .ok .skip w') (hS : A w' ∧ ((f || mm) = false → B w')) (h : wpPh P ops Q A B r (f || mm) (a.put o.dst undef) w') : wpPh P ops Q A B ((2, mm, o) :: r) f a w := by
  simp only [wpPh, hw, if_true]
  unfold Oper.wp
  rw [hr]
  exact ⟨hS, h⟩
theorem wpPh_call (hw : Region.wanted o (yielded ops a.tmps) = true) (fn : FuncId) (xs : List Operand) (ts : Array TypeId) (ho : o.op = .call { callee := .value (.func fn), args := xs.toArray, argTypes := ts }) (hc : ∀ args u, (callFunc fn args).run P u = .ok (.enter fn args) u) (args : List Value) (hx : xs.map a.eval = args)
    (h : Calls P fn args.toArray w fun e w' => ∃ v, e = .returned v ∧ (A w' ∧ ((f || mm) = false → B w')) ∧ wpPh P ops Q A B r (f || mm) (a.put o.dst v) w') : wpPh P ops Q A B ((2, mm, o) :: r) f a w := by
  simp only [wpPh, hw, if_true]
  unfold Oper.wp execOp
  have e : (do let d ← resolve a.eval { callee := .value (.func fn), args := xs.toArray, argTypes := ts } o.type; invoke d.target d.args : Sem Next).run P w = .ok (.enter fn args.toArray) w := by
    have hx' : xs.toArray.map a.eval = args.toArray := by rw [← hx]; simp
    simp only [resolve, hx']
    simp [Act.eval, Deferred.ofValue, invoke, hc]
  simp only [ho]
  rw [e]
  unfold Oper.upon
  exact h.mono fun e w' ⟨v, he, h1, h2⟩ => by subst he; exact ⟨h1, h2⟩
end
end
end Go.Proofs.Ytbnbbelkddbndaa
/- Rows of elements of several cells; lists of puts that came in; a number taken into bounds; no condition. -/
namespace Go.Proofs.Ytbnbbelkddbndaa
open Go.RowKit

section
variable {α : Type} (row : α → List Value) (n : Nat)
theorem fm_len (hr : ∀ x, (row x).length = n) : ∀ l : List α, (l.flatMap row).length = l.length * n
  | [] => by simp
  | x :: t => by rw [List.flatMap_cons, List.length_append, hr x, fm_len hr t, List.length_cons, Nat.add_mul]; omega
theorem fm_get (hr : ∀ x, (row x).length = n) : ∀ (l : List α) (i j : Nat) (r : α), l[i]? = some r → j < n → (l.flatMap row)[i * n + j]? = (row r)[j]?
  | [], i, j, r, h, _ => by simp at h
  | x :: t, 0, j, r, h, hj => by
    have h' : x = r := by simpa using h
    subst h'
    rw [List.flatMap_cons, Nat.zero_mul, Nat.zero_add, List.getElem?_append_left (by rw [hr]; exact hj)]
  | x :: t, i + 1, j, r, h, hj => by
    have h' : t[i]? = some r := by simpa using h
    rw [List.flatMap_cons, List.getElem?_append_right (by rw [hr, Nat.add_mul]; omega), hr, show (i + 1) * n + j - n = i * n + j by rw [Nat.add_mul]; omega]
    exact fm_get hr t i j r h' hj
theorem fm_set (hr : ∀ x, (row x).length = n) : ∀ (l : List α) (i : Nat) (r : α), i < l.length → (l.flatMap row).take (i * n) ++ row r ++ (l.flatMap row).drop (i * n + n) = (l.set i r).flatMap row
  | [], i, r, h => by simp at h
  | x :: t, 0, r, _ => by
    rw [List.set_cons_zero, List.flatMap_cons, List.flatMap_cons, Nat.zero_mul, Nat.zero_add, List.take_zero, List.nil_append, ← hr x, List.drop_left]
  | x :: t, i + 1, r, h => by
    have ih := fm_set hr t i r (by simpa using h)
    have e1 : (i + 1) * n = (row x).length + i * n := by rw [hr, Nat.add_mul]; omega
    rw [List.set_cons_succ, List.flatMap_cons, List.flatMap_cons, ← ih, e1, List.take_length_add_append, Nat.add_assoc, List.drop_length_add_append]
    simp only [List.append_assoc]
end
theorem cel_at {w : World} {base g n cap : Nat} {l : List Cel} (h : w.ownsRow base 44 1025 (.slice (some ⟨g, 0, none⟩) n cap) n (celCells l)) {k K : Nat} {c : Cel} (hK : K = k * 1025) (hk : l[k]? = some c) :
    w.cell? ⟨g, K, none⟩ = some (.int .i64 c.1) ∧ BlkAt w g (K + 1) c.2 := by
  have hc := h.cells (g := g) rfl
  have key : ∀ j, j < 1025 → ∀ v, (celRow c)[j]? = some v → w.cell? ⟨g, K + j, none⟩ = some v := fun j hj v hv => by
    have q0 := (fm_get celRow 1025 celRow_len l k j c hk hj).trans hv
    rw [← hK] at q0
    have q := hc (K + j) v q0
    rwa [Go.WideShapes.add_plain, Nat.zero_add] at q
  clear hK hk hc h
  refine ⟨key 0 (by omega) _ rfl, fun j v hv => ?_⟩
  have hj : j < 1024 := by have := (List.getElem?_eq_some_iff.1 hv).1; rwa [blk_list_len] at this
  rw [Nat.add_assoc, Nat.add_comm 1 j]
  refine key (j + 1) (by omega) v ?_
  rw [show (celRow c)[j + 1]? = (blk c.2).toList[j]? by simp only [celRow, List.getElem?_cons_succ]]
  exact hv
end Go.Proofs.Ytbnbbelkddbndaa
/- Lists of blocks with their numbers that grow; copies of them; of fewer bytes than memory has. -/
namespace Go.Proofs.Ytbnbbelkddbndaa
open Go.RowKit Go.Maps
section
variable {w W W' : World} {v v' : Value}
theorem append_gen {st e : TypeId} {i : TypeInfo} {z : Value} {size bytes : Nat} (ht : Try.prog.underlying st = some (.slice e)) (hi : Try.prog.info? e = some i) (hz : i.zero = some z) (hsize : i.size = size) (hby : i.bytes = bytes) (hzs : z.cells.size = size) (hsz : 0 < size)
    {B : Nat} {n : Nat} {xs : List Value} (hown : W.ownsRow B e size v n xs) {ad : Addr} {m c : Nat} {news : List Value} (hm : 0 < m) (hl : news.length = m * size)
    (hnews : ∀ j u, news[j]? = some u → W.cell? (ad.add j) = some u) (h1 : ∀ u ∈ news, u.oneCell' = true) (h63 : n + m ≤ maxLen) (hbytes : ((n + m) + (n + m) / 4 + 192) * bytes ≤ 281474976710656) (hB : B ≤ W.heap.size) (ty : TypeId) :
    ∃ v' w', (Builtin.append_ #[st, st] ty #[v, .slice (some ad) m c]).run Try.prog W = .ok v' w' ∧ w'.ownsRow B e size v' (n + m) (xs ++ news) ∧ Fr (fun k => v.ownBlock = some k) W w' ∧ ∀ k, v'.ownBlock = some k → v.ownBlock = some k ∨ W.heap.size ≤ k := by
  obtain ⟨v', w', hr, h2, hg, _⟩ := run_append_own_wide (P := Try.prog) W B st ty e i z size bytes ht hi hz hsize hby hzs hsz v n xs hown ad m c news hl hnews h1 h63 hbytes hB
  refine ⟨v', w', hr, h2, Fr.ofGrown hg, fun k hk => ?_⟩
  have hmx : n + m ≤ 9223372036854775807 := by simp only [maxLen] at h63; omega
  have hmb : m * i.bytes ≤ 281474976710656 := by
    rw [hby]
    exact Nat.le_trans (Nat.mul_le_mul_right _ (by omega)) hbytes
  subst hsize
  subst hby
  rcases hown.2 with ⟨rfl, rfl⟩ | ⟨g, cap, cur, rfl, _, hg', hnc, hcm, hcs, htake⟩
  · rw [run_append_nil (P := Try.prog) W st ty e i _ ht hi hz ad m c news hl hnews hm (by omega) hmb] at hr
    injection hr with q1 q2
    rw [← q1] at hk
    injection hk with hk
    exact .inr (by rw [← hk]; exact Nat.le_refl _)
  · by_cases hroom : n + m ≤ cap
    · have hfit : n * i.size + news.length ≤ cur.size := by rw [hl, hcs, ← Nat.add_mul]; exact Nat.mul_le_mul_right _ hroom
      rw [run_append_room (P := Try.prog) W st ty e i ht hi g n cap cur hg' ad m c news hl hnews h1 hroom hfit] at hr
      injection hr with q1 q2
      rw [← q1] at hk
      exact .inl hk
    · rw [run_append_grow (P := Try.prog) W st ty e i _ ht hi hz ⟨g, 0, none⟩ n cap xs hown.1 (hown.cells (g := g) rfl) ad m c news hl hnews (by omega) (by omega) (growslice_fits_wide (by omega) hbytes)] at hr
      injection hr with q1 q2
      rw [← q1] at hk
      injection hk with hk
      exact .inr (by rw [← hk]; exact Nat.le_refl _)
theorem exec_push {o : Oper} {a : Act} {s y : Operand} {st : TypeId} {ad : Addr} {m c : Nat} (ho : o.op = .call { callee := .builtin .append, args := #[s, y], argTypes := #[st, st] }) (hs : a.eval s = v) (hx : a.eval y = .slice (some ad) m c)
    (hr : (Builtin.append_ #[st, st] o.type #[v, .slice (some ad) m c]).run Try.prog W = .ok v' W') : (execOp a.eval o).run Try.prog W = .ok (.value v') W' := by
  simp [execOp, ho, resolve, invoke, builtin, hs, hx, hr, Result.andThen]
theorem build22 (c : Cel) (u : World) : (Instr.buildSlice 22 1 #[(0, .agg (celRow c).toArray)]).run Try.prog u = .ok (.slice (some ⟨u.heap.size, 0, none⟩) 1 1) (u.alloc (.cells (celRow c).toArray 44)) :=
  build1 22 44 1025 _ _ Try.underlying22 Try.sizeOf44 (by omega) zero85 (cel_size c) u
section
variable {o : Oper} {a : Act}
theorem exec_mvR {x : Operand} {v : Value} (ho : o.op = .move x) (hx : a.eval x = v) : (execOp a.eval o).run Try.prog W = .ok (.value v) W := by
  unfold execOp
  simp [ho, hx]
theorem exec_slice44 {y : Operand} {c : Cel} (ho : o.op = .buildSlice 22 1 #[(0, y)]) (hy : a.eval y = .agg (celRow c).toArray) : (execOp a.eval o).run Try.prog W = .ok (.value (.slice (some ⟨W.heap.size, 0, none⟩) 1 1)) (W.alloc (.cells (celRow c).toArray 44)) := by
  have e := build22 c W
  generalize (celRow c).toArray = Z at *
  simp [execOp, ho, hy, e]
theorem exec_build44R {x y : Operand} {p : Int} {f : Nat → Int} (ho : o.op = .build 44 #[(0, x), (1, y)]) (hx : a.eval x = .int .i64 p) (hy : a.eval y = .agg (blk f)) : (execOp a.eval o).run Try.prog W = .ok (.value (.agg (celRow (p, f)).toArray)) W := by
  have e := build85 p f W
  generalize (celRow (p, f)).toArray = Z at *
  generalize blk f = Y at *
  simp [execOp, ho, hx, hy, e]
theorem exec_load44 {x : Operand} {g off : Nat} {c : Cel} (ho : o.op = .load 44 x) (hx : a.eval x = .pointer (some ⟨g, off, none⟩)) (hc : CelAt W g off c) : (execOp a.eval o).run Try.prog W = .ok (.value (.agg (celRow c).toArray)) W := by
  have e := load44 hc
  generalize (celRow c).toArray = Z at *
  unfold execOp
  simp only [ho, hx, e, Sem.run_bind, Result.andThen_ok, Sem.run_pure]
theorem wpList_exec {ops : Array Oper} {rest : List Oper} {Q : Exit → Act → World → Prop} {v : Value} {W' : World} (hgd : o.guard = none) (hr : (execOp a.eval o).run Try.prog W = .ok (.value v) W') (h : wpList Try.prog ops Q rest (a.put o.dst v) W') : wpList Try.prog ops Q (o :: rest) a W := by
  refine wpList_plain hgd fun K' hK' => ?_
  unfold Oper.wp
  rw [hr]
  exact hK' _ _ h
end
/-- A list of blocks with their numbers, made since B. -/
def HL (B : Nat) (W : World) (v : Value) (l : List Cel) : Prop := W.ownsRow B 44 1025 v l.length (celCells l)
theorem HL.img {B : Nat} {l : List Cel} (h : HL B W v l) : ∃ p c, v = .slice p l.length c ∧ ImgAt W p l ∧ l.length ≤ c ∧ (∀ b off, p = some ⟨b, off, none⟩ → B ≤ b ∧ b < W.heap.size ∧ off = 0) := by
  have h' := h
  rcases h.2 with ⟨h1, h2⟩ | ⟨g, cap, cur, h1, hB, hg, hnc, _, hcs, ht⟩
  · exact ⟨none, 0, by rw [h1, h2], fun q => by omega, by omega, fun _ _ q => by cases q⟩
  · have hlt := (Array.getElem?_eq_some_iff.1 hg).1
    subst h1
    refine ⟨some ⟨g, 0, none⟩, cap, rfl, fun _ => ⟨g, 0, rfl, hlt, fun k c hc => ?_⟩, hnc, fun b off q => ?_⟩
    · have q := cel_at h' (K := 0 + k * 1025) (by omega) hc
      exact q
    · injection q with q
      injection q with q1 q2
      exact ⟨by omega, by omega, by omega⟩
theorem celCells_snoc (l : List Cel) (c : Cel) : celCells (l ++ [c]) = celCells l ++ celRow c := by simp [celCells]
theorem HL.nil (B : Nat) (W : World) : HL B W (.slice none 0 0) [] := ⟨rfl, .inl ⟨rfl, rfl⟩⟩
theorem HL.push {B : Nat} {l : List Cel} (h : HL B W v l) (hB : B ≤ W.heap.size) (hl : l.length ≤ 100000000) (c : Cel) (ty : TypeId) :
    ∃ v' W', (Builtin.append_ #[22, 22] ty #[v, .slice (some ⟨W.heap.size, 0, none⟩) 1 1]).run Try.prog (W.alloc (.cells (celRow c).toArray 44)) = .ok v' W' ∧ HL B W' v' (l ++ [c]) ∧ Below B W W' ∧ Fr (fun k => v.ownBlock = some k) W W' ∧ ∀ k, v'.ownBlock = some k → v.ownBlock = some k ∨ W.heap.size ≤ k := by
  obtain ⟨i0, hi0, hz0, hz1, hz2⟩ := info_parts info85
  have hnews : ∀ j u, (celRow c)[j]? = some u → (W.alloc (.cells (celRow c).toArray 44)).cell? ((⟨W.heap.size, 0, none⟩ : Addr).add j) = some u := fun j u hu => by
    rw [Go.WideShapes.add_plain, Nat.zero_add, cell_of_row _ _ j _ 44 _ (heap_alloc_new W _), List.getElem?_toArray]
    exact hu
  obtain ⟨v', W', hr, h2, h3, h4⟩ := append_gen Try.underlying22 hi0 hz0 hz1 hz2 (cel_size (0, nought)) (by omega) (World.ownsRow.alloc h (.cells (celRow c).toArray 44)) (ad := ⟨W.heap.size, 0, none⟩) (m := 1) (c := 1) (news := celRow c) (by omega) (by rw [celRow_len]) hnews (celRow_one c) (by unfold maxLen; omega) (by omega) (by simp only [World.alloc, Array.size_push]; omega) ty
  have hF : Fr (fun k => v.ownBlock = some k) W W' := (Fr.alloc _ W (.cells (celRow c).toArray 44)).trans h3 fun _ _ q => q
  refine ⟨v', W', hr, ?_, hF.below (fun i q => (h.lt i q).1) hB, hF, fun k hk => ?_⟩
  · unfold HL
    rw [celCells_snoc, List.length_append]
    exact h2
  · rcases h4 k hk with q | q
    · exact .inl q
    · exact .inr (by simp only [World.alloc, Array.size_push] at q; omega)
end
end Go.Proofs.Ytbnbbelkddbndaa
/- Whole rows loaded and stored, of any type; blocks with their numbers in rows of their own; no condition. -/
namespace Go.Proofs.Ytbnbbelkddbndaa
open Go.RowKit Go.Maps
section
variable {ops : Array Oper} {rest : List Oper} {Q : Exit → Act → World → Prop} {a : Act} {w : World} {dst : Option Tmp} {x y : Operand} {ty : TypeId} {pos : String} {aft : Array Edge} {gd : Option (Nat × Bool)}
theorem isLoadR (t : TypeId) (h : wpList Try.prog ops Q (⟨dst, .load t x, ty, pos, aft, gd⟩ :: rest) a w) : wpList Try.prog ops Q (⟨dst, .load t x, ty, pos, aft, gd⟩ :: rest) a w := h
theorem isStoreR (t : TypeId) (h : wpList Try.prog ops Q (⟨dst, .store t x y, ty, pos, aft, gd⟩ :: rest) a w) : wpList Try.prog ops Q (⟨dst, .store t x y, ty, pos, aft, gd⟩ :: rest) a w := h
theorem isEqR (t t' : TypeId) {bo : BinOp} (h : wpList Try.prog ops Q (⟨dst, .binOp bo t x y t', ty, pos, aft, gd⟩ :: rest) a w) : wpList Try.prog ops Q (⟨dst, .binOp bo t x y t', ty, pos, aft, gd⟩ :: rest) a w := h
theorem isBuildR (t : TypeId) {ps : Array (Nat × Operand)} (h : wpList Try.prog ops Q (⟨dst, .build t ps, ty, pos, aft, gd⟩ :: rest) a w) : wpList Try.prog ops Q (⟨dst, .build t ps, ty, pos, aft, gd⟩ :: rest) a w := h
end
section
variable {ops : Array Oper} {rest : List Oper} {o : Oper} {a : Act} {w : World} {Q : Exit → Act → World → Prop}
/-- A whole row is loaded, of any type that is a row. -/
theorem wpList_ldR (ty : TypeId) {d : TypeDesc} (hu : Try.prog.underlying ty = some d) (hd : d.isRow = true) (hw : Region.wanted o (yielded ops a.tmps) = true) (x : Operand) (ho : o.op = .load ty x)
    (g : Nat) (hx : a.eval x = .pointer (some ⟨g, 0, none⟩)) (cs : Array Value) (t : TypeId) (fr : Nat × Nat) (hi : (Try.prog.info? ty).map (·.size) = some cs.size) (hg : w.heap[g]? = some (.cells cs t fr))
    (h : wpList Try.prog ops Q rest (a.put o.dst (.agg cs)) w) : wpList Try.prog ops Q (o :: rest) a w := by
  unfold wpList
  rw [if_pos hw]
  refine .inl ?_
  unfold Oper.wp execOp
  simp only [ho, hx, Instr.loadAt, Instr.sureAddr, Sem.run_bind, Sem.run_pure, Result.andThen_ok, run_loadVar_row w g t ty cs fr d hg hu (by cases d <;> first | rfl | cases hd) hi]
  exact h
theorem wpList_stR (ty : TypeId) (hgd : o.guard = none) (x y : Operand) (ho : o.op = .store ty x y)
    (g : Nat) (cs c0 : Array Value) (t : TypeId) (hi : (Try.prog.info? ty).map (·.size) = some cs.size) (hs : c0.size = cs.size) (h1 : cs.all (·.oneCell') = true)
    (hx : a.eval x = .pointer (some ⟨g, 0, none⟩)) (hy : a.eval y = .agg cs) (hg : w.heap[g]? = some (.cells c0 t))
    (h : wpList Try.prog ops Q rest (a.put o.dst undef) (w.setRow g cs)) : wpList Try.prog ops Q (o :: rest) a w :=
  wpList_plain hgd fun _ hK => by
    unfold Oper.wp execOp
    simp only [ho, hx, hy, Instr.storeAt, Instr.sureAddr, Sem.run_bind, Sem.run_pure, Result.andThen_ok, run_storeVar_row w g t ty c0 cs hg hi hs h1]
    exact hK _ _ h
theorem wpList_stNew (ty : TypeId) (hgd : o.guard = none) (x y : Operand) (ho : o.op = .store ty x y)
    (g : Nat) (cs c0 : Array Value) (t : TypeId) (hi : (Try.prog.info? ty).map (·.size) = some cs.size) (hs : c0.size = cs.size) (h1 : cs.all (·.oneCell') = true)
    (hx : a.eval x = .pointer (some ⟨g, 0, none⟩)) (hgw : g = w.heap.size) (hy : a.eval y = .agg cs)
    (h : wpList Try.prog ops Q rest (a.put o.dst undef) (w.alloc (.cells cs t))) : wpList Try.prog ops Q (o :: rest) a (w.alloc (.cells c0 t)) := by
  subst hgw
  exact wpList_stR ty hgd x y ho w.heap.size cs c0 t hi hs h1 hx hy (heap_alloc_new _ _) (by rw [World.setRow_alloc_new]; exact h)
end
theorem retR {fn : Func} {p : Tmp} {ty : TypeId} {R : Ending → World → Prop} {a : Act} {w : World} {d : TypeDesc} (hu : Try.prog.underlying ty = some d) (hd : d.isRow = true)
    (h : fn.results = #[.cell p ty]) (g : Nat) (cs : Array Value) (t : TypeId) (hi : (Try.prog.info? ty).map (·.size) = some cs.size)
    (hp : a.tmps.getD p undef = .pointer (some ⟨g, 0, none⟩)) (hg : w.heap[g]? = some (.cells cs t)) (hdf : a.defers = []) (hR : R (.returned (.agg cs)) w) : bodyPost Try.prog fn R .ret a w :=
  bodyPost_ret (results_cell_row h a.tmps w g t cs (0, 0) _ hp hg hu (by cases d <;> first | rfl | cases hd) hi) hdf hR

theorem row_cel {W : World} {g : Nat} {l : List Cel} (h : W.heap[g]? = some (.cells (celCells l).toArray 44)) {k : Nat} {c : Cel} (hc : l[k]? = some c) : CelAt W g (k * 1025) c := by
  obtain ⟨K, hK⟩ : ∃ K, K = k * 1025 := ⟨_, rfl⟩
  have key : ∀ j, j < 1025 → ∀ v, (celRow c)[j]? = some v → W.cell? ⟨g, K + j, none⟩ = some v := fun j hj v hv => by
    have q0 := (fm_get celRow 1025 celRow_len l k j c hc hj).trans hv
    rw [← hK] at q0
    rw [cell_of_row W g _ _ 44 _ h, List.getElem?_toArray]
    exact q0
  rw [← hK]
  clear hK hc h
  refine ⟨key 0 (by omega) _ rfl, fun j v hv => ?_⟩
  have hj : j < 1024 := by have := (List.getElem?_eq_some_iff.1 hv).1; rwa [blk_list_len] at this
  rw [Nat.add_assoc, Nat.add_comm 1 j]
  refine key (j + 1) (by omega) v ?_
  rw [show (celRow c)[j + 1]? = (blk c.2).toList[j]? by simp only [celRow, List.getElem?_cons_succ]]
  exact hv
theorem one_cel {W : World} {g : Nat} {c : Cel} (h : W.heap[g]? = some (.cells (celRow c).toArray 44)) : CelAt W g 0 c := by
  have h' : W.heap[g]? = some (.cells (celCells [c]).toArray 44) := by rw [celCells_one]; exact h
  have := row_cel h' (k := 0) (c := c) rfl
  rwa [Nat.zero_mul] at this
theorem cel_all (c : Cel) : (celRow c).toArray.all (·.oneCell') = true := by
  rw [Array.all_eq_true_iff_forall_mem]
  intro v hv
  exact celRow_one c v (by simpa using hv)
section
variable {o : Oper} {a : Act} {W : World}
theorem wpList_execw {ops : Array Oper} {rest : List Oper} {Q : Exit → Act → World → Prop} {v : Value} {W' : World} (hw : Region.wanted o (yielded ops a.tmps) = true) (hr : (execOp a.eval o).run Try.prog W = .ok (.value v) W') (h : wpList Try.prog ops Q rest (a.put o.dst v) W') : wpList Try.prog ops Q (o :: rest) a W :=
  BigFrame.wpList_want hw fun _ hK => by
    unfold Oper.wp
    rw [hr]
    exact hK _ _ h
theorem eqgB (x y : Operand) (F G : Array Value) (u : World) : (eqGuard .eql 40 x y (.agg F) (.agg G)).run Try.prog u = .ok () u := by
  unfold eqGuard
  simp
theorem exec_eqBZ {x y : Operand} {f g : Nat → Int} {r : Bool} (ho : o.op = .binOp .eql 40 x y 40) (hx : a.eval x = .agg (blk f)) (hy : a.eval y = .agg (blk g)) (hr : sameB f g = r) : (execOp a.eval o).run Try.prog W = .ok (.value (.bool r)) W := by
  have e : (binOp .eql 40 (.agg (blk f)) (.agg (blk g))).run Try.prog W = .ok (.bool r) W := by
    have h := eq25 f g W
    rw [hr] at h
    generalize blk f = F at *
    generalize blk g = G at *
    simp only [binOp, Op.equal, Op.maxDepth, Sem.run_bind, h, Result.andThen_ok, Sem.run_pure]
  generalize blk f = F at *
  generalize blk g = G at *
  unfold execOp
  simp only [ho, hx, hy, Sem.run_bind, eqgB, e, Result.andThen_ok, Sem.run_pure]
theorem exec_zeroB (ho : o.op = .build 40 #[]) : (execOp a.eval o).run Try.prog W = .ok (.value (.agg (blk nought))) W := by
  have z := zero25
  generalize blk nought = Z at *
  simp [execOp, ho, Instr.build, z, run_underlying Try.underlying40, Instr.fill, Value.cells]
end
end Go.Proofs.Ytbnbbelkddbndaa
