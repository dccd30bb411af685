/- The document's After: the image with the writes that are made, one behind the other; lists of at most a million. -/
import Derived.Test.YtbnbbelkddbndaaRMayP
import Derived.Test.YtbnbbelkddbndaaRPlace
import Derived.Test.YtbnbbelkddbndaaRWith
namespace Go.Proofs.Ytbnbbelkddbndaa
open Go.RowKit Go.Maps
/-- Is a write made, as the document tells it? -/
def refMade (keep : List Bool) (op : List Int) (i : Nat) (r : Rec) : Bool := decide (r.kind = 1) && (decide (placeI op i 0 < 0) || keep.getD (placeI op i 0).toNat false)
/-- The document's image behind i ops. -/
def refK (l : List Cel) (ops : List Rec) (keep : List Bool) (op : List Int) : Nat → List Cel
  | 0 => l
  | i + 1 => match ops[i]? with
    | some r => if refMade keep op i r then laidL (refK l ops keep op i) r.pos r.dat else refK l ops keep op i
    | none => refK l ops keep op i
theorem laidGo_len (k : Int) (b : Nat → Int) : ∀ (l : List Cel) (d : Bool), (laidGo k b d l).length ≤ l.length + (if d then 0 else 1)
  | [], d => by cases d <;> simp [laidGo]
  | (i, x) :: s, d => by
    have ih := laidGo_len k b s (d || decide (k ≤ i))
    rw [laidGo_cons, List.length_append, List.length_append]
    cases d
    · by_cases h : k ≤ i
      · simp only [Bool.false_or, h, decide_true, Bool.not_false, Bool.true_and, if_true, List.length_cons, List.length_nil] at ih ⊢
        split <;> simp <;> omega
      · simp only [Bool.false_or, h, decide_false, Bool.not_false, Bool.true_and, Bool.false_eq_true, if_false, List.length_nil, List.length_cons] at ih ⊢
        split <;> simp <;> omega
    · simp only [Bool.true_or, Bool.not_true, Bool.false_and, Bool.false_eq_true, if_false, if_true, List.length_nil, List.length_cons] at ih ⊢
      split <;> simp <;> omega
theorem laidL_len (l : List Cel) (k : Int) (b : Nat → Int) : (laidL l k b).length ≤ l.length + 1 := by
  have := laidGo_len k b l (blankB b)
  unfold laidL
  split at this <;> omega
theorem ImgAt.box {W W' : World} {g : Nat} {p : Option Addr} {m : List Cel} {cs : Array Value} (h : ImgAt W p m) (hc : W.heap[g]? = some (.cells cs 24)) (hs : cs.size = 2) (hf : Fr (fun i => i = g) W W') : ImgAt W' p m := fun h0 => by
  obtain ⟨b1, o1, h1, h2, h3⟩ := h h0
  refine ⟨b1, o1, h1, Nat.lt_of_lt_of_le h2 hf.size, ?_⟩
  have hne : b1 ≠ g := fun q => by
    subst q
    have e1 : m[0]? = some (m[0]'h0) := List.getElem?_eq_getElem _
    obtain ⟨_, y2⟩ := h3 0 _ e1
    have hj : (blk (m[0]'h0).2).toList[1]? = some (.int .u8 ((m[0]'h0).2 1)) := by rw [Array.getElem?_toList]; exact blk_get _ 1 (by omega)
    have y3 := y2 1 _ hj
    rw [cell_of_row W b1 _ cs 24 _ hc, Array.getElem?_eq_none (by omega)] at y3
    cases y3
  intro k c hk
  obtain ⟨y1, y2⟩ := h3 k c hk
  have hblk := hf.block b1 h2 hne
  exact ⟨(World.cell?_of_block (a := ⟨b1, o1 + k * 1025, none⟩) hblk).trans y1, fun i v hv => (World.cell?_of_block (a := ⟨b1, o1 + k * 1025 + 1 + i, none⟩) hblk).trans (y2 i v hv)⟩
theorem refK_at {l : List Cel} {ops : List Rec} {keep : List Bool} {op : List Int} {i : Nat} {r : Rec} (h : ops[i]? = some r) : refK l ops keep op (i + 1) = if refMade keep op i r then laidL (refK l ops keep op i) r.pos r.dat else refK l ops keep op i := by
  show (match ops[i]? with
    | some r => if refMade keep op i r then laidL (refK l ops keep op i) r.pos r.dat else refK l ops keep op i
    | none => refK l ops keep op i) = _
  rw [h]
theorem refK_len (l : List Cel) (ops : List Rec) (keep : List Bool) (op : List Int) : ∀ i, (refK l ops keep op i).length ≤ l.length + i
  | 0 => Nat.le_refl _
  | i + 1 => by
    have h1 := refK_len l ops keep op i
    show (match ops[i]? with
      | some r => if refMade keep op i r then laidL (refK l ops keep op i) r.pos r.dat else refK l ops keep op i
      | none => refK l ops keep op i).length ≤ _
    split
    · split
      · have := laidL_len (refK l ops keep op i) (by assumption : Rec).pos (by assumption : Rec).dat
        omega
      · omega
    · omega
theorem cellLtA {w : World} {b off : Nat} {v : Value} (h : w.cell? ⟨b, off, none⟩ = some v) : b < w.heap.size := by
  by_cases q : b < w.heap.size
  · exact q
  · unfold World.cell? at h
    simp only [Array.getElem?_eq_none (show w.heap.size ≤ b by omega)] at h
    simp at h
theorem exec_ldBlk {o : Oper} {a : Act} {W : World} {x : Operand} {g off : Nat} {f : Nat → Int} (ho : o.op = .load 40 x) (hx : a.eval x = .pointer (some ⟨g, off, none⟩)) (h : BlkAt W g off f) : (execOp a.eval o).run Try.prog W = .ok (.value (.agg (blk f))) W := by
  have e : (Instr.loadAt 40 (.pointer (some ⟨g, off, none⟩))).run Try.prog W = .ok (.agg (blk f)) W := by
    have := run_loadAt_mid (P := Try.prog) W g off 40 (blk f).toList _ (fun j v hv => h j v hv) Try.underlying40 rfl (by rw [Array.length_toList, blk_size]; exact size25)
    simpa using this
  exact exec_ldAt ho hx e
set_option maxRecDepth 20000 in
set_option maxHeartbeats 8000000 in
theorem refAfter_ok (n : Int) (l : List Cel) (p : Option Addr) (cap : Nat) (ops : List Rec) (po : Option Addr) (co k : Nat) (keep : List Bool) (ka : Option Addr) (kcap : Nat) (w : World)
    (hl : l.length ≤ 400000) (h : ImgAt w p l) (hlo : ops.length ≤ 400000) (ho : OpsAt w po ops) (hkl : keep.length ≤ 1000000) (hK : BoolsAt w (.slice ka keep.length kcap) keep) (hm : pmayB n l ops k = true) :
    Calls Try.prog 40 #[.agg #[.int .i64 n, .slice p l.length cap], .slice po ops.length co, .int .i64 k, .slice ka keep.length kcap] w fun e w' =>
      ∃ p' c', e = .returned (.tuple #[.agg #[.int .i64 n, .slice p' (refK l ops keep (rpUpto ops k) k).length c'], .int .i64 0]) ∧ ImgAt w' p' (refK l ops keep (rpUpto ops k) k) ∧ Below w.heap.size w w' := by
  obtain ⟨hmm, hk0, hk1, hops⟩ := pmay_parts hm
  have HI := Hid.mk' h
  have HOp := Hid.mk' ho
  have HKp := Hid.mk' hK
  have HMy := Hid.mk' (fun (W : World) (hW : Below w.heap.size w W) => refMay_any n l.length p cap ops po co W (by omega) (ho.later hW))
  rw [List.all_eq_true.2 hops] at HMy
  have HWh := Hid.mk' (fun (W : World) (hW : Below w.heap.size w W) => rWhole_any n l p cap W (by omega) (h.later hW))
  rw [show wholeE n l = 0 by unfold wholeE; rw [hmm]; rfl] at HWh
  have HPd := Hid.mk' (fun (W : World) (hW : Below w.heap.size w W) => refPending_any ops po co (k : Int) W (by omega) (ho.later hW))
  rw [show upTo ops.length (k : Int) = k by unfold upTo; omega] at HPd
  obtain ⟨N, hN⟩ : ∃ N, l.length = N := ⟨_, rfl⟩
  obtain ⟨M, hM⟩ : ∃ M, ops.length = M := ⟨_, rfl⟩
  obtain ⟨KL, hKL⟩ : ∃ KL, keep.length = KL := ⟨_, rfl⟩
  have HN := Hid.mk' hN
  have HM := Hid.mk' hM
  have HKL := Hid.mk' hKL
  rw [hN] at hl HMy HWh ⊢
  rw [hM] at hlo HMy HPd hk1 ⊢
  rw [hKL] at hkl ⊢
  clear hN hM hKL h ho hK hm hmm hops
  have HB0 := Hid.mk' (below_next (below_new w (.cells #[.int .i64 n, .slice p N cap] 24)) (below_new (w.alloc (.cells #[.int .i64 n, .slice p N cap] 24)) (.cells #[.int .i64 0, .slice none 0 0] 24)))
  have HG4 := Hid.mk' (heap_kept (heap_alloc_new w (.cells #[.int .i64 n, .slice p N cap] 24)) (below_new (w.alloc (.cells #[.int .i64 n, .slice p N cap] 24)) (.cells #[.int .i64 0, .slice none 0 0] 24)))
  have hG8 := heap_alloc_new (w.alloc (.cells #[.int .i64 n, .slice p N cap] 24)) (.cells #[.int .i64 0, .slice none 0 0] 24)
  rw [show (w.alloc (.cells #[.int .i64 n, .slice p N cap] 24)).heap.size = w.heap.size + 1 by simp] at hG8
  have HG8 := Hid.mk' hG8
  clear hG8
  go_enter Try.func40, Try.ntmps40
  go_wp2_with (go_at_call 74; fail)
  refine Calls.mono (HMy.out _ HB0.out) ?_
  rintro e W1 ⟨rfl, hb1⟩
  have HB1 := Hid.mk' (below_next HB0.out hb1)
  have HG41 := Hid.mk' (heap_kept HG4.out hb1)
  have HG81 := Hid.mk' (heap_kept HG8.out hb1)
  clear hb1 HB0 HG4 HG8 HMy
  have a0 : W1.cell? ⟨w.heap.size, 0, none⟩ = some (.int .i64 n) := Joins.cell_of_block HG41.out 0
  have a1 : W1.cell? ⟨w.heap.size, 1, none⟩ = some (.slice p N cap) := Joins.cell_of_block HG41.out 1
  go_wp2_with (go_at_call 42; fail)
  refine Calls.mono (HWh.out _ HB1.out) ?_
  rintro e W2 ⟨rfl, hb2⟩
  have HB2 := Hid.mk' (below_next HB1.out hb2)
  have HG42 := Hid.mk' (heap_kept HG41.out hb2)
  have HG82 := Hid.mk' (heap_kept HG81.out hb2)
  clear hb2 HB1 HG41 HG81 HWh a0 a1
  go_wp2_with (go_at_call 45; fail)
  refine Calls.mono (HPd.out _ HB2.out) ?_
  rintro e W3 ⟨v, rfl, hown, hb3⟩
  obtain ⟨pq, cq, rfl, hInt, _, _⟩ := ints_of_row hown
  have HInt := Hid.mk' hInt
  have HB3 := Hid.mk' (below_next HB2.out hb3)
  have HG43 := Hid.mk' (heap_kept HG42.out hb3)
  have HG83 := Hid.mk' (heap_kept HG82.out hb3)
  have hopl := rpUpto_len ops k
  clear hb3 HB2 HG42 HG82 HPd hown hInt
  obtain ⟨op, hop⟩ : ∃ op, rpUpto ops k = op := ⟨_, rfl⟩
  rw [hop] at HInt hopl ⊢
  have HOpE := Hid.mk' hop
  clear hop
  have a0 : W3.cell? ⟨w.heap.size, 0, none⟩ = some (.int .i64 n) := Joins.cell_of_block HG43.out 0
  have HA4 := Hid.mk' (heap_alloc_new W3 (.cells #[.int .i64 n, .slice none 0 0] 24))
  have HB4 := Hid.mk' (below_new W3 (.cells #[.int .i64 n, .slice none 0 0] 24))
  have HH4 := Hid.mk' (HL.nil (W3.heap.size + 1) (W3.alloc (.cells #[.int .i64 n, .slice none 0 0] 24)))
  go_wp2
  go_loopw [13] (fun s13 wx => ∃ (j : Nat) (pk : Option Addr) (ck : Nat), j ≤ N ∧ s13 = .int .i64 j ∧ Hid (HL (W3.heap.size + 1) wx (.slice pk j ck) (l.take j) ∧ Below W3.heap.size W3 wx ∧ wx.heap[W3.heap.size]? = some (.cells #[.int .i64 n, .slice pk j ck] 24))) (fun s13 _ => N - (intOf s13).toNat)
  case atStart => exact ⟨0, none, 0, by omega, rfl, HH4.out, HB4.out, HA4.out⟩
  case round =>
    obtain ⟨j, pk, ck, hj, rfl, HS⟩ := hrel
    clear HH4 HB4 HA4 a0
    have a1 : wr.cell? ⟨w.heap.size, 1, none⟩ = some (.slice p N cap) := Joins.cell_of_block (heap_kept HG43.out HS.out.2.1) 1
    by_cases hj2 : (j : Int) < N
    · have hlN := HN.out
      have hc : l[j]? = some (l[j]'(by omega)) := List.getElem?_eq_getElem _
      obtain ⟨b0, off, rfl, hlt, hC⟩ := HI.out (by omega)
      have htk : l.take (j + 1) = l.take j ++ [l[j]'(by omega)] := by rw [List.take_add_one, hc]; rfl
      generalize l[j]'(by omega) = x at hc htk
      have HTk := Hid.mk' htk
      have HRd := Hid.mk' (fun (u : World) (hu : Below W3.heap.size W3 u) => And.intro (show u.cell? ⟨w.heap.size, 1, none⟩ = some (.slice (some ⟨b0, off, none⟩) N cap) from Joins.cell_of_block (heap_kept HG43.out hu) 1) (show CelAt u b0 (off + j * 1025) x from (hC.later (below_next HB3.out hu) hlt) j x hc))
      obtain ⟨hL, hB, hG⟩ := HS.out
      have HL1 := Hid.mk' hL
      have HB1 := Hid.mk' hB.drew
      have HG1 := Hid.mk' hG
      have HSz := Hid.mk' (show W3.heap.size + 1 ≤ wr.heap.size from (Array.getElem?_eq_some_iff.1 hG).1)
      have HBq := Hid.mk' (show wr.cell? ⟨W3.heap.size, 1, none⟩ = some (.slice pk j ck) from Joins.cell_of_block hG 1)
      obtain ⟨y, f⟩ := x
      clear hL hB hG HS hc htk hC
      go_wp2
      refine wp_region_ph (A := fun u => Below W3.heap.size W3 u) (B := fun u => u.cell? ⟨W3.heap.size, 1, none⟩ = some (.slice pk j ck)) 8 [(0, 0), (1, 1), (2, 0), (3, 0), (4, 0), (5, 0), (6, 0), (7, 2), (8, 2), (9, 0), (10, 2)] (by kernel_rfl) rfl (by kernel_rfl) (fun d _ _ _ _ h => by cases d <;> exact h) HB1.out HBq.out ?_
      simp only [inOrdC, List.getElem?_cons_zero, List.getElem?_cons_succ]
      refine wpPh_yield (v := .pointer (some ⟨W3.heap.size, 1, none⟩)) rfl (fun u hu => by go_simp) ?_
      simp only [Act.put, List.setIfInBounds_toArray, List.set_cons_succ, List.set_cons_zero]
      refine wpPh_read (v := .slice pk j ck) rfl (fun u _ hB => by have hB' : u.cell? ⟨W3.heap.size, 1, none⟩ = some (.slice pk j ck) := hB; go_simp) ?_
      simp only [Act.put, List.setIfInBounds_toArray, List.set_cons_succ, List.set_cons_zero]
      refine wpPh_yield (v := .pointer (some ⟨w.heap.size, 1, none⟩)) rfl (fun u hu => by go_simp) ?_
      simp only [Act.put, List.setIfInBounds_toArray, List.set_cons_succ, List.set_cons_zero]
      refine wpPh_yield (v := .slice (some ⟨b0, off, none⟩) N cap) rfl (fun u hu => by have := (HRd.out u hu).1; go_simp) ?_
      simp only [Act.put, List.setIfInBounds_toArray, List.set_cons_succ, List.set_cons_zero]
      refine wpPh_yield (v := .int .i64 (j : Int)) rfl (fun u _ => exec_mvR rfl rfl) ?_
      simp only [Act.put, List.setIfInBounds_toArray, List.set_cons_succ, List.set_cons_zero]
      refine wpPh_yield (v := .pointer (some ⟨b0, off + j * 1025, none⟩)) rfl (fun u hu => by go_simp) ?_
      simp only [Act.put, List.setIfInBounds_toArray, List.set_cons_succ, List.set_cons_zero]
      refine wpPh_yield (v := .agg (celRow (y, f)).toArray) rfl (fun u hu => exec_load44 (c := (y, f)) rfl rfl (HRd.out u hu).2) ?_
      simp only [Act.put, List.setIfInBounds_toArray, List.set_cons_succ, List.set_cons_zero]
      obtain ⟨v', W4, hr, hown', hb4, _⟩ := (show HL (W3.heap.size + 1) wr.drew (.slice pk j ck) (l.take j) from HL1.out).push HSz.out (by rw [List.length_take]; omega) (y, f) 22
      rw [← HTk.out] at hown'
      obtain ⟨p', c', hv', _⟩ := hown'.img
      rw [show (l.take (j + 1)).length = j + 1 by rw [List.length_take]; omega] at hv'
      subst hv'
      have hB4 : Below W3.heap.size W3 W4 := HB1.out.trans (hb4.mono (by omega))
      have hG4 : W4.heap[W3.heap.size]? = some (.cells #[.int .i64 n, .slice pk j ck] 24) := (hb4.block _ (by omega)).trans HG1.out
      have hBA := below_next HB1.out (below_new wr.drew (.cells (celRow (y, f)).toArray 44))
      have hGA := heap_kept (show wr.drew.heap[W3.heap.size]? = some (.cells #[.int .i64 n, .slice pk j ck] 24) from HG1.out) (below_new wr.drew (.cells (celRow (y, f)).toArray 44))
      refine wpPh_make (v := .slice (some ⟨wr.drew.heap.size, 0, none⟩) 1 1) (w' := wr.drew.alloc (.cells (celRow (y, f)).toArray 44)) rfl (exec_slice44 rfl rfl) ⟨hBA, fun _ => Joins.cell_of_block hGA 1⟩ ?_
      simp only [Act.put, List.setIfInBounds_toArray, List.set_cons_succ, List.set_cons_zero]
      refine wpPh_make (v := .slice p' (j + 1) c') (w' := W4) rfl (exec_push rfl rfl rfl hr) ⟨hB4, fun q => by cases q⟩ ?_
      simp only [Act.put, List.setIfInBounds_toArray, List.set_cons_succ, List.set_cons_zero]
      refine wpPh_yield (v := .pointer (some ⟨W3.heap.size, 1, none⟩)) rfl (fun u hu => by go_simp) ?_
      simp only [Act.put, List.setIfInBounds_toArray, List.set_cons_succ, List.set_cons_zero]
      have c51 : W4.cell? ⟨W3.heap.size, 1, none⟩ = some (.slice pk j ck) := Joins.cell_of_block hG4 1
      have f51 : W4.frozen? ⟨W3.heap.size, 1, none⟩ = false := Joins.unfrozen_of_block hG4 1
      have h54 : (W4.setCell ⟨W3.heap.size, 1, none⟩ (.slice p' (j + 1) c')).heap[W3.heap.size]? = some (.cells #[.int .i64 n, .slice p' (j + 1) c'] 24) := heap_setCell_same W4 W3.heap.size 1 _ 24 _ hG4
      have hB5 : Below W3.heap.size W3 (W4.setCell ⟨W3.heap.size, 1, none⟩ (.slice p' (j + 1) c')) := hB4.setCell (Nat.le_refl _) _
      have hF5 : Fr (fun i => i = W3.heap.size) W4 (W4.setCell ⟨W3.heap.size, 1, none⟩ (.slice p' (j + 1) c')) := Fr.setCell W4 _ _ _
      have hL5 : HL (W3.heap.size + 1) (W4.setCell ⟨W3.heap.size, 1, none⟩ (.slice p' (j + 1) c')) (.slice p' (j + 1) c') (l.take (j + 1)) := by
        refine ⟨hown'.1, ?_⟩
        rcases hown'.2 with h | ⟨g, cp, cur, h1, h2, h3, h4⟩
        · exact .inl h
        · exact .inr ⟨g, cp, cur, h1, h2, (hF5.block g (Array.getElem?_eq_some_iff.1 h3).1 (by omega)).trans h3, h4⟩
      refine wpPh_do (w' := W4.setCell ⟨W3.heap.size, 1, none⟩ (.slice p' (j + 1) c')) rfl (by go_simp) ⟨hB5, fun q => by cases q⟩ ?_
      have HNx := Hid.mk' (And.intro hL5 (And.intro hB5 h54))
      clear hL5 hB5 h54 hF5 c51 f51 hG4 hB4 hBA hGA hr hown' hb4 HB1 HL1 HG1 HBq HRd
      generalize W4.setCell ⟨W3.heap.size, 1, none⟩ (.slice p' (j + 1) c') = W5 at HNx ⊢
      simp only [wpPh]
      clear a1
      go_wp2
      exact ⟨⟨j + 1, p', c', by omega, by go_num, HNx.out⟩, by simp [intOf]; omega⟩
    · obtain rfl : j = N := by omega
      have htl : l.take j = l := List.take_of_length_le (by have := HN.out; omega)
      obtain ⟨hL, hB, hG⟩ := HS.out
      rw [htl] at hL
      obtain ⟨p2, c2, hv, hi, _, _⟩ := hL.img
      injection hv with e1 e2 e3
      subst e1
      have HI0 := Hid.mk' (show ImgAt wr pk (refK l ops keep op 0) from hi)
      have HB5 := Hid.mk' hB
      have HG5 := Hid.mk' (show wr.heap[W3.heap.size]? = some (.cells #[.int .i64 n, .slice pk (refK l ops keep op 0).length ck] 24) by rw [show (refK l ops keep op 0).length = j from HN.out]; exact hG)
      clear hL hB hG hi e2 e3 htl HS hj2 hj
      go_wp2
      clear a1
      go_loopw [14] (fun s14 wx => ∃ (i : Nat) (pk : Option Addr) (ck : Nat), i ≤ k ∧ s14 = .int .i64 i ∧ Hid (ImgAt wx pk (refK l ops keep op i) ∧ Below W3.heap.size W3 wx ∧ wx.heap[W3.heap.size]? = some (.cells #[.int .i64 n, .slice pk (refK l ops keep op i).length ck] 24))) (fun s14 _ => k - (intOf s14).toNat)
      case atStart => exact ⟨0, pk, ck, by omega, rfl, HI0.out, HB5.out, HG5.out⟩
      case round =>
        obtain ⟨i, pk, ck, hi, rfl, HS⟩ := hrel
        clear HI0 HB5 HG5
        by_cases hi2 : (i : Int) < k
        · have hMM := HM.out
          have hiM : (i : Int) < M := by omega
          have hc : ops[i]? = some (ops[i]'(by omega)) := List.getElem?_eq_getElem _
          obtain ⟨bo, oo, rfl, hlt, hC⟩ := HOp.out (by omega)
          generalize ops[i]'(by omega) = r at hc
          have hnx := refK_at (l := l) (keep := keep) (op := op) hc
          have HPl := Hid.mk' (place_any op (i : Int) pq cq wr (by omega) (HInt.out.later HS.out.2.1))
          have HRd := Hid.mk' (fun (u : World) (hu : Below W3.heap.size W3 u) => (hC.later (below_next HB3.out hu) hlt) i r hc)
          have HLen := Hid.mk' (show (refK l ops keep op i).length ≤ 400000 + i by have := refK_len l ops keep op i; have := HN.out; omega)
          clear hC hc
          unfold refMade at hnx
          generalize placeI op (i : Int) 0 = pl at *
          go_wp2_with (go_at_call 75; fail)
          refine Calls.mono HPl.out ?_
          rintro e X1 ⟨rfl, hbX⟩
          have HBX := Hid.mk' (below_next HS.out.2.1 hbX)
          have HIX := Hid.mk' (HS.out.1.later hbX)
          have HGX := Hid.mk' (heap_kept HS.out.2.2 hbX)
          have q1 : X1.cell? ⟨bo, oo + i * 1026, none⟩ = some (.int .u8 r.kind) := (HRd.out _ HBX.out).1
          clear hbX HS HPl
          by_cases hkd : r.kind = 1
          · rw [hkd] at q1
            by_cases hp0 : pl < 0
            · have HNx := Hid.mk' (show refK l ops keep op (i + 1) = laidL (refK l ops keep op i) r.pos r.dat by rw [hnx, show decide (r.kind = 1) = true from decide_eq_true hkd, show decide (pl < 0) = true from decide_eq_true hp0]; first | rfl | simp)
              have dp : decide (pl < 0) = true := decide_eq_true hp0
              clear hnx
              have HWi := Hid.mk' (rWith_any n (refK l ops keep op i) pk ck r.pos r.dat X1.drew (by have := HLen.out; omega) (HIX.out.later (Below.refl _ _).drew))
              go_wp2
              refine wp_region_ph (A := fun u => Below W3.heap.size W3 u) (B := fun u => u.heap[W3.heap.size]? = some (.cells #[.int .i64 n, .slice pk (refK l ops keep op i).length ck] 24)) 11 [(0, 1), (1, 0), (2, 0), (3, 0), (4, 0), (5, 0), (6, 0), (7, 0), (8, 0), (9, 0), (10, 0), (11, 2), (12, 2)] (by kernel_rfl) rfl (by kernel_rfl) (fun d _ _ _ _ h => by cases d <;> exact h) HBX.out.drew HGX.out ?_
              simp only [inOrdC, List.getElem?_cons_zero, List.getElem?_cons_succ]
              refine wpPh_read (v := .agg #[.int .i64 n, .slice pk (refK l ops keep op i).length ck]) rfl (fun u _ hB => by have c0 : u.cell? ⟨W3.heap.size, 0, none⟩ = some (.int .i64 n) := Joins.cell_of_block hB 0; have c1 : u.cell? ⟨W3.heap.size, 1, none⟩ = some (.slice pk (refK l ops keep op i).length ck) := Joins.cell_of_block hB 1; go_simp) ?_
              simp only [Act.put, List.setIfInBounds_toArray, List.set_cons_succ, List.set_cons_zero]
              refine wpPh_yield (v := .slice (some ⟨bo, oo, none⟩) M co) rfl (fun u _ => exec_mvR rfl rfl) ?_
              simp only [Act.put, List.setIfInBounds_toArray, List.set_cons_succ, List.set_cons_zero]
              refine wpPh_yield (v := .int .i64 (i : Int)) rfl (fun u _ => exec_mvR rfl rfl) ?_
              simp only [Act.put, List.setIfInBounds_toArray, List.set_cons_succ, List.set_cons_zero]
              refine wpPh_yield (v := .pointer (some ⟨bo, oo + i * 1026, none⟩)) rfl (fun u hu => by go_simp) ?_
              simp only [Act.put, List.setIfInBounds_toArray, List.set_cons_succ, List.set_cons_zero]
              refine wpPh_yield (v := .pointer (some ⟨bo, oo + i * 1026 + 1, none⟩)) rfl (fun u hu => by go_simp) ?_
              simp only [Act.put, List.setIfInBounds_toArray, List.set_cons_succ, List.set_cons_zero]
              refine wpPh_yield (v := .int .i64 r.pos) rfl (fun u hu => by have := (HRd.out u hu).2.1; go_simp) ?_
              simp only [Act.put, List.setIfInBounds_toArray, List.set_cons_succ, List.set_cons_zero]
              refine wpPh_yield (v := .slice (some ⟨bo, oo, none⟩) M co) rfl (fun u _ => exec_mvR rfl rfl) ?_
              simp only [Act.put, List.setIfInBounds_toArray, List.set_cons_succ, List.set_cons_zero]
              refine wpPh_yield (v := .int .i64 (i : Int)) rfl (fun u _ => exec_mvR rfl rfl) ?_
              simp only [Act.put, List.setIfInBounds_toArray, List.set_cons_succ, List.set_cons_zero]
              refine wpPh_yield (v := .pointer (some ⟨bo, oo + i * 1026, none⟩)) rfl (fun u hu => by go_simp) ?_
              simp only [Act.put, List.setIfInBounds_toArray, List.set_cons_succ, List.set_cons_zero]
              refine wpPh_yield (v := .pointer (some ⟨bo, oo + i * 1026 + 2, none⟩)) rfl (fun u hu => by go_simp) ?_
              simp only [Act.put, List.setIfInBounds_toArray, List.set_cons_succ, List.set_cons_zero]
              refine wpPh_yield (v := .agg (blk r.dat)) rfl (fun u hu => exec_ldBlk rfl rfl (HRd.out u hu).2.2) ?_
              simp only [Act.put, List.setIfInBounds_toArray, List.set_cons_succ, List.set_cons_zero]
              refine wpPh_call rfl 76 _ _ rfl Try.call76 [.agg #[.int .i64 n, .slice pk (refK l ops keep op i).length ck], .int .i64 r.pos, .agg (blk r.dat)] rfl ?_
              refine Calls.mono HWi.out ?_
              rintro e Y2 ⟨p', c', rfl, hI2, hnw, hbZ⟩
              have hB2 : Below W3.heap.size W3 Y2 := below_next HBX.out.drew hbZ
              have hG2 : Y2.heap[W3.heap.size]? = some (.cells #[.int .i64 n, .slice pk (refK l ops keep op i).length ck] 24) := heap_kept (show X1.drew.heap[W3.heap.size]? = some (.cells #[.int .i64 n, .slice pk (refK l ops keep op i).length ck] 24) from HGX.out) hbZ
              refine ⟨_, rfl, ⟨hB2, fun q => by cases q⟩, ?_⟩
              simp only [Act.put, List.setIfInBounds_toArray, List.set_cons_succ, List.set_cons_zero]
              rw [← HNx.out] at hI2 ⊢
              have d0 : Y2.cell? ⟨W3.heap.size, 0, none⟩ = some (.int .i64 n) := Joins.cell_of_block hG2 0
              have d1 : Y2.cell? ⟨W3.heap.size, 1, none⟩ = some (.slice pk (refK l ops keep op i).length ck) := Joins.cell_of_block hG2 1
              have f0 : Y2.frozen? ⟨W3.heap.size, 0, none⟩ = false := Joins.unfrozen_of_block hG2 0
              have f1 : Y2.frozen? ⟨W3.heap.size, 1, none⟩ = false := Joins.unfrozen_of_block hG2 1
              have hFz : Fr (fun i => i = W3.heap.size) Y2 ((Y2.setCell ⟨W3.heap.size, 0, none⟩ (.int .i64 n)).setCell ⟨W3.heap.size, 1, none⟩ (.slice p' (refK l ops keep op (i + 1)).length c')) := (Fr.setCell Y2 W3.heap.size 0 _).trans (Fr.setCell _ W3.heap.size 1 _) (fun _ _ q => q)
              have hGz : ((Y2.setCell ⟨W3.heap.size, 0, none⟩ (.int .i64 n)).setCell ⟨W3.heap.size, 1, none⟩ (.slice p' (refK l ops keep op (i + 1)).length c')).heap[W3.heap.size]? = some (.cells #[.int .i64 n, .slice p' (refK l ops keep op (i + 1)).length c'] 24) := heap_setCell_same _ _ 1 _ 24 _ (heap_setCell_same Y2 _ 0 _ 24 _ hG2)
              have hBz : Below W3.heap.size W3 ((Y2.setCell ⟨W3.heap.size, 0, none⟩ (.int .i64 n)).setCell ⟨W3.heap.size, 1, none⟩ (.slice p' (refK l ops keep op (i + 1)).length c')) := (hB2.setCell (Nat.le_refl _) _).setCell (Nat.le_refl _) _
              have hIz := hI2.box hG2 rfl hFz
              refine wpPh_do (w' := (Y2.setCell ⟨W3.heap.size, 0, none⟩ (.int .i64 n)).setCell ⟨W3.heap.size, 1, none⟩ (.slice p' (refK l ops keep op (i + 1)).length c')) rfl (by go_simp) ⟨hBz, fun q => by cases q⟩ ?_
              have HNy := Hid.mk' (And.intro hIz (And.intro hBz hGz))
              clear hIz hBz hGz hFz d0 d1 f0 f1 hG2 hB2 hI2 hbZ HWi HRd HGX HIX HBX
              generalize (Y2.setCell ⟨W3.heap.size, 0, none⟩ (.int .i64 n)).setCell ⟨W3.heap.size, 1, none⟩ (.slice p' (refK l ops keep op (i + 1)).length c') = Z9 at HNy ⊢
              simp only [wpPh]
              go_wp2
              exact ⟨⟨i + 1, p', c', by omega, by go_num, HNy.out⟩, by simp [intOf]; omega⟩
            · obtain ⟨q, rfl⟩ : ∃ q : Nat, pl = q := ⟨pl.toNat, by omega⟩
              have dq : decide ((q : Int) < 0) = false := decide_eq_false (by omega)
              by_cases hq : (q : Int) < KL
              · obtain ⟨kp, kc, hv, hbb⟩ := HKp.out
                injection hv with e1 e2 e3
                subst e1
                obtain ⟨kb, ko, rfl, hbc⟩ := hbb (by have := HKL.out; omega)
                have hkg : keep[q]? = some (keep[q]'(by have := HKL.out; omega)) := List.getElem?_eq_getElem _
                have hgd : keep.getD q false = keep[q]'(by have := HKL.out; omega) := by rw [List.getD_eq_getElem?_getD, hkg]; rfl
                generalize keep[q]'(by have := HKL.out; omega) = bq at hkg hgd
                have hcw := hbc q bq hkg
                have q2 : X1.cell? ⟨kb, ko + q, none⟩ = some (.bool bq) := ((below_next HB3.out HBX.out).cell (p := ⟨kb, ko + q, none⟩) (cellLtA hcw)).trans hcw
                clear hbc hcw hkg e2 e3
                have dk : decide ((q : Int) < KL) = true := decide_eq_true hq
                cases bq
                · have HNx := Hid.mk' (show refK l ops keep op (i + 1) = refK l ops keep op i by rw [hnx, show ((q : Int)).toNat = q from Int.toNat_natCast q, hgd, show decide ((q : Int) < 0) = false from decide_eq_false (by omega), show decide (r.kind = 1) = true from decide_eq_true hkd]; first | rfl | simp)
                  clear hnx
                  go_wp2
                  refine ⟨⟨i + 1, pk, ck, by omega, by go_num, ?_⟩, by simp [intOf]; omega⟩
                  rw [HNx.out]
                  exact ⟨HIX.out, HBX.out, HGX.out⟩
                · have HNx := Hid.mk' (show refK l ops keep op (i + 1) = laidL (refK l ops keep op i) r.pos r.dat by rw [hnx, show ((q : Int)).toNat = q from Int.toNat_natCast q, hgd, show decide ((q : Int) < 0) = false from decide_eq_false (by omega), show decide (r.kind = 1) = true from decide_eq_true hkd]; first | rfl | simp)
                  clear hnx
                  have HWi := Hid.mk' (rWith_any n (refK l ops keep op i) pk ck r.pos r.dat X1.drew (by have := HLen.out; omega) (HIX.out.later (Below.refl _ _).drew))
                  go_wp2
                  refine wp_region_ph (A := fun u => Below W3.heap.size W3 u) (B := fun u => u.heap[W3.heap.size]? = some (.cells #[.int .i64 n, .slice pk (refK l ops keep op i).length ck] 24)) 11 [(0, 1), (1, 0), (2, 0), (3, 0), (4, 0), (5, 0), (6, 0), (7, 0), (8, 0), (9, 0), (10, 0), (11, 2), (12, 2)] (by kernel_rfl) rfl (by kernel_rfl) (fun d _ _ _ _ h => by cases d <;> exact h) HBX.out.drew HGX.out ?_
                  simp only [inOrdC, List.getElem?_cons_zero, List.getElem?_cons_succ]
                  refine wpPh_read (v := .agg #[.int .i64 n, .slice pk (refK l ops keep op i).length ck]) rfl (fun u _ hB => by have c0 : u.cell? ⟨W3.heap.size, 0, none⟩ = some (.int .i64 n) := Joins.cell_of_block hB 0; have c1 : u.cell? ⟨W3.heap.size, 1, none⟩ = some (.slice pk (refK l ops keep op i).length ck) := Joins.cell_of_block hB 1; go_simp) ?_
                  simp only [Act.put, List.setIfInBounds_toArray, List.set_cons_succ, List.set_cons_zero]
                  refine wpPh_yield (v := .slice (some ⟨bo, oo, none⟩) M co) rfl (fun u _ => exec_mvR rfl rfl) ?_
                  simp only [Act.put, List.setIfInBounds_toArray, List.set_cons_succ, List.set_cons_zero]
                  refine wpPh_yield (v := .int .i64 (i : Int)) rfl (fun u _ => exec_mvR rfl rfl) ?_
                  simp only [Act.put, List.setIfInBounds_toArray, List.set_cons_succ, List.set_cons_zero]
                  refine wpPh_yield (v := .pointer (some ⟨bo, oo + i * 1026, none⟩)) rfl (fun u hu => by go_simp) ?_
                  simp only [Act.put, List.setIfInBounds_toArray, List.set_cons_succ, List.set_cons_zero]
                  refine wpPh_yield (v := .pointer (some ⟨bo, oo + i * 1026 + 1, none⟩)) rfl (fun u hu => by go_simp) ?_
                  simp only [Act.put, List.setIfInBounds_toArray, List.set_cons_succ, List.set_cons_zero]
                  refine wpPh_yield (v := .int .i64 r.pos) rfl (fun u hu => by have := (HRd.out u hu).2.1; go_simp) ?_
                  simp only [Act.put, List.setIfInBounds_toArray, List.set_cons_succ, List.set_cons_zero]
                  refine wpPh_yield (v := .slice (some ⟨bo, oo, none⟩) M co) rfl (fun u _ => exec_mvR rfl rfl) ?_
                  simp only [Act.put, List.setIfInBounds_toArray, List.set_cons_succ, List.set_cons_zero]
                  refine wpPh_yield (v := .int .i64 (i : Int)) rfl (fun u _ => exec_mvR rfl rfl) ?_
                  simp only [Act.put, List.setIfInBounds_toArray, List.set_cons_succ, List.set_cons_zero]
                  refine wpPh_yield (v := .pointer (some ⟨bo, oo + i * 1026, none⟩)) rfl (fun u hu => by go_simp) ?_
                  simp only [Act.put, List.setIfInBounds_toArray, List.set_cons_succ, List.set_cons_zero]
                  refine wpPh_yield (v := .pointer (some ⟨bo, oo + i * 1026 + 2, none⟩)) rfl (fun u hu => by go_simp) ?_
                  simp only [Act.put, List.setIfInBounds_toArray, List.set_cons_succ, List.set_cons_zero]
                  refine wpPh_yield (v := .agg (blk r.dat)) rfl (fun u hu => exec_ldBlk rfl rfl (HRd.out u hu).2.2) ?_
                  simp only [Act.put, List.setIfInBounds_toArray, List.set_cons_succ, List.set_cons_zero]
                  refine wpPh_call rfl 76 _ _ rfl Try.call76 [.agg #[.int .i64 n, .slice pk (refK l ops keep op i).length ck], .int .i64 r.pos, .agg (blk r.dat)] rfl ?_
                  refine Calls.mono HWi.out ?_
                  rintro e Y2 ⟨p', c', rfl, hI2, hnw, hbZ⟩
                  have hB2 : Below W3.heap.size W3 Y2 := below_next HBX.out.drew hbZ
                  have hG2 : Y2.heap[W3.heap.size]? = some (.cells #[.int .i64 n, .slice pk (refK l ops keep op i).length ck] 24) := heap_kept (show X1.drew.heap[W3.heap.size]? = some (.cells #[.int .i64 n, .slice pk (refK l ops keep op i).length ck] 24) from HGX.out) hbZ
                  refine ⟨_, rfl, ⟨hB2, fun q => by cases q⟩, ?_⟩
                  simp only [Act.put, List.setIfInBounds_toArray, List.set_cons_succ, List.set_cons_zero]
                  rw [← HNx.out] at hI2 ⊢
                  have d0 : Y2.cell? ⟨W3.heap.size, 0, none⟩ = some (.int .i64 n) := Joins.cell_of_block hG2 0
                  have d1 : Y2.cell? ⟨W3.heap.size, 1, none⟩ = some (.slice pk (refK l ops keep op i).length ck) := Joins.cell_of_block hG2 1
                  have f0 : Y2.frozen? ⟨W3.heap.size, 0, none⟩ = false := Joins.unfrozen_of_block hG2 0
                  have f1 : Y2.frozen? ⟨W3.heap.size, 1, none⟩ = false := Joins.unfrozen_of_block hG2 1
                  have hFz : Fr (fun i => i = W3.heap.size) Y2 ((Y2.setCell ⟨W3.heap.size, 0, none⟩ (.int .i64 n)).setCell ⟨W3.heap.size, 1, none⟩ (.slice p' (refK l ops keep op (i + 1)).length c')) := (Fr.setCell Y2 W3.heap.size 0 _).trans (Fr.setCell _ W3.heap.size 1 _) (fun _ _ q => q)
                  have hGz : ((Y2.setCell ⟨W3.heap.size, 0, none⟩ (.int .i64 n)).setCell ⟨W3.heap.size, 1, none⟩ (.slice p' (refK l ops keep op (i + 1)).length c')).heap[W3.heap.size]? = some (.cells #[.int .i64 n, .slice p' (refK l ops keep op (i + 1)).length c'] 24) := heap_setCell_same _ _ 1 _ 24 _ (heap_setCell_same Y2 _ 0 _ 24 _ hG2)
                  have hBz : Below W3.heap.size W3 ((Y2.setCell ⟨W3.heap.size, 0, none⟩ (.int .i64 n)).setCell ⟨W3.heap.size, 1, none⟩ (.slice p' (refK l ops keep op (i + 1)).length c')) := (hB2.setCell (Nat.le_refl _) _).setCell (Nat.le_refl _) _
                  have hIz := hI2.box hG2 rfl hFz
                  refine wpPh_do (w' := (Y2.setCell ⟨W3.heap.size, 0, none⟩ (.int .i64 n)).setCell ⟨W3.heap.size, 1, none⟩ (.slice p' (refK l ops keep op (i + 1)).length c')) rfl (by go_simp) ⟨hBz, fun q => by cases q⟩ ?_
                  have HNy := Hid.mk' (And.intro hIz (And.intro hBz hGz))
                  clear hIz hBz hGz hFz d0 d1 f0 f1 hG2 hB2 hI2 hbZ HWi HRd HGX HIX HBX
                  generalize (Y2.setCell ⟨W3.heap.size, 0, none⟩ (.int .i64 n)).setCell ⟨W3.heap.size, 1, none⟩ (.slice p' (refK l ops keep op (i + 1)).length c') = Z9 at HNy ⊢
                  simp only [wpPh]
                  go_wp2
                  exact ⟨⟨i + 1, p', c', by omega, by go_num, HNy.out⟩, by simp [intOf]; omega⟩
              · have hgd : keep.getD q false = false := by rw [List.getD_eq_getElem?_getD, List.getElem?_eq_none (by have := HKL.out; omega)]; rfl
                have dk : decide ((q : Int) < KL) = false := decide_eq_false hq
                have dk2 : decide (q < KL) = false := decide_eq_false (by omega)
                have HNx := Hid.mk' (show refK l ops keep op (i + 1) = refK l ops keep op i by rw [hnx, show ((q : Int)).toNat = q from Int.toNat_natCast q, hgd, show decide ((q : Int) < 0) = false from decide_eq_false (by omega), show decide (r.kind = 1) = true from decide_eq_true hkd]; first | rfl | simp)
                clear hnx
                go_wp2
                refine ⟨⟨i + 1, pk, ck, by omega, by go_num, ?_⟩, by simp [intOf]; omega⟩
                rw [HNx.out]
                exact ⟨HIX.out, HBX.out, HGX.out⟩
          · have HNx := Hid.mk' (show refK l ops keep op (i + 1) = refK l ops keep op i by rw [hnx, show decide (r.kind = 1) = false from decide_eq_false hkd]; first | rfl | simp)
            have hd : (r.kind == 1) = false := by simpa using hkd
            clear hnx
            go_wp2
            refine ⟨⟨i + 1, pk, ck, by omega, by go_num, ?_⟩, by simp [intOf]; omega⟩
            rw [HNx.out]
            exact ⟨HIX.out, HBX.out, HGX.out⟩
        · obtain rfl : i = k := by omega
          obtain ⟨hIk, hBk, hGk⟩ := HS.out
          have hG8 := heap_kept HG83.out hBk
          have HIk := Hid.mk' hIk
          have HBk := Hid.mk' hBk
          have c0 : wr.cell? ⟨W3.heap.size, 0, none⟩ = some (.int .i64 n) := Joins.cell_of_block hGk 0
          have c1 : wr.cell? ⟨W3.heap.size, 1, none⟩ = some (.slice pk (refK l ops keep op i).length ck) := Joins.cell_of_block hGk 1
          have c80 : wr.cell? ⟨w.heap.size + 1, 0, none⟩ = some (.int .i64 0) := Joins.cell_of_block hG8 0
          have c81 : wr.cell? ⟨w.heap.size + 1, 1, none⟩ = some (.slice none 0 0) := Joins.cell_of_block hG8 1
          have f80 : wr.frozen? ⟨w.heap.size + 1, 0, none⟩ = false := Joins.unfrozen_of_block hG8 0
          have f81 : wr.frozen? ⟨w.heap.size + 1, 1, none⟩ = false := Joins.unfrozen_of_block hG8 1
          have HFz : Hid (Fr (fun i => i = w.heap.size + 1) wr ((wr.setCell ⟨w.heap.size + 1, 0, none⟩ (.int .i64 n)).setCell ⟨w.heap.size + 1, 1, none⟩ (.slice pk (refK l ops keep op i).length ck))) := (Fr.setCell wr (w.heap.size + 1) 0 _).trans (Fr.setCell _ (w.heap.size + 1) 1 _) (fun _ _ q => q)
          have HGz : Hid (((wr.setCell ⟨w.heap.size + 1, 0, none⟩ (.int .i64 n)).setCell ⟨w.heap.size + 1, 1, none⟩ (.slice pk (refK l ops keep op i).length ck)).heap[w.heap.size + 1]? = some (.cells #[.int .i64 n, .slice pk (refK l ops keep op i).length ck] 24)) := heap_setCell_same _ _ 1 _ 24 _ (heap_setCell_same wr _ 0 _ 24 _ hG8)
          have HBz : Hid (Below w.heap.size w ((wr.setCell ⟨w.heap.size + 1, 0, none⟩ (.int .i64 n)).setCell ⟨w.heap.size + 1, 1, none⟩ (.slice pk (refK l ops keep op i).length ck))) := ((below_next HB3.out hBk).setCell (Nat.le_succ _) _).setCell (Nat.le_succ _) _
          have HIz := Hid.mk' (hIk.box hG8 rfl HFz.out)
          clear hIk hBk hGk hG8 HS
          go_wp2
          generalize (wr.setCell ⟨w.heap.size + 1, 0, none⟩ (.int .i64 n)).setCell ⟨w.heap.size + 1, 1, none⟩ (.slice pk (refK l ops keep op i).length ck) = W9 at *
          refine retCT rfl (w.heap.size + 1) _ rfl (load24 _ _ _ HGz.out rfl) rfl ?_
          rw [HOpE.out]
          exact ⟨pk, ⟨ck, rfl⟩, HIz.out, HBz.out⟩
end Go.Proofs.Ytbnbbelkddbndaa
