/- Several texts joined: the log, its cache and its disk, of the program and of the document; no condition. -/
import Derived.Test.YtichojdcoegboaaGreatK11
import Derived.Test.YtichojdcoegboaaGreatK5
import Derived.Test.YtichojdcoegboaaGreatK1
import Derived.Test.YtichojdcoegboaaGreatK2
import Derived.BigRegion
namespace Go.Proofs.YtichojdcoegboaaGreatW
open Go.RowKit Go.Maps
set_option maxRecDepth 20000 in
set_option maxHeartbeats 1000000 in
theorem copyHeld_all (l : List Cel) (p : Option Addr) (cap : Nat) (w : World) (hl : l.length ≤ 100000000) (h : ImgAt w p l) :
  Calls Tryz.prog 30 #[.slice p l.length cap] w fun e w' => ∃ q c, e = .returned (.slice q l.length c) ∧ HL w.heap.size w' (.slice q l.length c) l ∧ Below w.heap.size w w' := by
 have HI : Hid (ImgAt w p l) := h
 obtain ⟨N, hN⟩ : ∃ N, l.length = N := ⟨_, rfl⟩
 have HN := Hid.mk' hN
 rw [hN] at hl ⊢
 clear hN h
 go_enter Tryz.func30, Tryz.ntmps30
 go_wp2
 go_loopw [3, 4] (fun s3 s4 wx => ∃ k : Nat, k ≤ N ∧ s4 = .int .i64 k ∧ Hid (HL w.heap.size wx s3 (l.take k) ∧ Below w.heap.size w wx)) (fun _ s4 _ => N - (intOf s4).toNat)
 case atStart => exact ⟨0, by omega, rfl, HL.nil _ _, Below.refl _ _⟩
 case round =>
  obtain ⟨k, hk, rfl, HH⟩ := hrel
  by_cases hk2 : (k : Int) < N
  ·have hlN := HN.out
   have hc : l[k]? = some (l[k]'(by omega)) := List.getElem?_eq_getElem _
   obtain ⟨b, off, rfl, hlt, hC⟩ := HI.out (by omega)
   generalize l[k]'(by omega) = c at hc
   have q1 : CelAt wr b (off + k * 1025) c := (hC.later HH.out.2 hlt) k c hc
   have htk : (l.take k).length = k := by rw [List.length_take]; omega
   obtain ⟨v', w3, hr, hown', hb3, _⟩ := HH.out.1.push HH.out.2.size (by omega) c 22
   rw [← take_snoc hc] at hown'
   have HO := Hid.mk' hown'
   have HB := Hid.mk' (HH.out.2.trans hb3)
   have HRR := Hid.mk' hr
   have HQ := Hid.mk' q1
   clear hr hown' hb3 q1 hC hc HH htk hlN
   go_wp2_with (first | refine wpList_exec rfl (exec_load85 rfl rfl HQ.out) ?_ | refine wpList_exec rfl (exec_slice85 rfl rfl) ?_ | refine wpList_exec rfl (exec_push rfl rfl rfl HRR.out) ?_)
   exact ⟨⟨k + 1, by omega, by go_num, HO.out, HB.out⟩, by simp [intOf]; omega⟩
  ·obtain rfl : k = N := by omega
   have h1 := HH.out.1
   rw [List.take_of_length_le (by have := HN.out; omega)] at h1
   obtain ⟨q, c, hv, _⟩ := h1.img
   rw [HN.out] at hv
   subst hv
   have HB := Hid.mk' HH.out.2
   have H1 := Hid.mk' h1
   clear HH h1
   go_wp2
   go_ret
   exact ⟨q, c, rfl, H1.out, HB.out⟩
variable {w : World} {B g : Nat} {hv wv ov : Value} {s : RSt}
set_option maxRecDepth 20000 in
set_option maxHeartbeats 4000000 in
theorem rImage_any (h : RDAt w B g hv wv ov s) (hl : s.held.length ≤ 10000000) :
  Calls Tryz.prog 15 #[.pointer (some ⟨g, 0, none⟩)] w fun e w' => ∃ q c, e = .returned (.agg #[.int .i64 s.n, .slice q s.held.length c]) ∧ HL w.heap.size w' (.slice q s.held.length c) s.held ∧ Below w.heap.size w w' := by
 have h1 := h.later (below_new w (.cells #[.int .i64 0, .slice none 0 0] 24))
 have hX := heap_alloc_new w (.cells #[.int .i64 0, .slice none 0 0] 24)
 have HB := Hid.mk' (below_new w (.cells #[.int .i64 0, .slice none 0 0] 24))
 have hlt := h.lt
 obtain ⟨ph, ch, rfl, hI, -, -⟩ := HL.img (show HL B _ hv s.held from h1.held)
 have HC := Hid.mk' (copyHeld_all s.held ph ch (w.alloc (.cells #[.int .i64 0, .slice none 0 0] 24)).drew (by omega) (show ImgAt (w.alloc (.cells #[.int .i64 0, .slice none 0 0] 24)).drew ph s.held from hI))
 have HS := Hid.mk' (fun (u : World) (q : u.heap[g]? = some (.cells (rdRow (.slice ph s.held.length ch) wv ov s) 73)) => (⟨Joins.cell_of_block q 0, Joins.cell_of_block q 1⟩ : u.cell? ⟨g, 0, none⟩ = some (.int .i64 s.n) ∧ u.cell? ⟨g, 1, none⟩ = some (.slice ph s.held.length ch)))
 have HR := Hid.mk' h1.drew.row
 have HX := Hid.mk' (show (w.alloc (.cells #[.int .i64 0, .slice none 0 0] 24)).drew.heap[w.heap.size]? = some (.cells #[.int .i64 0, .slice none 0 0] 24) from hX)
 have hsz : w.heap.size < (w.alloc (.cells #[.int .i64 0, .slice none 0 0] 24)).drew.heap.size := by show w.heap.size < (w.alloc (.cells #[.int .i64 0, .slice none 0 0] 24)).heap.size; simp
 have HBd := Hid.mk' HB.out.drew
 clear h h1 hX hI HB
 obtain ⟨M, hM⟩ : ∃ M, s.held.length = M := ⟨_, rfl⟩
 rw [hM] at HC HS HR ⊢
 clear hM hl
 go_enter Tryz.func15, Tryz.ntmps15
 go_wp2
 refine wp_region_ord (S := fun u => u.cell? ⟨g, 0, none⟩ = some (.int .i64 s.n) ∧ u.cell? ⟨g, 1, none⟩ = some (.slice ph M ch)) [(0, true), (1, true), (2, true), (3, true), (4, true), (5, true), (6, true), (7, true), (8, false), (9, true), (10, false)]
  (by kernel_rfl) rfl (by kernel_rfl) (fun d _ _ _ _ h => by cases d <;> exact h) (HS.out _ HR.out) ?_
 simp only [inOrd, List.getElem?_cons_zero, List.getElem?_cons_succ]
 generalize (w.alloc (.cells #[.int .i64 0, .slice none 0 0] 24)).drew = V at *
 refine wpOrd_move rfl _ rfl ?_
 simp only [Act.put, pA, pB, pC]
 refine wpOrd_yield (v := .pointer (some ⟨g, 0, none⟩)) rfl (fun u _ => by go_simp) ?_
 simp only [Act.put, pA, pB, pC]
 refine wpOrd_yield (v := .pointer (some ⟨g, 0, none⟩)) rfl (fun u _ => by go_simp) ?_
 simp only [Act.put, pA, pB, pC]
 refine wpOrd_yield (v := .int .i64 s.n) rfl (fun u hu => by have hu1 := hu.1; go_simp) ?_
 simp only [Act.put, pA, pB, pC]
 refine wpOrd_move rfl _ rfl ?_
 simp only [Act.put, pA, pB, pC]
 refine wpOrd_yield (v := .pointer (some ⟨g, 0, none⟩)) rfl (fun u _ => by go_simp) ?_
 simp only [Act.put, pA, pB, pC]
 refine wpOrd_yield (v := .pointer (some ⟨g, 1, none⟩)) rfl (fun u _ => by go_simp) ?_
 simp only [Act.put, pA, pB, pC]
 refine wpOrd_yield (v := .slice ph M ch) rfl (fun u hu => by have hu1 := hu.2; go_simp) ?_
 simp only [Act.put, pA, pB, pC]
 refine wpOrd_call rfl 30 _ _ rfl Tryz.call30 [.slice ph M ch] rfl ?_
 refine HC.out.mono ?_
 rintro e W2 ⟨q, c, rfl, ho, hb⟩
 have r2 := heap_kept HR.out hb
 have x2 := heap_kept HX.out hb
 have cB0 : W2.cell? ⟨w.heap.size, 0, none⟩ = some (.int .i64 0) := Joins.cell_of_block x2 0
 have cB1 : W2.cell? ⟨w.heap.size, 1, none⟩ = some (.slice none 0 0) := Joins.cell_of_block x2 1
 have fB0 : W2.frozen? ⟨w.heap.size, 0, none⟩ = false := Joins.unfrozen_of_block x2 0
 have fB1 : W2.frozen? ⟨w.heap.size, 1, none⟩ = false := Joins.unfrozen_of_block x2 1
 have hrow := Hid.mk' (Joins.block_setCell (Joins.block_setCell x2 (i := 0) (.int .i64 s.n)) (i := 1) (.slice q M c))
 have r3 := Hid.mk' ((Below.heap_setCell (W2.setCell ⟨w.heap.size, 0, none⟩ (.int .i64 s.n)) ⟨w.heap.size, 1, none⟩ (.slice q M c) g (by show g ≠ w.heap.size; omega)).trans ((Below.heap_setCell W2 ⟨w.heap.size, 0, none⟩ (.int .i64 s.n) g (by show g ≠ w.heap.size; omega)).trans r2))
 have ho3 := ownsRow_setCell_below (ownsRow_setCell_below (show W2.ownsRow V.heap.size 76 1025 (.slice q M c) s.held.length (celCells s.held) from ho) (a := ⟨w.heap.size, 0, none⟩) hsz (.int .i64 s.n)) (a := ⟨w.heap.size, 1, none⟩) hsz (.slice q M c)
 have HO3 := Hid.mk' (show HL w.heap.size _ (.slice q M c) s.held from own_base ho3 (by omega))
 have HB3 := Hid.mk' (((HBd.out.trans (hb.mono (by omega))).trans ((Fr.setCell W2 w.heap.size 0 (.int .i64 s.n)).below (fun i q => by omega) (by have := hb.size; omega))).trans ((Fr.setCell (W2.setCell ⟨w.heap.size, 0, none⟩ (.int .i64 s.n)) w.heap.size 1 (.slice q M c)).below (fun i q => by omega) (by have := hb.size; simp; omega)))
 refine ⟨_, rfl, HS.out _ r2, ?_⟩
 simp only [Act.put, pA, pB, pC]
 refine wpOrd_yield (v := .agg #[.int .i64 s.n, .slice q M c]) rfl (fun u _ => by go_simp) ?_
 simp only [Act.put, pA, pB, pC]
 refine wpOrd_do (w' := (W2.setCell ⟨w.heap.size, 0, none⟩ (.int .i64 s.n)).setCell ⟨w.heap.size, 1, none⟩ (.slice q M c)) rfl (by go_simp) (HS.out _ r3.out) ?_
 refine wpOrd_nil ?_
 simp only [Act.put]
 clear cB0 cB1 fB0 fB1 ho ho3 hb r2 x2 HC HR HX HBd
 go_wp2
 refine ret32 rfl w.heap.size _ rfl hrow.out rfl rfl ⟨q, c, rfl, HO3.out, HB3.out⟩
end Go.Proofs.YtichojdcoegboaaGreatW
namespace Go.Proofs.YtichojdcoegboaaGreatW
open Go.RowKit Go.Maps
def rNew (n : Int) (l : List Cel) : RSt := ⟨n, l, [], false, 0, false, [], 0, 0, 0, 0⟩
def freshRow (n : Int) (v : Value) : Array Value := #[.int .i64 n, v, .slice none 0 0, .bool false, .int .i64 0, .bool false, .slice none 0 0, .int .i64 0, .int .i64 0, .int .i64 0, .int .i64 0]
theorem rMade_row {W2 : World} {B B' : Nat} {v : Value} {n : Int} {l : List Cel} (ho : HL B' W2 v l) (hB : B ≤ B') (hW : B ≤ W2.heap.size) : RDAt (W2.alloc (.cells (freshRow n v) 73)) B W2.heap.size v (.slice none 0 0) (.slice none 0 0) (rNew n l) :=
 ⟨heap_alloc_new _ _, own_later (own_base (show W2.ownsRow B' 76 1025 v l.length (l.flatMap celRow) from ho) hB) (below_new _ _), World.ownsRow_nil _ _ _ _, World.ownsRow_nil _ _ _ _, (fun b _ q => by cases q), hW⟩
set_option maxRecDepth 20000 in
set_option maxHeartbeats 1000000 in
theorem refLoad_made (n : Int) (l : List Cel) (p : Option Addr) (cap : Nat) (w : World) (hl : l.length ≤ 100000000) (h : ImgAt w p l) (hm : mayB n l = true) :
  Calls Tryz.prog 6 #[.agg #[.int .i64 n, .slice p l.length cap]] w fun e w' => ∃ g v, e = .returned (.tuple #[.pointer (some ⟨g, 0, none⟩), .int .i64 0]) ∧ RDAt w' w.heap.size g v (.slice none 0 0) (.slice none 0 0) (rNew n l) ∧ Below w.heap.size w w' := by
 have hB := below_new w (.cells #[.int .i64 n, .slice p l.length cap] 24)
 have hG := heap_alloc_new w (.cells #[.int .i64 n, .slice p l.length cap] 24)
 have hM := refMay_any n l p cap _ (by omega) (h.later hB)
 rw [hm] at hM
 have HI := Hid.mk' h
 have HL' := Hid.mk' hl
 clear h hl hm
 go_enter Tryz.func6, Tryz.ntmps6
 go_wp2_with (go_at_call 29; fail)
 refine hM.mono ?_
 rintro e W1 ⟨rfl, hb1⟩
 have hG1 := heap_kept hG hb1
 have hB1 := below_next hB hb1
 have HC := Hid.mk' (copyHeld_all l p cap W1.drew HL'.out (HI.out.later hB1.drew))
 clear hM hG hB hb1 HI HL'
 go_wp2
 refine wp_region_ord (S := fun u => u.heap[w.heap.size]? = some (.cells #[.int .i64 n, .slice p l.length cap] 24)) [(0, true), (1, true), (2, true), (3, true), (4, false), (5, true), (6, false), (7, true), (8, true)]
  (by kernel_rfl) rfl (by kernel_rfl) (fun d _ _ _ _ h => by cases d <;> exact h) hG1 ?_
 simp only [inOrd, List.getElem?_cons_zero, List.getElem?_cons_succ]
 refine wpOrd_yield (v := .pointer (some ⟨w.heap.size, 0, none⟩)) rfl (fun u _ => by go_simp) ?_
 simp only [Act.put, pA, pB, pC]
 refine wpOrd_yield (v := .int .i64 n) rfl (fun u hu => by have c0 : u.cell? ⟨w.heap.size, 0, none⟩ = some (.int .i64 n) := Joins.cell_of_block hu 0; go_simp) ?_
 simp only [Act.put, pA, pB, pC]
 refine wpOrd_yield (v := .pointer (some ⟨w.heap.size, 1, none⟩)) rfl (fun u _ => by go_simp) ?_
 simp only [Act.put, pA, pB, pC]
 refine wpOrd_yield (v := .slice p l.length cap) rfl (fun u hu => by have c0 : u.cell? ⟨w.heap.size, 1, none⟩ = some (.slice p l.length cap) := Joins.cell_of_block hu 1; go_simp) ?_
 simp only [Act.put, pA, pB, pC]
 refine wpOrd_call rfl 30 _ _ rfl Tryz.call30 [.slice p l.length cap] rfl ?_
 refine Calls.mono HC.out ?_
 rintro e W2 ⟨q, c, rfl, ho2, hb2⟩
 have hG2 : W2.heap[w.heap.size]? = _ := (hb2.block w.heap.size (Array.getElem?_eq_some_iff.1 hG1).1).trans hG1
 have HB2 := Hid.mk' (below_next hB1.drew hb2)
 have HM := Hid.mk' (rMade_row (n := n) ho2 hB1.drew.size HB2.out.size)
 refine ⟨_, rfl, hG2, ?_⟩
 clear HC hb2 hB1 ho2
 simp only [Act.put, pA, pB, pC]
 refine wpOrd_yield (v := .agg (freshRow n (.slice q l.length c))) rfl (fun u _ => by unfold freshRow; go_simp) ?_
 simp only [Act.put, pA, pB, pC]
 refine wpOrd_run (v := .pointer (some ⟨W2.heap.size, 0, none⟩)) (w' := W2.alloc (.cells (freshRow n (.slice q l.length c)) 73)) rfl (by unfold freshRow; go_simp) (heap_kept hG2 (below_new _ _)) ?_
 simp only [Act.put, pA, pB, pC]
 refine wpOrd_yield (v := .pointer (some ⟨W2.heap.size, 0, none⟩)) rfl (fun u _ => by go_simp) ?_
 simp only [Act.put, pA, pB, pC]
 refine wpOrd_yield (v := .int .i64 0) rfl (fun u _ => by go_simp) ?_
 simp only [Act.put, pA, pB, pC]
 refine wpOrd_nil ?_
 have HB3 := Hid.mk' (below_next HB2.out (below_new W2 (.cells (freshRow n (.slice q l.length c)) 73)))
 generalize W2.alloc (.cells (freshRow n (.slice q l.length c)) 73) = W3 at HB3 HM ⊢
 go_wp2
 go_ret2
 exact ⟨_, _, rfl, HM.out, HB3.out⟩
end Go.Proofs.YtichojdcoegboaaGreatW
namespace Go.Proofs.YtichojdcoegboaaGreatW
open Go.RowKit
structure Nd where
 pos : Int
 fast : Bool
 pv : Nat
 nx : Nat
 dat : Nat → Int
def setM (M : Nat → Nd) (g : Nat) (n : Nd) : Nat → Nd := fun k => if k = g then n else M k
def Lnk (M : Nat → Nd) (x y : Nat) : Prop := (M x).nx = y ∧ (M y).pv = x
def seg (R : Nat → Nat → Prop) : Nat → List Nat → Nat → Prop
 | a, [], b => R a b
 | a, x :: t, b => R a x ∧ seg R x t b
theorem seg_append (R : Nat → Nat → Prop) (x b : Nat) (q : List Nat) : ∀ (a : Nat) (p : List Nat), seg R a (p ++ x :: q) b ↔ seg R a p x ∧ seg R x q b
 | a, [] => Iff.rfl
 | a, c :: t => by
  show R a c ∧ seg R c (t ++ x :: q) b ↔ (R a c ∧ seg R c t x) ∧ seg R x q b
  rw [seg_append R x b q c t, and_assoc]
theorem seg_mono {R R' : Nat → Nat → Prop} (b : Nat) : ∀ (a : Nat) (l : List Nat), seg R a l b → (∀ x y, x ∈ a :: l → y ∈ l ++ [b] → R x y → R' x y) → seg R' a l b
 | a, [], h, hm => hm a b (by simp) (by simp) h
 | a, c :: t, h, hm => ⟨hm a c (by simp) (by simp) h.1, seg_mono b c t h.2 fun x y hx hy => hm x y (List.mem_cons_of_mem _ hx) (by simp only [List.cons_append]; exact List.mem_cons_of_mem _ hy)⟩
def setPv (M : Nat → Nd) (g z : Nat) : Nat → Nd := setM M g { M g with pv := z }
def setNx (M : Nat → Nd) (g z : Nat) : Nat → Nd := setM M g { M g with nx := z }
theorem setPv_pv (M : Nat → Nd) (g z k : Nat) : (setPv M g z k).pv = if k = g then z else (M k).pv := by unfold setPv setM; split <;> rfl
theorem setPv_nx (M : Nat → Nd) (g z k : Nat) : (setPv M g z k).nx = (M k).nx := by
 unfold setPv setM
 split
 ·next h => rw [h]
 ·rfl
theorem setPv_rest (M : Nat → Nd) (g z k : Nat) : (setPv M g z k).pos = (M k).pos ∧ (setPv M g z k).fast = (M k).fast ∧ (setPv M g z k).dat = (M k).dat := by
 unfold setPv setM
 split
 ·next h => rw [h]; exact ⟨rfl, rfl, rfl⟩
 ·exact ⟨rfl, rfl, rfl⟩
theorem setNx_nx (M : Nat → Nd) (g z k : Nat) : (setNx M g z k).nx = if k = g then z else (M k).nx := by unfold setNx setM; split <;> rfl
theorem setNx_pv (M : Nat → Nd) (g z k : Nat) : (setNx M g z k).pv = (M k).pv := by
 unfold setNx setM
 split
 ·next h => rw [h]
 ·rfl
theorem setNx_rest (M : Nat → Nd) (g z k : Nat) : (setNx M g z k).pos = (M k).pos ∧ (setNx M g z k).fast = (M k).fast ∧ (setNx M g z k).dat = (M k).dat := by
 unfold setNx setM
 split
 ·next h => rw [h]; exact ⟨rfl, rfl, rfl⟩
 ·exact ⟨rfl, rfl, rfl⟩
def leaveM (M : Nat → Nd) (h : Nat) : Nat → Nd := setPv (setNx M (M h).pv (M h).nx) (M h).nx (M h).pv
theorem leave_nx (M : Nat → Nd) (h k : Nat) : (leaveM M h k).nx = if k = (M h).pv then (M h).nx else (M k).nx := by
 unfold leaveM
 rw [setPv_nx, setNx_nx]
theorem leave_pv (M : Nat → Nd) (h k : Nat) : (leaveM M h k).pv = if k = (M h).nx then (M h).pv else (M k).pv := by
 unfold leaveM
 rw [setPv_pv, setNx_pv]
theorem leave_rest (M : Nat → Nd) (h k : Nat) : (leaveM M h k).pos = (M k).pos ∧ (leaveM M h k).fast = (M k).fast ∧ (leaveM M h k).dat = (M k).dat := by
 unfold leaveM
 obtain ⟨a1, a2, a3⟩ := setPv_rest (setNx M (M h).pv (M h).nx) (M h).nx (M h).pv k
 obtain ⟨b1, b2, b3⟩ := setNx_rest M (M h).pv (M h).nx k
 exact ⟨a1.trans b1, a2.trans b2, a3.trans b3⟩
theorem snoc_cases (p : List Nat) : p = [] ∨ ∃ p0 z, p = p0 ++ [z] := by
 rcases List.eq_nil_or_concat p with h | ⟨a, b, h⟩
 ·exact .inl h
 ·exact .inr ⟨a, b, by simpa using h⟩
theorem seg_near {M : Nat → Nd} {e h : Nat} {p q : List Nat} (hs : seg (Lnk M) e (p ++ h :: q) e) : (M h).pv ∈ e :: p ∧ (M h).nx ∈ q ++ [e] := by
 obtain ⟨h1, h2⟩ := (seg_append _ _ _ _ _ _).1 hs
 constructor
 ·rcases snoc_cases p with rfl | ⟨p0, z, rfl⟩
  ·simp [h1.2]
  ·have := ((seg_append _ _ _ _ _ _).1 h1).2.2
   simp [this]
 ·cases q with
  | nil => simp [h2.1]
  | cons y t => simp [h2.1.1]
theorem leave_seg {M : Nat → Nd} {e h : Nat} {p q : List Nat} (hn : (e :: (p ++ h :: q)).Nodup) (hs : seg (Lnk M) e (p ++ h :: q) e) : seg (Lnk (leaveM M h)) e (p ++ q) e := by
 obtain ⟨h1, h2⟩ := (seg_append _ _ _ _ _ _).1 hs
 have hL : ∀ x y, x ≠ (M h).pv → y ≠ (M h).nx → Lnk M x y → Lnk (leaveM M h) x y := by
  intro x y hx hy hl
  unfold Lnk
  rw [leave_nx, leave_pv, if_neg hx, if_neg hy]
  exact hl
 have hJ : Lnk (leaveM M h) (M h).pv (M h).nx := by
  unfold Lnk
  rw [leave_nx, leave_pv, if_pos rfl, if_pos rfl]
  exact ⟨rfl, rfl⟩
 rcases snoc_cases p with rfl | ⟨p0, z, rfl⟩
 ·have hz : (M h).pv = e := h1.2
  cases q with
  | nil =>
   have hy : (M h).nx = e := h2.1
   rw [hz, hy] at hJ
   exact hJ
  | cons y t =>
   have hy : (M h).nx = y := h2.1.1
   rw [hz, hy] at hJ
   refine ⟨hJ, seg_mono e y t h2.2 fun a b ha hb => hL a b ?_ ?_⟩
   ·rw [hz]; rintro rfl; simp at hn; simp at ha; rcases ha with rfl | ha
    ·exact hn.1.2.1 rfl
    ·exact hn.1.2.2 ha
   ·rw [hy]; rintro rfl; simp at hn; simp at hb; rcases hb with hb | rfl
    ·exact hn.2.2.1 hb
    ·exact hn.1.2.1 rfl
 ·obtain ⟨h3, h4⟩ := (seg_append _ _ _ _ _ _).1 h1
  have hz : (M h).pv = z := h4.2
  have hne : ∀ a, a ∈ e :: p0 → a ≠ z := by
   rintro a ha rfl
   simp at hn ha
   rcases ha with rfl | ha
   ·simp at hn
   ·have := hn.2
    rw [List.nodup_append] at this
    exact this.2.2 a ha a (by simp) rfl
  have hyz : ∀ b, b ∈ p0 ++ [z] → b ∉ h :: q := by
   intro b hb hb'
   have := (List.nodup_cons.1 hn).2
   rw [List.nodup_append] at this
   exact this.2.2 b hb b hb' rfl
  have hnq : (e :: (h :: q)).Nodup := by
   rw [List.nodup_cons] at hn ⊢
   refine ⟨fun q' => hn.1 (List.mem_append.2 (.inr q')), (List.nodup_append.1 hn.2).2.1⟩
  rw [List.append_assoc]
  show seg _ e (p0 ++ z :: q) e
  refine (seg_append _ _ _ _ _ _).2 ⟨seg_mono z e p0 h3 fun a b ha hb => hL a b (by rw [hz]; exact hne a ha) ?_, ?_⟩
  ·rintro rfl
   cases q with
   | nil =>
    have hy : (M h).nx = e := h2.1
    rw [hy] at hb
    exact (List.nodup_cons.1 hn).1 (List.mem_append.2 (.inl hb))
   | cons y t =>
    have hy : (M h).nx = y := h2.1.1
    rw [hy] at hb
    exact hyz y hb (by simp)
  ·cases q with
   | nil =>
    have hy : (M h).nx = e := h2.1
    rw [hz, hy] at hJ
    exact hJ
   | cons y t =>
    have hy : (M h).nx = y := h2.1.1
    rw [hz, hy] at hJ
    refine ⟨hJ, seg_mono e y t h2.2 fun a b ha hb => hL a b ?_ ?_⟩
    ·rw [hz]; rintro rfl
     exact hyz a (by simp) (List.mem_cons_of_mem _ ha)
    ·rw [hy]; rintro rfl; simp at hnq; simp at hb; rcases hb with hb | rfl
     ·exact hnq.2.2.1 hb
     ·exact hnq.1.2.1 rfl
def standM (M : Nat → Nd) (h e : Nat) : Nat → Nd := setPv (setNx (setNx (setPv M h (M e).pv) h e) (M e).pv h) e h
theorem stand_nx (M : Nat → Nd) (h e k : Nat) : (standM M h e k).nx = if k = (M e).pv then h else if k = h then e else (M k).nx := by
 unfold standM
 rw [setPv_nx, setNx_nx, setNx_nx, setPv_nx]
theorem stand_pv (M : Nat → Nd) (h e k : Nat) : (standM M h e k).pv = if k = e then h else if k = h then (M e).pv else (M k).pv := by
 unfold standM
 rw [setPv_pv, setNx_pv, setNx_pv, setPv_pv]
theorem stand_rest (M : Nat → Nd) (h e k : Nat) : (standM M h e k).pos = (M k).pos ∧ (standM M h e k).fast = (M k).fast ∧ (standM M h e k).dat = (M k).dat := by
 unfold standM
 obtain ⟨a1, a2, a3⟩ := setPv_rest (setNx (setNx (setPv M h (M e).pv) h e) (M e).pv h) e h k
 obtain ⟨b1, b2, b3⟩ := setNx_rest (setNx (setPv M h (M e).pv) h e) (M e).pv h k
 obtain ⟨c1, c2, c3⟩ := setNx_rest (setPv M h (M e).pv) h e k
 obtain ⟨d1, d2, d3⟩ := setPv_rest M h (M e).pv k
 exact ⟨a1.trans (b1.trans (c1.trans d1)), a2.trans (b2.trans (c2.trans d2)), a3.trans (b3.trans (c3.trans d3))⟩
theorem seg_last {M : Nat → Nd} {e : Nat} {l : List Nat} (hs : seg (Lnk M) e l e) : (M e).pv ∈ e :: l := by
 rcases snoc_cases l with rfl | ⟨p0, z, rfl⟩
 ·simp [hs.2]
 ·have := ((seg_append _ _ _ _ _ _).1 hs).2.2
  simp [this]
theorem seg_first {M : Nat → Nd} {e : Nat} {l : List Nat} (hs : seg (Lnk M) e l e) : (M e).nx = (l ++ [e]).headD 0 := by
 cases l with
 | nil => exact hs.1
 | cons y t => exact hs.1.1
theorem stand_seg {M : Nat → Nd} {e h : Nat} {l : List Nat} (hn : (h :: e :: l).Nodup) (hs : seg (Lnk M) e l e) : seg (Lnk (standM M h e)) e (l ++ [h]) e := by
 have hhe : h ≠ e := by rintro rfl; simp at hn
 have hlast := seg_last hs
 have hz : h ≠ (M e).pv := by
  intro q
  rw [← q] at hlast
  exact (List.nodup_cons.1 hn).1 hlast
 have hN := fun k => stand_nx M h e k
 have hP := fun k => stand_pv M h e k
 have hfin : seg (Lnk (standM M h e)) h [] e := by
  show Lnk _ h e
  unfold Lnk
  rw [hN, hP, if_neg hz, if_pos rfl, if_pos rfl]
  exact ⟨rfl, rfl⟩
 refine (seg_append _ _ _ _ _ _).2 ⟨?_, hfin⟩
 have hJ : Lnk (standM M h e) (M e).pv h := by
  unfold Lnk
  rw [hN, hP, if_pos rfl, if_neg hhe, if_pos rfl]
  exact ⟨rfl, rfl⟩
 rcases snoc_cases l with rfl | ⟨p0, z, rfl⟩
 ·have : (M e).pv = e := hs.2
  rw [this] at hJ
  exact hJ
 ·obtain ⟨h3, h4⟩ := (seg_append _ _ _ _ _ _).1 hs
  have hez : (M e).pv = z := h4.2
  rw [hez] at hJ
  refine (seg_append _ _ _ _ _ _).2 ⟨seg_mono z e p0 h3 fun a b ha hb hl => ?_, hJ⟩
  have hae : a ≠ z := by
   rintro rfl
   simp at hn ha
   rcases ha with rfl | ha
   ·simp at hn
   ·have := hn.2.2
    rw [List.nodup_append] at this
    exact this.2.2 a ha a (by simp) rfl
  have hah : a ≠ h := by
   rintro rfl
   refine (List.nodup_cons.1 hn).1 ?_
   simp at ha ⊢
   rcases ha with rfl | ha
   ·exact .inl rfl
   ·exact .inr (.inl ha)
  have hbe : b ≠ e := by
   rintro rfl
   exact (List.nodup_cons.1 (List.nodup_cons.1 hn).2).1 hb
  have hbh : b ≠ h := by
   rintro rfl
   exact (List.nodup_cons.1 hn).1 (List.mem_cons_of_mem _ hb)
  unfold Lnk
  rw [hN, hP, if_neg (by rw [hez]; exact hae), if_neg hah, if_neg hbe, if_neg hbh]
  exact hl
end Go.Proofs.YtichojdcoegboaaGreatW
namespace Go.Proofs.YtichojdcoegboaaGreatW
open Go.RowKit
def ptr (g : Nat) : Value := .pointer (some ⟨g, 0, none⟩)
def rowV (k : Int) (b : Bool) (p q : Value) (f : Nat → Int) : Array Value := (.int .i64 k :: .bool b :: p :: q :: (blk f).toList).toArray
theorem rowV_size (k : Int) (b : Bool) (p q : Value) (f : Nat → Int) : (rowV k b p q f).size = 1028 := by simp [rowV, blk_size]
theorem rowV_set1 (k : Int) (b c : Bool) (p q : Value) (f : Nat → Int) : (rowV k b p q f).setIfInBounds 1 (.bool c) = rowV k c p q f := by unfold rowV; rw [List.setIfInBounds_toArray]; rfl
theorem rowV_set2 (k : Int) (b : Bool) (p q r : Value) (f : Nat → Int) : (rowV k b p q f).setIfInBounds 2 r = rowV k b r q f := by unfold rowV; rw [List.setIfInBounds_toArray]; rfl
theorem rowV_set3 (k : Int) (b : Bool) (p q r : Value) (f : Nat → Int) : (rowV k b p q f).setIfInBounds 3 r = rowV k b p r f := by unfold rowV; rw [List.setIfInBounds_toArray]; rfl
variable {w : World} {g : Nat} {k : Int} {b : Bool} {p q : Value} {f : Nat → Int}
def RowAt (w : World) (g : Nat) (k : Int) (b : Bool) (p q : Value) (f : Nat → Int) : Prop := w.heap[g]? = some (.cells (rowV k b p q f) 139)
theorem RowAt.c0 (h : RowAt w g k b p q f) : w.cell? ⟨g, 0, none⟩ = some (.int .i64 k) := Joins.cell_of_block h 0
theorem RowAt.c1 (h : RowAt w g k b p q f) : w.cell? ⟨g, 1, none⟩ = some (.bool b) := Joins.cell_of_block h 1
theorem RowAt.c2 (h : RowAt w g k b p q f) : w.cell? ⟨g, 2, none⟩ = some p := Joins.cell_of_block h 2
theorem RowAt.c3 (h : RowAt w g k b p q f) : w.cell? ⟨g, 3, none⟩ = some q := Joins.cell_of_block h 3
theorem RowAt.free (h : RowAt w g k b p q f) (i : Nat) : w.frozen? ⟨g, i, none⟩ = false := Joins.unfrozen_of_block h i
theorem RowAt.bytes (h : RowAt w g k b p q f) : BlkAt w g 4 f := fun j v hv => by
 rw [Joins.cell_of_block h]
 unfold rowV
 generalize (blk f).toList = l at *
 rw [List.getElem?_toArray, show 4 + j = j + 4 by omega]
 exact hv
theorem RowAt.set1 (h : RowAt w g k b p q f) (c : Bool) : RowAt (w.setCell ⟨g, 1, none⟩ (.bool c)) g k c p q f := (Joins.block_setCell h _).trans (by rw [rowV_set1])
theorem RowAt.set2 (h : RowAt w g k b p q f) (r : Value) : RowAt (w.setCell ⟨g, 2, none⟩ r) g k b r q f := (Joins.block_setCell h _).trans (by rw [rowV_set2])
theorem RowAt.set3 (h : RowAt w g k b p q f) (r : Value) : RowAt (w.setCell ⟨g, 3, none⟩ r) g k b p r f := (Joins.block_setCell h _).trans (by rw [rowV_set3])
theorem RowAt.other (h : RowAt w g k b p q f) {j : Nat} (i : Nat) (v : Value) (hne : g ≠ j) : RowAt (w.setCell ⟨j, i, none⟩ v) g k b p q f := (Below.heap_setCell w _ v g hne).trans h
theorem block_setCells (g : Nat) (t : TypeId) (post : List Value) : ∀ (vs mid pre : List Value) (w : World), mid.length = vs.length → w.heap[g]? = some (.cells (pre ++ (mid ++ post)).toArray t) →
  (w.setCells g pre.length vs).heap[g]? = some (.cells (pre ++ (vs ++ post)).toArray t)
 | [], mid, pre, w, hl, h => by
  have : mid = [] := List.eq_nil_of_length_eq_zero hl
  subst this
  exact h
 | v :: r, [], pre, w, hl, h => by simp at hl
 | v :: r, m :: mid, pre, w, hl, h => by
  have h1 := Joins.block_setCell (i := pre.length) h v
  have e : (pre ++ (m :: mid ++ post)).toArray.setIfInBounds pre.length v = ((pre ++ [v]) ++ (mid ++ post)).toArray := by
   rw [List.setIfInBounds_toArray, List.set_append_right _ _ (Nat.le_refl _)]
   simp
  rw [e] at h1
  have h2 := block_setCells g t post r mid (pre ++ [v]) _ (by simpa using hl) h1
  simp only [List.length_append, List.length_cons, List.length_nil] at h2
  show ((w.setCell ⟨g, pre.length, none⟩ v).setCells g (pre.length + 1) r).heap[g]? = _
  rw [h2]
  simp
theorem Fr.setCells (w : World) (g o : Nat) (vs : List Value) : Fr (fun k => k = g) w (w.setCells g o vs) :=
 have h := rest_setCells g vs o w
 ⟨h.1, h.2.1, h.2.2, Nat.le_of_eq (size_setCells g vs o w).symm, fun k _ hn => heap_setCells g vs o w k hn⟩
theorem RowAt.setD (h : RowAt w g k b p q f) (f' : Nat → Int) : RowAt (w.setCells g 4 (blk f').toList) g k b p q f' := by
 have hl : (blk f).toList.length = (blk f').toList.length := by rw [blk_list_len, blk_list_len]
 unfold RowAt rowV at *
 generalize (blk f).toList = l at *
 generalize (blk f').toList = l' at *
 have := block_setCells g 139 [] l' l [.int .i64 k, .bool b, p, q] w hl (by simpa using h)
 simpa using this
theorem RowAt.there (h : RowAt w g k b p q f) : w.there g 4 1024 := fun j hj => by
 refine ⟨?_, h.free _⟩
 rw [Joins.cell_of_block h, Array.getElem?_eq_getElem (by rw [rowV_size]; omega)]
 rfl
theorem wpList_storeM {ops : Array Oper} {rest : List Oper} {o : Oper} {a : Act} {Q : Exit → Act → World → Prop} (hgd : o.guard = none) (x y : Operand) (ho : o.op = .store 64 x y)
  (hx : a.eval x = .pointer (some ⟨g, 4, none⟩)) (f' : Nat → Int) (hy : a.eval y = .agg (blk f')) (h : w.there g 4 1024)
  (hK : wpList Tryz.prog ops Q rest (a.put o.dst undef) (w.setCells g 4 (blk f').toList)) : wpList Tryz.prog ops Q (o :: rest) a w :=
 wpList_store_mid hgd 64 x y ho g 4 (blk f') hx hy (by rw [blk_size]; exact h) (by rw [blk_size]; exact size25) (blk_one f') hK
end Go.Proofs.YtichojdcoegboaaGreatW
namespace Go.Proofs.YtichojdcoegboaaGreatW
open Go.RowKit
def Nodes (w : World) (M : Nat → Nd) (S : Nat → Prop) : Prop := ∀ g, S g → RowAt w g (M g).pos (M g).fast (ptr (M g).pv) (ptr (M g).nx) (M g).dat
variable {w : World} {M : Nat → Nd} {S : Nat → Prop}
theorem Nodes.setNx (h : Nodes w M S) {g : Nat} (hg : S g) (z : Nat) : Nodes (w.setCell ⟨g, 3, none⟩ (ptr z)) (setNx M g z) S := fun k hk => by
 unfold Go.Proofs.YtichojdcoegboaaGreatW.setNx setM
 by_cases e : k = g
 ·subst e
  rw [if_pos rfl]
  exact (h k hk).set3 (ptr z)
 ·rw [if_neg e]
  exact (h k hk).other 3 _ e
theorem Nodes.setPv (h : Nodes w M S) {g : Nat} (hg : S g) (z : Nat) : Nodes (w.setCell ⟨g, 2, none⟩ (ptr z)) (setPv M g z) S := fun k hk => by
 unfold Go.Proofs.YtichojdcoegboaaGreatW.setPv setM
 by_cases e : k = g
 ·subst e
  rw [if_pos rfl]
  exact (h k hk).set2 (ptr z)
 ·rw [if_neg e]
  exact (h k hk).other 2 _ e
theorem Nodes.kept {w' : World} (h : Nodes w M S) (hb : ∀ g, S g → w'.heap[g]? = w.heap[g]?) : Nodes w' M S := fun g hg => (hb g hg).trans (h g hg)
theorem Nodes.mono {S' : Nat → Prop} (h : Nodes w M S) (hs : ∀ g, S' g → S g) : Nodes w M S' := fun g hg => h g (hs g hg)
set_option maxHeartbeats 1000000 in
theorem leave_of (hN : Nodes w M S) {h : Nat} (hh : S h) (hp : S (M h).pv) (hn : S (M h).nx) :
  Calls Tryz.prog 135 #[ptr h] w fun e w' => e = .returned (.tuple #[]) ∧ Nodes w' (leaveM M h) S ∧ Fr (fun k => k = (M h).pv ∨ k = (M h).nx) w w' := by
 have k2 := (hN h hh).c2
 have k3 := (hN h hh).c3
 have p3 := (hN _ hp).c3
 have fp := (hN _ hp).free 3
 have n2 := (hN _ hn).c2
 have fn := (hN _ hn).free 2
 have N1 : Nodes ((w.setCell ⟨(M h).pv, 3, none⟩ (ptr (M h).nx)).setCell ⟨(M h).nx, 2, none⟩ (ptr (M h).pv)) (leaveM M h) S := (hN.setNx hp _).setPv hn _
 have F1 : Fr (fun k => k = (M h).pv ∨ k = (M h).nx) w ((w.setCell ⟨(M h).pv, 3, none⟩ (ptr (M h).nx)).setCell ⟨(M h).nx, 2, none⟩ (ptr (M h).pv)) := by
  refine ((Fr.setCell w (M h).pv 3 (ptr (M h).nx)).mono (T' := fun k => k = (M h).pv ∨ k = (M h).nx) fun _ _ q => .inl q).trans (Fr.setCell _ (M h).nx 2 (ptr (M h).pv)) fun _ _ q => .inr q
 have HN : Hid (Nodes _ (leaveM M h) S) := N1
 have HF : Hid (Fr _ w _) := F1
 clear N1 F1 hN
 generalize leaveM M h = M' at *
 generalize (M h).pv = P at *
 generalize (M h).nx = X at *
 unfold ptr at *
 go_enter Tryz.func135, Tryz.ntmps135
 go_wp2_with (fail)
 go_region
 go_end0
 exact ⟨rfl, HN.out, HF.out.trans (Fr.drew (T := fun _ => False) _) fun _ _ q => q.elim⟩
set_option maxHeartbeats 1000000 in
theorem stand_of (hN : Nodes w M S) {h e : Nat} {n : Nd} {p q : Value} (hS : ¬ S h) (he : S e) (hz : S (M e).pv) (hh : RowAt w h n.pos n.fast p q n.dat) :
  Calls Tryz.prog 137 #[ptr h, ptr e] w fun x w' => x = .returned (.tuple #[]) ∧ Nodes w' (standM (setM M h n) h e) (fun k => k = h ∨ S k) ∧ Fr (fun k => k = h ∨ k = e ∨ k = (M e).pv) w w' := by
 have hhe : h ≠ e := fun q => hS (q ▸ he)
 have hhz : h ≠ (M e).pv := fun q => hS (q ▸ hz)
 have e2 := (hN e he).c2
 have fe := (hN e he).free 2
 have z3 := (hN _ hz).c3
 have fz := (hN _ hz).free 3
 have h2 := hh.c2
 have h3 := hh.c3
 have f2 := hh.free 2
 have f3 := hh.free 3
 have eM : (setM M h n e) = M e := by unfold setM; rw [if_neg (Ne.symm hhe)]
 have e1 : ∀ k, k ≠ h → setM M h n k = M k := fun k hk => by unfold setM; rw [if_neg hk]
 have N1 : Nodes ((((w.setCell ⟨h, 2, none⟩ (ptr (M e).pv)).setCell ⟨h, 3, none⟩ (ptr e)).setCell ⟨(M e).pv, 3, none⟩ (ptr h)).setCell ⟨e, 2, none⟩ (ptr h)) (standM (setM M h n) h e) (fun k => k = h ∨ S k) := by
  unfold standM
  rw [eM]
  refine Nodes.setPv (Nodes.setNx ?_ (.inr hz) _) (.inr he) _
  rintro k (rfl | hk)
  ·have := (hh.set2 (ptr (M e).pv)).set3 (ptr e)
   have e3 : setNx (setPv (setM M k n) k (M e).pv) k e k = { n with pv := (M e).pv, nx := e } := by unfold setNx setPv setM; simp
   rw [e3]
   exact this
  ·have hk' : k ≠ h := fun q => hS (q ▸ hk)
   have e3 : setNx (setPv (setM M h n) h (M e).pv) h e k = M k := by unfold setNx setPv setM; simp [hk']
   rw [e3]
   exact ((hN k hk).other 2 _ hk').other 3 _ hk'
 have F1 : Fr (fun k => k = h ∨ k = e ∨ k = (M e).pv) w ((((w.setCell ⟨h, 2, none⟩ (ptr (M e).pv)).setCell ⟨h, 3, none⟩ (ptr e)).setCell ⟨(M e).pv, 3, none⟩ (ptr h)).setCell ⟨e, 2, none⟩ (ptr h)) := by
  have a1 := (Fr.setCell w h 2 (ptr (M e).pv)).mono (T' := fun k => k = h ∨ k = e ∨ k = (M e).pv) fun _ _ q => .inl q
  have a2 := a1.trans (Fr.setCell _ h 3 (ptr e)) fun _ _ q => .inl q
  have a3 := a2.trans (Fr.setCell _ (M e).pv 3 (ptr h)) fun _ _ q => .inr (.inr q)
  exact a3.trans (Fr.setCell _ e 2 (ptr h)) fun _ _ q => .inr (.inl q)
 have HN : Hid (Nodes _ _ _) := N1
 have HF : Hid (Fr _ w _) := F1
 clear N1 F1 hN eM e1 hh
 generalize standM (setM M h n) h e = M' at *
 generalize (M e).pv = Z at *
 unfold ptr at *
 go_enter Tryz.func137, Tryz.ntmps137
 go_wp2
 go_end0
 exact ⟨rfl, HN.out, HF.out⟩
end Go.Proofs.YtichojdcoegboaaGreatW
namespace Go.Proofs.YtichojdcoegboaaGreatW
open Go.RowKit Go.Maps
theorem nodup_sub_len {α : Type} [DecidableEq α] : ∀ (l m : List α), l.Nodup → (∀ x ∈ l, x ∈ m) → l.length ≤ m.length
 | [], _, _, _ => by simp
 | a :: t, m, hn, hs => by
  have h1 := nodup_sub_len t (m.erase a) (List.nodup_cons.1 hn).2 fun x hx => by
   have hne : x ≠ a := fun q => (List.nodup_cons.1 hn).1 (q ▸ hx)
   exact (List.mem_erase_of_ne hne).2 (hs x (List.mem_cons_of_mem _ hx))
  have h2 := hs a (List.mem_cons_self ..)
  rw [List.length_erase_of_mem h2] at h1
  have := List.length_pos_of_mem h2
  rw [List.length_cons]
  omega
theorem nodup_map_inj {α β : Type} {f : α → β} : ∀ (l : List α), (l.map f).Nodup → ∀ x y, x ∈ l → y ∈ l → f x = f y → x = y
 | [], _, x, _, hx, _, _ => by simp at hx
 | a :: t, hn, x, y, hx, hy, e => by
  rw [List.map_cons, List.nodup_cons] at hn
  rcases List.mem_cons.1 hx with hx1 | hx1
  ·rcases List.mem_cons.1 hy with hy1 | hy1
   ·exact hx1.trans hy1.symm
   ·exact absurd (List.mem_map.2 ⟨y, hy1, by rw [← e, hx1]⟩) hn.1
  ·rcases List.mem_cons.1 hy with hy1 | hy1
   ·exact absurd (List.mem_map.2 ⟨x, hx1, by rw [e, hy1]⟩) hn.1
   ·exact nodup_map_inj t hn.2 x y hx1 hy1 e
structure Hld where
 pos : Int
 fast : Bool
 dat : Nat → Int
def hld (M : Nat → Nd) (g : Nat) : Hld := ⟨(M g).pos, (M g).fast, (M g).dat⟩
structure KLoc where
 c : Nat
 d : Nat
 e : Nat
 mb : Nat
 ns : List Nat
 M : Nat → Nd
def KLoc.has (K : KLoc) (k : Nat) : Prop := k = K.c ∨ k = K.mb ∨ k = K.e ∨ k ∈ K.ns
structure CSt where
 size : Int
 row : List Hld
def fastN (r : List Hld) : Nat := r.countP (·.fast)
def posOf (M : Nat → Nd) (g : Nat) : Int := (M g).pos
def mapV (M : Nat → Nd) (ns : List Nat) : Int → Option Value := fun k => (ns.find? fun g => posOf M g == k).map ptr
theorem mapV_none {M : Nat → Nd} {ns : List Nat} {k : Int} (h : ∀ g ∈ ns, posOf M g ≠ k) : mapV M ns k = none := by
 unfold mapV
 rw [List.find?_eq_none.2 (fun x hx => by simpa using h x hx)]
 rfl
theorem mapV_some {M : Nat → Nd} {ns : List Nat} (hn : (ns.map (posOf M)).Nodup) {g : Nat} (hg : g ∈ ns) : mapV M ns (posOf M g) = some (ptr g) := by
 unfold mapV
 cases hf : ns.find? fun x => posOf M x == posOf M g with
 | none => exact absurd (List.find?_eq_none.1 hf g hg) (by simp)
 | some x =>
  have h1 := List.find?_some hf
  have h2 := List.mem_of_find?_eq_some hf
  have h3 : posOf M x = posOf M g := by simpa using h1
  have h4 : x = g := nodup_map_inj _ hn x g h2 hg h3
  rw [h4]
  rfl
theorem mapV_ext {M M' : Nat → Nd} {ns ns' : List Nat} (h1 : (ns.map (posOf M)).Nodup) (h2 : (ns'.map (posOf M')).Nodup) (hm : ∀ g, g ∈ ns ↔ g ∈ ns') (hp : ∀ g ∈ ns, posOf M' g = posOf M g) : mapV M ns = mapV M' ns' := by
 funext k
 by_cases hk : ∃ g ∈ ns, posOf M g = k
 ·obtain ⟨g, hg, rfl⟩ := hk
  rw [mapV_some h1 hg, ← hp g hg, mapV_some h2 ((hm g).1 hg)]
 ·rw [mapV_none fun g hg q => hk ⟨g, hg, q⟩, mapV_none fun g hg q => hk ⟨g, (hm g).2 hg, by rw [← hp g ((hm g).2 hg)]; exact q⟩]
theorem mapV_add {M M' : Nat → Nd} {ns : List Nat} {g : Nat} (h2 : ((ns ++ [g]).map (posOf M')).Nodup) (hp : ∀ x ∈ ns, posOf M' x = posOf M x) :
  (fun y => if y = posOf M' g then some (ptr g) else mapV M ns y) = mapV M' (ns ++ [g]) := by
 have h1 : (ns.map (posOf M)).Nodup := by
  rw [List.map_append] at h2
  have := (List.nodup_append.1 h2).1
  rwa [List.map_congr_left hp] at this
 funext k
 by_cases hk : k = posOf M' g
 ·subst hk
  rw [if_pos rfl, mapV_some h2 (by simp)]
 ·rw [if_neg hk]
  by_cases hx : ∃ x ∈ ns, posOf M x = k
  ·obtain ⟨x, hx, rfl⟩ := hx
   rw [mapV_some h1 hx, ← hp x hx, mapV_some h2 (by simp [hx])]
  ·rw [mapV_none fun x hx' q => hx ⟨x, hx', q⟩, mapV_none]
   intro x hx' q
   rcases List.mem_append.1 hx' with h | h
   ·exact hx ⟨x, h, by rw [← hp x h]; exact q⟩
   ·obtain rfl : x = g := by simpa using h
    exact hk q.symm
theorem mapV_del {M M' : Nat → Nd} {p q : List Nat} {g : Nat} (h1 : ((p ++ g :: q).map (posOf M)).Nodup) (hp : ∀ x ∈ p ++ q, posOf M' x = posOf M x) :
  (fun y => if y = posOf M g then none else mapV M (p ++ g :: q) y) = mapV M' (p ++ q) := by
 have hsub : ((p ++ q).map (posOf M)).Nodup := by
  rw [List.map_append, List.map_cons] at h1
  rw [List.map_append]
  exact (h1.sublist (List.Sublist.append_left (List.sublist_cons_self ..) _))
 have h2 : ((p ++ q).map (posOf M')).Nodup := by rwa [List.map_congr_left hp]
 have hg : ∀ x ∈ p ++ q, posOf M x ≠ posOf M g := by
  intro x hx e
  have h3 : (p ++ g :: q).Perm (g :: (p ++ q)) := List.perm_middle
  have h4 := ((h3.map (posOf M)).nodup_iff).1 h1
  rw [List.map_cons, List.nodup_cons] at h4
  exact h4.1 (List.mem_map.2 ⟨x, hx, e⟩)
 funext k
 by_cases hk : k = posOf M g
 ·subst hk
  rw [if_pos rfl, mapV_none]
  intro x hx
  rw [hp x hx]
  exact hg x hx
 ·rw [if_neg hk]
  by_cases hx : ∃ x ∈ p ++ q, posOf M x = k
  ·obtain ⟨x, hx, rfl⟩ := hx
   rw [mapV_some h1 (by simp at hx ⊢; rcases hx with h | h <;> simp [h]), ← hp x hx, mapV_some h2 hx]
  ·rw [mapV_none, mapV_none fun x hx' q => hx ⟨x, hx', by rw [← hp x hx']; exact q⟩]
   intro x hx' e
   simp at hx'
   rcases hx' with h | rfl | h
   ·exact hx ⟨x, by simp [h], e⟩
   ·exact hk e.symm
   ·exact hx ⟨x, by simp [h], e⟩
theorem map_size {w : World} {b : Nat} {M : Nat → Nd} {ns : List Nat} (hn : (ns.map (posOf M)).Nodup) {D : DataW Value} {n : Nat} (h : w.ownsMap Tryz.prog 3 valElem b n D) (hv : Views D (mapV M ns)) : Maps.size D = ns.length := by
 obtain ⟨es, rfl, hp, _⟩ := h.entries keyed3
 have hko : ∀ p ∈ es, ∃ x, p.1 = .int .i64 x := by
  obtain ⟨es', clock, _, F, _, hD⟩ := h
  intro p hp
  have e : es = (es'.toList.map (Go.WideElems.rg Tryz.prog 3 valElem)).foldr DataW.insert [] := by simpa using hD
  rw [e] at hp
  obtain ⟨y, hy, rfl⟩ := List.mem_map.1 (mem_sorted.1 hp)
  obtain ⟨z, hz⟩ := F.reads y hy
  obtain ⟨x, _, hx, _⟩ := Maps.keyOf_int_inv Tryz.underlying3 (Go.WideElems.rd_key hz)
  exact ⟨x, by rw [Go.WideElems.rg_of hz]; exact hx⟩
 let f : Lit × DataW Value → Int := fun p => match p.1 with | .int _ x => x | _ => 0
 have hf : ∀ p ∈ es, p.1 = .int .i64 (f p) := fun p hp' => by
  obtain ⟨a, ha⟩ := hko p hp'
  simp only [f, ha]
 have hnd : (es.map f).Nodup := by
  refine List.pairwise_map.2 (hp.imp_of_mem fun {p q} hp' hq' hne e => hne ?_)
  rw [hf p hp', hf q hq', e]
 have hsz : Maps.size (DataW.map es) = (es.map f).length := by simp [Maps.size]
 have hmem : ∀ x, x ∈ es.map f ↔ x ∈ ns.map (posOf M) := by
  intro x
  constructor
  ·intro hx
   obtain ⟨p, hp', rfl⟩ := List.mem_map.1 hx
   have hh : has (.map es) (.int .i64 (f p)) = true := List.any_eq_true.2 ⟨p, hp', by rw [hf p hp']; simp [Lit.sameKey]⟩
   apply Classical.byContradiction
   intro hx'
   rw [hv.none (f p) (mapV_none fun g hg q => hx' (List.mem_map.2 ⟨g, hg, q⟩))] at hh
   cases hh
  ·intro hx
   obtain ⟨g, hg, rfl⟩ := List.mem_map.1 hx
   obtain ⟨_, hh, _⟩ := hv.some _ _ (mapV_some hn hg)
   obtain ⟨p, hp', hs⟩ := List.any_eq_true.1 hh
   refine List.mem_map.2 ⟨p, hp', ?_⟩
   rw [hf p hp'] at hs
   simpa [Lit.sameKey] using hs
 have hns : ns.length = (ns.map (posOf M)).length := by simp
 rw [hsz, hns]
 exact Nat.le_antisymm (nodup_sub_len _ _ hnd fun x hx => (hmem x).1 hx) (nodup_sub_len _ _ hn fun x hx => (hmem x).2 hx)
end Go.Proofs.YtichojdcoegboaaGreatW
namespace Go.Proofs.YtichojdcoegboaaGreatW
open Go.RowKit Go.Maps
structure COk (s : CSt) : Prop where
 size : 1 ≤ s.size ∧ s.size ≤ 4096
 len : (s.row.length : Int) ≤ s.size
 pos : ∀ h ∈ s.row, inTop h.pos ∧ Can h.dat
 nodup : (s.row.map (·.pos)).Nodup
def ckRow (K : KLoc) (s : CSt) : Array Value := #[ptr K.c, ptr K.d, .int .i64 s.size, .map (some K.mb), ptr K.e, .int .i64 (fastN s.row : Int)]
structure CacheAt (w : World) (K : KLoc) (s : CSt) : Prop where
 row : w.heap[K.c]? = some (.cells (ckRow K s) 142)
 map : MapIs Tryz.prog 3 w K.mb (mapV K.M K.ns)
 nodes : Nodes w K.M (fun g => g = K.e ∨ g ∈ K.ns)
 ring : seg (Lnk K.M) K.e K.ns K.e
 nd : (K.e :: K.ns).Nodup
 holds : s.row = K.ns.map (hld K.M)
 ok : COk s
variable {w : World} {K : KLoc} {s : CSt}
theorem CacheAt.len (h : CacheAt w K s) : s.row.length = K.ns.length := by rw [h.holds]; simp
theorem CacheAt.posNd (h : CacheAt w K s) : (K.ns.map (posOf K.M)).Nodup := by
 have := h.ok.nodup
 rw [h.holds, List.map_map] at this
 exact this
theorem CacheAt.lt (h : CacheAt w K s) (k : Nat) (hk : K.has k) : k < w.heap.size := by
 rcases hk with rfl | rfl | hk
 ·exact (Array.getElem?_eq_some_iff.1 h.row).1
 ·exact h.map.lt
 ·exact (Array.getElem?_eq_some_iff.1 (h.nodes k hk)).1
theorem CacheAt.kept {w' : World} (h : CacheAt w K s) (hb : ∀ k, K.has k → w'.heap[k]? = w.heap[k]?) : CacheAt w' K s :=
 ⟨(hb _ (.inl rfl)).trans h.row, h.map.kept (hb _ (.inr (.inl rfl))), h.nodes.kept fun g hg => hb g (.inr (.inr hg)), h.ring, h.nd, h.holds, h.ok⟩
theorem CacheAt.fr {w' : World} {T : Nat → Prop} (h : CacheAt w K s) (hf : Fr T w w') (hT : ∀ k, K.has k → ¬ T k) : CacheAt w' K s :=
 h.kept fun k hk => hf.block k (h.lt k hk) (hT k hk)
theorem CacheAt.cell (h : CacheAt w K s) (i : Nat) : w.cell? ⟨K.c, i, none⟩ = (ckRow K s)[i]? := Joins.cell_of_block h.row i
theorem CacheAt.free (h : CacheAt w K s) (i : Nat) : w.frozen? ⟨K.c, i, none⟩ = false := Joins.unfrozen_of_block h.row i
theorem CacheAt.c0 (h : CacheAt w K s) : w.cell? ⟨K.c, 0, none⟩ = some (ptr K.c) := h.cell 0
theorem CacheAt.c1 (h : CacheAt w K s) : w.cell? ⟨K.c, 1, none⟩ = some (ptr K.d) := h.cell 1
theorem CacheAt.c2 (h : CacheAt w K s) : w.cell? ⟨K.c, 2, none⟩ = some (.int .i64 s.size) := h.cell 2
theorem CacheAt.c3 (h : CacheAt w K s) : w.cell? ⟨K.c, 3, none⟩ = some (.map (some K.mb)) := h.cell 3
theorem CacheAt.c4 (h : CacheAt w K s) : w.cell? ⟨K.c, 4, none⟩ = some (ptr K.e) := h.cell 4
theorem CacheAt.c5 (h : CacheAt w K s) : w.cell? ⟨K.c, 5, none⟩ = some (.int .i64 (fastN s.row : Int)) := h.cell 5
theorem CacheAt.cne (h : CacheAt w K s) {g : Nat} (hg : g = K.e ∨ g ∈ K.ns) : g ≠ K.c := by
 rintro rfl
 have h1 := h.nodes _ hg
 have h2 := h.row
 unfold RowAt at h1
 rw [h2] at h1
 injection h1 with h1
 injection h1 with _ h1
 cases h1
theorem CacheAt.mne (h : CacheAt w K s) {g : Nat} (hg : g = K.e ∨ g ∈ K.ns) : g ≠ K.mb := by
 rintro rfl
 have h1 := h.nodes _ hg
 obtain ⟨es, cl, h2⟩ := h.map.isMap
 unfold RowAt at h1
 rw [h2] at h1
 cases h1
theorem CacheAt.cm (h : CacheAt w K s) : K.c ≠ K.mb := by
 intro e
 have h1 := h.row
 obtain ⟨es, cl, h2⟩ := h.map.isMap
 rw [e, h2] at h1
 cases h1
structure CD (w : World) (K : KLoc) (L : Loc) (s : CSt) (t : St) : Prop where
 cache : CacheAt w K s
 disk : DiskAt w L t
 d : K.d = L.d
 apart : ∀ k, K.has k → ¬ L.has k
structure GoesC (w w' : World) (K : KLoc) (L : Loc) (K' : KLoc) (L' : Loc) : Prop where
 c : K'.c = K.c
 d : L'.d = L.d
 ownK : ∀ k, K'.has k → K.has k ∨ w.heap.size ≤ k
 ownL : ∀ k, L'.has k → L.has k ∨ w.heap.size ≤ k
 fr : Fr (fun k => K.has k ∨ L.has k) w w'
theorem GoesC.refl (w : World) (K : KLoc) (L : Loc) : GoesC w w K L K L := ⟨rfl, rfl, fun _ h => .inl h, fun _ h => .inl h, Fr.refl _ _⟩
theorem GoesC.ofBelow {w w' : World} (K : KLoc) (L : Loc) (h : Below w.heap.size w w') : GoesC w w' K L K L := ⟨rfl, rfl, fun _ h => .inl h, fun _ h => .inl h, Fr.ofBelow h⟩
theorem GoesC.trans {a b c : World} {K K' K'' : KLoc} {L L' L'' : Loc} (h : GoesC a b K L K' L') (k : GoesC b c K' L' K'' L'') : GoesC a c K L K'' L'' := by
 have hs := h.fr.size
 refine ⟨k.c.trans h.c, k.d.trans h.d, fun i hi => ?_, fun i hi => ?_, h.fr.trans k.fr fun i hi hk => ?_⟩
 ·rcases k.ownK i hi with h1 | h1
  ·exact h.ownK i h1
  ·exact .inr (by omega)
 ·rcases k.ownL i hi with h1 | h1
  ·exact h.ownL i h1
  ·exact .inr (by omega)
 ·rcases hk with hk | hk
  ·rcases h.ownK i hk with h1 | h1
   ·exact .inl h1
   ·omega
  ·rcases h.ownL i hk with h1 | h1
   ·exact .inr h1
   ·omega
theorem CD.later {L : Loc} {t : St} {w' : World} (h : CD w K L s t) (hb : Below w.heap.size w w') : CD w' K L s t :=
 ⟨h.cache.kept fun k hk => hb.block k (h.cache.lt k hk), h.disk.later hb, h.d, h.apart⟩
theorem CD.disks {L L' : Loc} {t t' : St} {w' : World} (h : CD w K L s t) (hD : DiskAt w' L' t') (hG : Goes w w' L L') : CD w' K L' s t' ∧ GoesC w w' K L K L' := by
 refine ⟨⟨h.cache.fr hG.fr h.apart, hD, h.d.trans hG.d.symm, fun k hk hl => ?_⟩, ⟨rfl, hG.d, fun _ q => .inl q, hG.own, hG.fr.mono fun _ _ q => .inr q⟩⟩
 rcases hG.own k hl with q | q
 ·exact h.apart k hk q
 ·have := h.cache.lt k hk; omega
theorem CD.caches {K' : KLoc} {L : Loc} {t : St} {s' : CSt} {w' : World} (h : CD w K L s t) (hC : CacheAt w' K' s') (hc : K'.c = K.c) (hd : K'.d = K.d) (ho : ∀ k, K'.has k → K.has k ∨ w.heap.size ≤ k) (hf : Fr K.has w w') :
  CD w' K' L s' t ∧ GoesC w w' K L K' L := by
 refine ⟨⟨hC, h.disk.fr hf fun k hk hl => h.apart k hl hk, hd.trans h.d, fun k hk hl => ?_⟩, ⟨hc, rfl, ho, fun _ q => .inl q, hf.mono fun _ _ q => .inl q⟩⟩
 rcases ho k hk with q | q
 ·exact h.apart k q hl
 ·have := h.disk.lt k hl; omega
theorem info73 : ∃ j, Tryz.prog.info? 142 = some j := Option.isSome_iff_exists.1 (by kernel_rfl)
theorem neq30 (w : World) (a : Addr) : (binOp .neq 104 (.pointer (some a)) (.pointer (some a))).run Tryz.prog w = .ok (.bool false) w := by
 obtain ⟨j, hj⟩ := info73
 exact neq_same w a Tryz.underlying104 hj
theorem noneC_no {c : Nat} (c0 : w.cell? ⟨c, 0, none⟩ = some (ptr c)) : Calls Tryz.prog 151 #[ptr c] w fun e w' => e = .returned (.bool false) ∧ w' = w := by
 have hn := neq30
 unfold ptr at *
 go_enter Tryz.func151, Tryz.ntmps151
 go_wp2
 go_ret
 exact ⟨rfl, rfl⟩
theorem CacheAt.size_is (h : CacheAt w K s) : ∃ D, w.ownsMap Tryz.prog 3 valElem K.mb top D ∧ Views D (mapV K.M K.ns) ∧ Maps.size D = s.row.length := by
 obtain ⟨D, h1, h2⟩ := h.map
 exact ⟨D, h1, h2, by rw [h.len]; exact map_size h.posNd h1 h2⟩
theorem refusesC_of {L : Loc} {t : St} (h : CD w K L s t) (k : Int) : Calls Tryz.prog 134 #[ptr K.c, .int .i64 k] w fun e w' => e = .returned (.int .i64 (refV t k)) ∧ w' = w := by
 have h0 := noneC_no h.cache.c0
 have c1 := h.cache.c1
 have hs := stopped_of h.disk
 have hl := len_of h.disk
 rw [h.d] at c1
 clear h
 unfold ptr at *
 unfold refV
 cases hst : t.stopped
 ·rw [hst] at hs
  by_cases h1 : k < 0
  ·rw [if_neg (by simp), if_neg (by omega)]
   go_enter Tryz.func134, Tryz.ntmps134
   go_wp2_with (first | (go_at_call 151; refine h0.mono ?_; rintro e W ⟨rfl, rfl⟩) | (go_at_call 60; refine hs.mono ?_; rintro e W ⟨rfl, rfl⟩) | (go_at_call 102; refine hl.mono ?_; rintro e W ⟨rfl, rfl⟩))
   go_ret
   exact ⟨rfl, rfl⟩
  ·by_cases h2 : t.n ≤ k
   ·rw [if_neg (by simp), if_neg (by omega)]
    go_enter Tryz.func134, Tryz.ntmps134
    go_wp2_with (first | (go_at_call 151; refine h0.mono ?_; rintro e W ⟨rfl, rfl⟩) | (go_at_call 60; refine hs.mono ?_; rintro e W ⟨rfl, rfl⟩) | (go_at_call 102; refine hl.mono ?_; rintro e W ⟨rfl, rfl⟩))
    go_ret
    exact ⟨rfl, rfl⟩
   ·rw [if_neg (by simp), if_pos (by omega)]
    go_enter Tryz.func134, Tryz.ntmps134
    go_wp2_with (first | (go_at_call 151; refine h0.mono ?_; rintro e W ⟨rfl, rfl⟩) | (go_at_call 60; refine hs.mono ?_; rintro e W ⟨rfl, rfl⟩) | (go_at_call 102; refine hl.mono ?_; rintro e W ⟨rfl, rfl⟩))
    go_ret
    exact ⟨rfl, rfl⟩
 ·rw [hst] at hs
  rw [if_pos rfl]
  go_enter Tryz.func134, Tryz.ntmps134
  go_wp2_with (first | (go_at_call 151; refine h0.mono ?_; rintro e W ⟨rfl, rfl⟩) | (go_at_call 60; refine hs.mono ?_; rintro e W ⟨rfl, rfl⟩))
  go_ret
  exact ⟨rfl, rfl⟩
end Go.Proofs.YtichojdcoegboaaGreatW
namespace Go.Proofs.YtichojdcoegboaaGreatW
open Go.RowKit Go.Maps
def nilp : Value := .pointer none
theorem info98 : (Tryz.prog.info? 139).map (fun i => (i.zero, i.size)) = some (some (.agg (rowV 0 false nilp nilp nought)), 1028) := by kernel_rfl
theorem zero98 : ∀ w, (zeroValue 139).run Tryz.prog w = .ok (.agg (rowV 0 false nilp nilp nought)) w := (zero_of_info info98).1
theorem built98 (u : World) : (Instr.build 139 #[]).run Tryz.prog u = .ok (.agg (rowV 0 false nilp nilp nought)) u := by
 have z := zero98
 generalize rowV 0 false nilp nilp nought = Z at *
 simp [Instr.build, z, run_underlying Tryz.underlying139, Instr.fill, Value.cells]
theorem rowV_set0 (k k' : Int) (b : Bool) (p q : Value) (f : Nat → Int) : (rowV k b p q f).setIfInBounds 0 (.int .i64 k') = rowV k' b p q f := by unfold rowV; rw [List.setIfInBounds_toArray]; rfl
theorem rowV_get2 (k : Int) (b : Bool) (p q : Value) (f : Nat → Int) : (rowV k b p q f)[2]? = some p := by
 unfold rowV
 generalize (blk f).toList = l
 rfl
theorem rowV_get3 (k : Int) (b : Bool) (p q : Value) (f : Nat → Int) : (rowV k b p q f)[3]? = some q := by
 unfold rowV
 generalize (blk f).toList = l
 rfl
theorem built98k (k : Int) (u : World) : (Instr.build 139 #[(0, .int .i64 k)]).run Tryz.prog u = .ok (.agg (rowV k false nilp nilp nought)) u := by
 have z := zero98
 have hs := rowV_set0 0 k false nilp nilp nought
 have hz := rowV_size 0 false nilp nilp nought
 have hne : rowV 0 false nilp nilp nought ≠ #[] := fun q => by rw [q] at hz; simp at hz
 generalize rowV 0 false nilp nilp nought = Z at *
 generalize rowV k false nilp nilp nought = Y at *
 simp [Instr.build, z, run_underlying Tryz.underlying139, Instr.fill, Value.cells, hs, hne]
section
variable {ops : Array Oper} {rest : List Oper} {o : Oper} {a : Act} {w : World} {Q : Exit → Act → World → Prop}
theorem wpList_build98 (hgd : o.guard = none) (ho : o.op = .build 139 #[]) {Z : Array Value}
  (hb : ∀ u, (Instr.build 139 #[]).run Tryz.prog u = .ok (.agg Z) u) (h : wpList Tryz.prog ops Q rest (a.put o.dst (.agg Z)) w) : wpList Tryz.prog ops Q (o :: rest) a w :=
 wpList_plain hgd fun _ hK => by
  have e : (execOp a.eval o).run Tryz.prog w = .ok (.value (.agg Z)) w := by
   unfold execOp
   simp only [ho, Array.map_empty, Sem.run_bind]
   simp only [hb, Result.andThen_ok, Sem.run_pure]
  unfold Oper.wp
  rw [e]
  exact hK _ _ h
theorem wpList_build98k (hgd : o.guard = none) (x : Operand) (ho : o.op = .build 139 #[(0, x)]) (k : Int) (hx : a.eval x = .int .i64 k) {Z : Array Value}
  (hb : ∀ u, (Instr.build 139 #[(0, .int .i64 k)]).run Tryz.prog u = .ok (.agg Z) u) (h : wpList Tryz.prog ops Q rest (a.put o.dst (.agg Z)) w) : wpList Tryz.prog ops Q (o :: rest) a w :=
 wpList_plain hgd fun _ hK => by
  have e : (execOp a.eval o).run Tryz.prog w = .ok (.value (.agg Z)) w := by simp [execOp, ho, hx, hb]
  unfold Oper.wp
  rw [e]
  exact hK _ _ h
end
variable {w : World} {L : Loc} {t : St}
def newK (w : World) (d : Nat) : KLoc := ⟨w.heap.size + 2, d, w.heap.size, w.heap.size + 1, [], fun _ => ⟨0, false, w.heap.size, w.heap.size, nought⟩⟩
def newC (size : Int) : CSt := ⟨size, []⟩
theorem newC_at {size : Int} (hs : 1 ≤ size ∧ size ≤ 4096) {Z : Array Value} (hZ : Z = rowV 0 false (ptr w.heap.size) (ptr w.heap.size) nought) :
  CacheAt (((w.alloc (.cells Z 139)).alloc (.map #[] 0)).alloc (.cells #[ptr (w.heap.size + 2), ptr L.d, .int .i64 size, .map (some (w.heap.size + 1)), ptr w.heap.size, .int .i64 0] 142)) (newK w L.d) (newC size) := by
 subst hZ
 have h1 := heap_alloc_new w (.cells (rowV 0 false (ptr w.heap.size) (ptr w.heap.size) nought) 139)
 have h2 := heap_alloc_new ((w.alloc (.cells (rowV 0 false (ptr w.heap.size) (ptr w.heap.size) nought) 139)).alloc (.map #[] 0)) (.cells #[ptr (w.heap.size + 2), ptr L.d, .int .i64 size, .map (some (w.heap.size + 1)), ptr w.heap.size, .int .i64 0] 142)
 have hm := MapIs.made (P := Tryz.prog) (k := 3) (w.alloc (.cells (rowV 0 false (ptr w.heap.size) (ptr w.heap.size) nought) 139))
 have e1 : ∀ (u : World) (x : Obj), (u.alloc x).heap.size = u.heap.size + 1 := fun u x => by simp
 rw [e1, e1] at h2
 rw [e1] at hm
 refine ⟨h2, ?_, ?_, ⟨rfl, rfl⟩, by simp [newK], rfl, ⟨hs, by simp [newC]; omega, by simp [newC], by simp [newC]⟩⟩
 ·exact hm.kept ((below_new _ _).block _ (by simp))
 ·rintro g (rfl | hg)
  ·exact heap_kept (heap_kept h1 (below_new _ _)) (below_new _ _)
  ·simp [newK] at hg
set_option maxHeartbeats 1000000 in
theorem newC_ok (hD : DiskAt w L t) {size : Int} (hs : 1 ≤ size ∧ size ≤ 4096) :
  Calls Tryz.prog 70 #[ptr L.d, .int .i64 size] w fun e w' => e = .returned (.tuple #[ptr (newK w L.d).c, .int .i64 0]) ∧ CacheAt w' (newK w L.d) (newC size) ∧ Below w.heap.size w w' := by
 have hl := len_of hD
 have hn := hD.ok.n
 have hb := built98
 have hmm := @run_makeMap Tryz.prog
 have hz0 : ¬ t.n = 0 := by omega
 have s2 := rowV_set2 0 false nilp nilp (ptr w.heap.size) nought
 have s3 := rowV_set3 0 false (ptr w.heap.size) nilp (ptr w.heap.size) nought
 have g2 := rowV_get2 0 false nilp nilp nought
 have g3 := rowV_get3 0 false (ptr w.heap.size) nilp nought
 have HA : Hid (∀ Z, Z = rowV 0 false (ptr w.heap.size) (ptr w.heap.size) nought → CacheAt (((w.alloc (.cells Z 139)).alloc (.map #[] 0)).alloc (.cells #[ptr (w.heap.size + 2), ptr L.d, .int .i64 size, .map (some (w.heap.size + 1)), ptr w.heap.size, .int .i64 0] 142)) (newK w L.d) (newC size)) := fun Z hZ => newC_at hs hZ
 clear hD
 generalize h0 : rowV 0 false nilp nilp nought = Z at *
 generalize h1 : rowV 0 false (ptr w.heap.size) nilp nought = Z1 at *
 generalize h2 : rowV 0 false (ptr w.heap.size) (ptr w.heap.size) nought = Z2 at *
 have HZ := HA.out Z2 rfl
 have HB : Hid (CacheAt _ _ _) := HZ
 clear HZ HA h0 h1 h2
 unfold ptr nilp at *
 go_enter Tryz.func70, Tryz.ntmps70
 go_wp2_with (first | (go_at_call 102; refine hl.mono ?_; rintro e W ⟨rfl, rfl⟩) | refine wpList_build98 rfl rfl hb ?_)
 go_ret2
 refine ⟨rfl, HB.out, ?_⟩
 exact (((Below.refl _ _).alloc (Nat.le_refl _) _).alloc (by simp) _).alloc (by simp; omega) _
end Go.Proofs.YtichojdcoegboaaGreatW
