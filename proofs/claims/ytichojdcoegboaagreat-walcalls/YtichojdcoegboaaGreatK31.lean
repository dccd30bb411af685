/- Decode of the document: the header that a block says, or none; for every layout and every block. -/
import Derived.Test.YtichojdcoegboaaGreatK28
namespace Go.Proofs.YtichojdcoegboaaGreatW.H
open Go.RowKit
section
variable {ops : Array Oper} {o : Oper} {a : Act} {w : World} {Q : Exit → Act → World → Prop}
theorem act_push {S : World → Prop} {K : Act → World → Prop} {W : World} (hw : Region.wanted o (yielded ops a.tmps) = true) (s x : Operand)
  (ho : o.op = .call { callee := .builtin .append, args := #[s, x], argTypes := #[90, 90] }) (base : Nat) (v : Value) (xs : List Int) (y : Int) (hs : a.eval s = v)
  (hx : a.eval x = .slice (some ⟨W.heap.size, 0, none⟩) 1 1) (hown : OwnZ W base v xs) (hn : 8 * (xs.length + 1) ≤ 140737488355328) (hbase : base ≤ W.heap.size)
  (h : ∀ v' w', OwnZ w' base v' (xs ++ [y]) → Below base W w' → S w' ∧ K (a.put o.dst v') w') : wpAct Tryz.prog ops Q S o K a (W.alloc (.cells #[.int .i64 y] 3)) := by
 obtain ⟨i0, hi0, hz0, hz1, hz2⟩ := info_parts info3
 unfold wpAct
 rw [if_pos hw]
 refine wp_append_own _ s x 90 ho base 3 i0 (.int .i64 0) 1 8 Tryz.underlying90 hi0 hz0 hz1 hz2 rfl (by decide) v xs.length (xs.map (Value.int .i64)) hs (World.ownsRow.alloc hown _) ⟨W.heap.size, 0, none⟩ 1 1 [.int .i64 y] hx rfl (cell_one_new _ _ _)
  (fun u hu => by simp at hu; subst hu; rfl) (by unfold maxLen; omega) (by omega) (by simp; omega) ?_
 intro v' w' hown' hg _
 refine h v' w' ?_ (((Below.refl _ _).alloc hbase _).grown hg (by simp; omega) fun k hk => (World.ownsRow.lt hown k hk).1)
 unfold OwnZ
 rw [List.length_append, List.map_append]
 exact hown'
theorem exec_store24 {x y : Operand} (ho : o.op = .store 90 x y) (g : Nat) (p : Option Addr) (n c : Nat) (v0 : Value) (hx : a.eval x = .pointer (some ⟨g, 0, none⟩)) (hy : a.eval y = .slice p n c) (hg : w.heap[g]? = some (.cells #[v0] 129)) :
  (execOp a.eval o).run Tryz.prog w = .ok .skip (w.setCell ⟨g, 0, none⟩ (.slice p n c)) := by
 have hc := cell_one hg
 have hf := frozen_row hg 0
 unfold execOp
 simp only [ho, hx, hy]
 simp [go_sem, hc, hf]
theorem exec_load24 {x : Operand} (ho : o.op = .load 90 x) (g : Nat) (v : Value) (hx : a.eval x = .pointer (some ⟨g, 0, none⟩)) (hc : w.cell? ⟨g, 0, none⟩ = some v) :
  (execOp a.eval o).run Tryz.prog w = .ok (.value v) w := by
 unfold execOp
 simp only [ho, hx]
 simp [go_sem, hc]
theorem exec_build24 {x : Operand} (ho : o.op = .buildSlice 90 1 #[(0, x)]) (y : Int) (hx : a.eval x = .int .i64 y) :
  (execOp a.eval o).run Tryz.prog w = .ok (.value (.slice (some ⟨w.heap.size, 0, none⟩) 1 1)) (w.alloc (.cells #[.int .i64 y] 3)) := by
 unfold execOp
 simp only [ho, List.map_toArray, List.map_cons, List.map_nil, hx]
 simp [go_sem]
end
theorem own_setCell {w : World} {B g : Nat} {v u : Value} {zs : List Int} (h : OwnZ w B v zs) (hg : g < B) : OwnZ (w.setCell ⟨g, 0, none⟩ u) B v zs := by
 refine ⟨h.1, ?_⟩
 rcases h.2 with hn | ⟨g', cap, cur, rfl, hB, hh, rest⟩
 ·exact .inl hn
 ·exact .inr ⟨g', cap, cur, rfl, hB, (heap_setCell_other _ _ _ _ (by show g' ≠ g; omega)).trans hh, rest⟩
theorem cell_setRow_ne (w : World) (g b o : Nat) (cs : Array Value) (h : b ≠ g) : (w.setRow g cs).cell? ⟨b, o, none⟩ = w.cell? ⟨b, o, none⟩ := by
 simp [World.cell?, setRow_other w g b cs h]
theorem ints_setNe {W : World} {p : Option Addr} {T : List Int} {g : Nat} {cs : Array Value} (h : IntsAt W p T) (hg : ∀ b off, p = some ⟨b, off, none⟩ → b ≠ g) : IntsAt (W.setRow g cs) p T := fun h0 => by
 obtain ⟨b, off, h1, h2, h3⟩ := h h0
 exact ⟨b, off, h1, by simp [World.setRow]; exact h2, fun j x hx => by rw [cell_setRow_ne _ _ _ _ _ (hg b off h1)]; exact h3 j x hx⟩
set_option maxRecDepth 20000 in
set_option maxHeartbeats 400000 in
theorem refDec_more (b l i a c d e f g : Int) (F : Nat → Int) (w : World) (hs : standsB b l i a c d e f g = true) (hl : 32 ≤ l ∧ l ≤ 256) (hF : ∀ i, 0 ≤ F i ∧ F i ≤ 255) (hn : l - 1 < numN F 0 4) :
  Calls Tryz.prog 113 #[.agg (lay9 b l i a c d e f g), .agg (blk F)] w fun e' w' => e' = .returned (.tuple #[.agg #[.slice none 0 0], .int .i64 4]) ∧ Below w.heap.size w w' := by
 have hc := fun w => fits3_any b l i a c d e f g w
 rw [hs] at hc
 have hbd := numN_bd F hF 4 0
 have hU := fun w => refU32_any F 0 w hF
 rw [show num F 0 4 = numN F 0 4 from num_in F 0 4 (by omega)] at hU
 have HL1 : Hid ((lay9 b l i a c d e f g)[1]? = some (.int .i64 l)) := rfl
 clear hs hF
 have hsz : (lay9 b l i a c d e f g).size = 9 := rfl
 generalize lay9 b l i a c d e f g = L at *
 generalize numN F 0 4 = n at *
 have hn4 : n < 4294967296 := hbd.2
 have hwn : IntKind.i64.wrap n = n := by rw [IntKind.wrap_i64]; omega
 have hwl : IntKind.i64.wrap (l - 1) = l - 1 := by rw [IntKind.wrap_i64]; omega
 have g0 : decide (l - 1 < n) = true := decide_eq_true hn
 clear hbd
 go_enter Tryz.func113, Tryz.ntmps113
 go_wp2_with (first | refine wpList_loadL rfl _ rfl _ rfl _ hsz (heap3o _ _ _ _) ?_ | (go_at_call 138; fail))
 refine (hc _).mono ?_
 rintro e' W1 ⟨rfl, hb1⟩
 have h0 := heap_kept (heap3o w _ _ _) hb1
 have h1 := heap_kept (heap3 w _ _ _) hb1
 have h2 := heap_kept (heap3n w _ _ _) hb1
 have HB : Hid (Below w.heap.size w W1) := below_next (below3 _ _ _ _) hb1
 clear hb1 hc
 go_wp2_with (first | refine wpList_load25 rfl _ rfl _ rfl _ h1 ?_ | (go_at_call 142; fail))
 refine (hU _).mono ?_
 rintro e' W2 ⟨rfl, hb2⟩
 have h3 := heap_kept h2 hb2
 have h4 := heap_kept h0 hb2
 have h4b := heap_kept h1 hb2
 have HB2 : Hid (Below w.heap.size w W2) := below_next HB.out hb2
 have hcl : W2.cell? ⟨w.heap.size, 1, none⟩ = some (.int .i64 l) := by rw [cell_of_row _ _ _ _ 59 _ h4]; exact HL1.out
 clear hb2 hU h0 h1 h2 HB
 go_wp2_with (first | refine wpList_store35H rfl _ _ rfl _ _ _ rfl rfl rfl h3 ?_)
 refine retCT rfl (w.heap.size + 2) _ rfl (load35H _ _ _ (setRow_heap _ _ _ _ _ _ h3)) rfl ⟨rfl, below_setRow HB2.out (by omega) _⟩
def decPost (res : Bool) (T : List Int) (n : Nat) (w : World) (e' : Ending) (w' : World) : Prop :=
 ∃ p c, e' = .returned (.tuple #[.agg #[.slice p (if res = true then n else 0) c], .int .i64 (if res = true then 0 else 4)]) ∧ (res = true → IntsAt w' p T) ∧ (∀ b off, p = some ⟨b, off, none⟩ → w.heap.size ≤ b) ∧ Below w.heap.size w w'
set_option maxRecDepth 20000 in
set_option maxHeartbeats 4000000 in
theorem refDec_in (b l i a c d e f g : Int) (F : Nat → Int) (n : Nat) (w : World) (hs : standsB b l i a c d e f g = true) (hl : 32 ≤ l ∧ l ≤ 256) (hF : ∀ i, 0 ≤ F i ∧ F i ≤ 255) (hN : numN F 0 4 = n) (hn : (n : Int) ≤ l - 1) :
  Calls Tryz.prog 113 #[.agg (lay9 b l i a c d e f g), .agg (blk F)] w fun e' w' => decPost (mayB (1 + l) b (l - 1) (tgts F n)) (tgts F n) n w e' w' := by
 have hc := fun w => fits3_any b l i a c d e f g w
 rw [hs] at hc
 have hU := fun w => refU32_any F 0 w hF
 rw [show num F 0 4 = numN F 0 4 from num_in F 0 4 (by omega), hN] at hU
 have HA : Hid (∀ W (p : Option Addr) c', IntsAt W p (tgts F n) → Calls Tryz.prog 139 #[.agg (lay9 b l i a c d e f g), .agg #[.slice p n c']] W fun e' w' => e' = .returned (.bool (mayB (1 + l) b (l - 1) (tgts F n))) ∧ Below W.heap.size W w') := fun W p c' h => by
  have := refMay_any b l i a c d e f g (tgts F n) p c' W hl (by rw [tgts_len]; omega) h
  rwa [tgts_len] at this
 have HL1 : Hid ((lay9 b l i a c d e f g)[1]? = some (.int .i64 l)) := rfl
 have HF : Hid (∀ i, 0 ≤ F i ∧ F i ≤ 255) := hF
 clear hs hF hN
 have hsz : (lay9 b l i a c d e f g).size = 9 := rfl
 generalize hres : mayB (1 + l) b (l - 1) (tgts F n) = res at *
 clear hres
 generalize lay9 b l i a c d e f g = L at *
 have hwn : IntKind.i64.wrap (n : Int) = n := by rw [IntKind.wrap_i64]; omega
 have hwl : IntKind.i64.wrap (l - 1) = l - 1 := by rw [IntKind.wrap_i64]; omega
 have g0 : decide (l - 1 < (n : Int)) = false := decide_eq_false (by omega)
 go_enter Tryz.func113, Tryz.ntmps113
 go_wp2_with (first | refine wpList_loadL rfl _ rfl _ rfl _ hsz (heap3o _ _ _ _) ?_ | (go_at_call 138; fail))
 refine (hc _).mono ?_
 rintro e' W1 ⟨rfl, hb1⟩
 have h0 := heap_kept (heap3o w _ _ _) hb1
 have h1 := heap_kept (heap3 w _ _ _) hb1
 have h2 := heap_kept (heap3n w _ _ _) hb1
 have HB : Hid (Below w.heap.size w W1) := below_next (below3 _ _ _ _) hb1
 clear hb1 hc
 go_wp2_with (first | refine wpList_load25 rfl _ rfl _ rfl _ h1 ?_ | (go_at_call 142; fail))
 refine (hU _).mono ?_
 rintro e' W2 ⟨rfl, hb2⟩
 have h3 := heap_kept h2 hb2
 have h4 := heap_kept h0 hb2
 have h4b := heap_kept h1 hb2
 have HB2 : Hid (Below w.heap.size w W2) := below_next HB.out hb2
 have hcl : W2.cell? ⟨w.heap.size, 1, none⟩ = some (.int .i64 l) := by rw [cell_of_row _ _ _ _ 59 _ h4]; exact HL1.out
 clear hb2 hU h0 h1 h2 HB
 go_wp2
 have HX : Hid ((W2.alloc (.cells #[.slice none 0 0] 129)).heap[W2.heap.size]? = some (.cells #[.slice none 0 0] 129)) := heap_alloc_new _ _
 have hg2 : w.heap.size + 2 < W2.heap.size := (Array.getElem?_eq_some_iff.1 h3).1
 go_loopw [8] (fun s8 wx => ∃ (k : Nat) (p : Option Addr) (c : Nat), k ≤ n ∧ s8 = .int .i64 k ∧ Hid (wx.heap[W2.heap.size]? = some (.cells #[.slice p k c] 129)) ∧ Hid (OwnZ wx (W2.heap.size + 1) (.slice p k c) ((tgts F n).take k)) ∧ Hid (Below W2.heap.size W2 wx)) (fun s8 _ => n - (intOf s8).toNat)
 case atStart => exact ⟨0, none, 0, by omega, rfl, HX.out, OwnZ.nil _ _, below_new _ _⟩
 case round =>
  obtain ⟨k, p, cp, hk, rfl, HH, HO, HW⟩ := hrel
  clear HX
  by_cases hk2 : (k : Int) < n
  ·have hx : (tgts F n)[k]? = some (numN F (4 * (k + 1)) 4) := tgts_get F n k (by omega)
   have htk : (tgts F n).take (k + 1) = (tgts F n).take k ++ [numN F (4 * (k + 1)) 4] := by rw [List.take_add_one, hx]; rfl
   have hlk : ((tgts F n).take k).length = k := by rw [List.length_take, tgts_len]; omega
   have hbd := numN_bd F HF.out 4 (4 * (k + 1))
   have hcall := fun u => refU32_any F (4 * ((k : Int) + 1)) u HF.out
   rw [show num F (4 * ((k : Int) + 1)) 4 = numN F (4 * (k + 1)) 4 by rw [show 4 * ((k : Int) + 1) = ((4 * (k + 1) : Nat) : Int) by omega, num_in _ _ _ (by omega)]] at hcall
   generalize numN F (4 * (k + 1)) 4 = x at *
   have hx1 : x < 4294967296 := hbd.2
   have hx0 : 0 ≤ x := hbd.1
   have hwx : IntKind.i64.wrap x = x := by rw [IntKind.wrap_i64]; omega
   have hw1 : IntKind.i64.wrap ((k : Int) + 1) = (k : Int) + 1 := by rw [IntKind.wrap_i64]; omega
   have hw4 : IntKind.i64.wrap (4 * ((k : Int) + 1)) = 4 * ((k : Int) + 1) := by rw [IntKind.wrap_i64]; omega
   have HC : Hid (∀ u, Calls Tryz.prog 142 #[.agg (blk F), .int .i64 (4 * ((k : Int) + 1))] u fun e' u' => e' = .returned (.int .u32 x) ∧ Below u.heap.size u u') := hcall
   have HTK : Hid ((tgts F n).take (k + 1) = (tgts F n).take k ++ [x]) := htk
   have hFr : wr.heap[w.heap.size + 1]? = some (.cells (blk F) 64) := heap_kept h4b HW.out
   have hgs : W2.heap.size + 1 ≤ wr.heap.size := (Array.getElem?_eq_some_iff.1 HH.out).1
   clear hcall htk hx hbd
   go_wp2
   have hFd : wr.drew.heap[w.heap.size + 1]? = some (.cells (blk F) 64) := hFr
   have hHd : wr.drew.heap[W2.heap.size]? = some (.cells #[.slice p k cp] 129) := HH.out
   have hOd : OwnZ wr.drew (W2.heap.size + 1) (.slice p k cp) ((tgts F n).take k) := HO.out.later (drew_below wr)
   have hWd : Below W2.heap.size W2 wr.drew := HW.out.drew
   have hgd : W2.heap.size + 1 ≤ wr.drew.heap.size := hgs
   refine wp_region_plan (S := fun u => u.heap[w.heap.size + 1]? = some (.cells (blk F) 64)) 12 [.inl 0, .inl 2, .inl 3, .inl 4, .inl 5, .inr (.inr (1, 6, 6)), .inr (.inl 6), .inl 7, .inr (.inl 8), .inr (.inl 9), .inl 10, .inr (.inl 11), .inl 7, .inr (.inr (1, 8, 4)), .inr (.inl 8), .inr (.inl 9), .inl 10, .inr (.inl 11), .inr (.inl 1), .inr (.inl 9), .inl 10, .inr (.inl 11)] (by kernel_rfl) rfl (by kernel_rfl) (fun d _ _ _ _ h => by cases d <;> exact h) hFd ?_
   refine wpPl_yield (v := .pointer (some ⟨W2.heap.size, 0, none⟩)) rfl rfl (fun u _ => by go_simp) ?_
   simp only [Act.put, pA, pB, pC]
   refine wpPl_yield (v := .agg (blk F)) rfl rfl (fun u hu => by exact exec_loadB rfl _ F rfl hu) ?_
   simp only [Act.put, pA, pB, pC]
   refine wpPl_yield (v := .int .i64 (k : Int)) rfl rfl (fun u _ => by simp [execOp, Act.eval]) ?_
   simp only [Act.put, pA, pB, pC]
   refine wpPl_yield (v := .int .i64 ((k : Int) + 1)) rfl rfl (fun u _ => by go_simp) ?_
   simp only [Act.put, pA, pB, pC]
   refine wpPl_yield (v := .int .i64 (4 * ((k : Int) + 1))) rfl rfl (fun u _ => by go_simp) ?_
   simp only [Act.put, pA, pB, pC]
   clear HH HO HW hFr hgs
   generalize wr.drew = V at *
   refine wpPl_two (r1 := [.inr (.inl 6), .inl 7, .inr (.inl 8), .inr (.inl 9), .inl 10, .inr (.inl 11)]) (r2 := [.inl 7, .inr (.inr (1, 8, 4)), .inr (.inl 8), .inr (.inl 9), .inl 10, .inr (.inl 11), .inr (.inl 1), .inr (.inl 9), .inl 10, .inr (.inl 11)]) rfl rfl ?_ ?_ rfl rfl
   ·refine act_makes rfl (exec_load24 rfl _ _ rfl (cell_one hHd)) hFd ?_
    simp only [Act.put, pA, pB, pC]
    refine wpPl_act rfl ?_
    refine act_call rfl 142 _ _ rfl Tryz.call142 [.agg (blk F), .int .i64 (4 * ((k : Int) + 1))] rfl ?_
    refine (HC.out _).mono ?_
    rintro e' X ⟨rfl, hbx⟩
    have hFx := heap_kept hFd hbx
    have hHx := heap_kept hHd hbx
    have hOx := hOd.later hbx
    have hWx := hWd.trans (hbx.mono (Nat.le_trans (Nat.le_succ _) hgd))
    have hgx : W2.heap.size + 1 ≤ X.heap.size := Nat.le_trans hgd hbx.size
    refine ⟨_, rfl, hFx, ?_⟩
    simp only [Act.put, pA, pB, pC]
    refine wpPl_yield (v := .int .i64 x) rfl rfl (fun u _ => by go_simp) ?_
    simp only [Act.put, pA, pB, pC]
    refine wpPl_act rfl (act_makes rfl (exec_build24 rfl x rfl) (heap_kept hFx (below_new _ _)) ?_)
    simp only [Act.put, pA, pB, pC]
    refine wpPl_act rfl (act_push rfl (.tmp 29) (.tmp 36) rfl (W2.heap.size + 1) (.slice p k cp) ((tgts F n).take k) x rfl rfl hOx (by rw [hlk]; omega) hgx ?_)
    intro v' Y hOy hby
    have hFy := (hby.block (w.heap.size + 1) (by omega)).trans hFx
    have hHy := (hby.block W2.heap.size (Nat.lt_succ_self _)).trans hHx
    obtain ⟨p', c', rfl, _, _, _⟩ := hOy.ints
    have hl1 : ((tgts F n).take k ++ [x]).length = k + 1 := by rw [List.length_append, hlk]; rfl
    rw [← HTK.out] at hOy hl1
    have HOy : Hid (OwnZ Y (W2.heap.size + 1) (.slice p' (k + 1) c') ((tgts F n).take (k + 1))) := by
     have q := hOy
     rw [hl1] at q
     exact q
    rw [← HTK.out, hl1]
    refine ⟨hFy, ?_⟩
    simp only [Act.put, pA, pB, pC]
    refine wpPl_yield (v := .pointer (some ⟨W2.heap.size, 0, none⟩)) rfl rfl (fun u _ => by go_simp) ?_
    simp only [Act.put, pA, pB, pC]
    have hFz : (Y.setCell ⟨W2.heap.size, 0, none⟩ (.slice p' (k + 1) c')).heap[w.heap.size + 1]? = some (.cells (blk F) 64) := (heap_setCell_other _ _ _ _ (by show w.heap.size + 1 ≠ W2.heap.size; omega)).trans hFy
    refine wpPl_act rfl (act_done rfl (exec_store24 rfl _ p' (k + 1) c' _ rfl rfl hHy) hFz ?_)
    simp only [Act.put]
    refine wpPl_done ?_
    have hHz : (Y.setCell ⟨W2.heap.size, 0, none⟩ (.slice p' (k + 1) c')).heap[W2.heap.size]? = some (.cells #[.slice p' (k + 1) c'] 129) := heap_setCell_same _ _ _ _ _ _ hHy
    have HOz : Hid (OwnZ (Y.setCell ⟨W2.heap.size, 0, none⟩ (.slice p' (k + 1) c')) (W2.heap.size + 1) (.slice p' (k + 1) c') ((tgts F n).take (k + 1))) := own_setCell HOy.out (Nat.lt_succ_self _)
    have HWz : Hid (Below W2.heap.size W2 (Y.setCell ⟨W2.heap.size, 0, none⟩ (.slice p' (k + 1) c'))) := (hWx.trans (hby.mono (Nat.le_succ _))).setCell (p := ⟨W2.heap.size, 0, none⟩) (Nat.le_refl _) _
    generalize Y.setCell ⟨W2.heap.size, 0, none⟩ (.slice p' (k + 1) c') = Z at hHz HOz HWz ⊢
    clear hFz hFy hHy hOy hby HOy hFx hHx hOx hWx hgx hbx HC HTK
    go_wp2
    exact ⟨⟨k + 1, p', c', by omega, by go_num, hHz, HOz.out, HWz.out⟩, by simp [intOf]; omega⟩
   ·refine act_call rfl 142 _ _ rfl Tryz.call142 [.agg (blk F), .int .i64 (4 * ((k : Int) + 1))] rfl ?_
    refine (HC.out _).mono ?_
    rintro e' X ⟨rfl, hbx⟩
    have hFx := heap_kept hFd hbx
    have hHx := heap_kept hHd hbx
    have hOx := hOd.later hbx
    have hWx := hWd.trans (hbx.mono (Nat.le_trans (Nat.le_succ _) hgd))
    have hgx : W2.heap.size + 1 ≤ X.heap.size := Nat.le_trans hgd hbx.size
    refine ⟨_, rfl, hFx, ?_⟩
    simp only [Act.put, pA, pB, pC]
    refine wpPl_yield (v := .int .i64 x) rfl rfl (fun u _ => by go_simp) ?_
    simp only [Act.put, pA, pB, pC]
    refine wpPl_two (r1 := [.inr (.inl 8), .inr (.inl 9), .inl 10, .inr (.inl 11)]) (r2 := [.inr (.inl 1), .inr (.inl 9), .inl 10, .inr (.inl 11)]) rfl rfl ?_ ?_ rfl rfl
    ·refine act_makes rfl (exec_load24 rfl _ _ rfl (cell_one hHx)) hFx ?_
     simp only [Act.put, pA, pB, pC]
     refine wpPl_act rfl (act_makes rfl (exec_build24 rfl x rfl) (heap_kept hFx (below_new _ _)) ?_)
     simp only [Act.put, pA, pB, pC]
     refine wpPl_act rfl (act_push rfl (.tmp 29) (.tmp 36) rfl (W2.heap.size + 1) (.slice p k cp) ((tgts F n).take k) x rfl rfl hOx (by rw [hlk]; omega) hgx ?_)
     intro v' Y hOy hby
     have hFy := (hby.block (w.heap.size + 1) (by omega)).trans hFx
     have hHy := (hby.block W2.heap.size (Nat.lt_succ_self _)).trans hHx
     obtain ⟨p', c', rfl, _, _, _⟩ := hOy.ints
     have hl1 : ((tgts F n).take k ++ [x]).length = k + 1 := by rw [List.length_append, hlk]; rfl
     rw [← HTK.out] at hOy hl1
     have HOy : Hid (OwnZ Y (W2.heap.size + 1) (.slice p' (k + 1) c') ((tgts F n).take (k + 1))) := by
      have q := hOy
      rw [hl1] at q
      exact q
     rw [← HTK.out, hl1]
     refine ⟨hFy, ?_⟩
     simp only [Act.put, pA, pB, pC]
     refine wpPl_yield (v := .pointer (some ⟨W2.heap.size, 0, none⟩)) rfl rfl (fun u _ => by go_simp) ?_
     simp only [Act.put, pA, pB, pC]
     have hFz : (Y.setCell ⟨W2.heap.size, 0, none⟩ (.slice p' (k + 1) c')).heap[w.heap.size + 1]? = some (.cells (blk F) 64) := (heap_setCell_other _ _ _ _ (by show w.heap.size + 1 ≠ W2.heap.size; omega)).trans hFy
     refine wpPl_act rfl (act_done rfl (exec_store24 rfl _ p' (k + 1) c' _ rfl rfl hHy) hFz ?_)
     simp only [Act.put]
     refine wpPl_done ?_
     have hHz : (Y.setCell ⟨W2.heap.size, 0, none⟩ (.slice p' (k + 1) c')).heap[W2.heap.size]? = some (.cells #[.slice p' (k + 1) c'] 129) := heap_setCell_same _ _ _ _ _ _ hHy
     have HOz : Hid (OwnZ (Y.setCell ⟨W2.heap.size, 0, none⟩ (.slice p' (k + 1) c')) (W2.heap.size + 1) (.slice p' (k + 1) c') ((tgts F n).take (k + 1))) := own_setCell HOy.out (Nat.lt_succ_self _)
     have HWz : Hid (Below W2.heap.size W2 (Y.setCell ⟨W2.heap.size, 0, none⟩ (.slice p' (k + 1) c'))) := (hWx.trans (hby.mono (Nat.le_succ _))).setCell (p := ⟨W2.heap.size, 0, none⟩) (Nat.le_refl _) _
     generalize Y.setCell ⟨W2.heap.size, 0, none⟩ (.slice p' (k + 1) c') = Z at hHz HOz HWz ⊢
     clear hFz hFy hHy hOy hby HOy hFx hHx hOx hWx hgx hbx HC HTK
     go_wp2
     exact ⟨⟨k + 1, p', c', by omega, by go_num, hHz, HOz.out, HWz.out⟩, by simp [intOf]; omega⟩
    ·refine act_makes rfl (exec_build24 rfl x rfl) (heap_kept hFx (below_new _ _)) ?_
     simp only [Act.put, pA, pB, pC]
     refine wpPl_act rfl (act_makes rfl (exec_load24 rfl _ _ rfl (cell_one (heap_kept hHx (below_new _ _)))) (heap_kept hFx (below_new _ _)) ?_)
     simp only [Act.put, pA, pB, pC]
     refine wpPl_act rfl (act_push rfl (.tmp 29) (.tmp 36) rfl (W2.heap.size + 1) (.slice p k cp) ((tgts F n).take k) x rfl rfl hOx (by rw [hlk]; omega) hgx ?_)
     intro v' Y hOy hby
     have hFy := (hby.block (w.heap.size + 1) (by omega)).trans hFx
     have hHy := (hby.block W2.heap.size (Nat.lt_succ_self _)).trans hHx
     obtain ⟨p', c', rfl, _, _, _⟩ := hOy.ints
     have hl1 : ((tgts F n).take k ++ [x]).length = k + 1 := by rw [List.length_append, hlk]; rfl
     rw [← HTK.out] at hOy hl1
     have HOy : Hid (OwnZ Y (W2.heap.size + 1) (.slice p' (k + 1) c') ((tgts F n).take (k + 1))) := by
      have q := hOy
      rw [hl1] at q
      exact q
     rw [← HTK.out, hl1]
     refine ⟨hFy, ?_⟩
     simp only [Act.put, pA, pB, pC]
     refine wpPl_yield (v := .pointer (some ⟨W2.heap.size, 0, none⟩)) rfl rfl (fun u _ => by go_simp) ?_
     simp only [Act.put, pA, pB, pC]
     have hFz : (Y.setCell ⟨W2.heap.size, 0, none⟩ (.slice p' (k + 1) c')).heap[w.heap.size + 1]? = some (.cells (blk F) 64) := (heap_setCell_other _ _ _ _ (by show w.heap.size + 1 ≠ W2.heap.size; omega)).trans hFy
     refine wpPl_act rfl (act_done rfl (exec_store24 rfl _ p' (k + 1) c' _ rfl rfl hHy) hFz ?_)
     simp only [Act.put]
     refine wpPl_done ?_
     have hHz : (Y.setCell ⟨W2.heap.size, 0, none⟩ (.slice p' (k + 1) c')).heap[W2.heap.size]? = some (.cells #[.slice p' (k + 1) c'] 129) := heap_setCell_same _ _ _ _ _ _ hHy
     have HOz : Hid (OwnZ (Y.setCell ⟨W2.heap.size, 0, none⟩ (.slice p' (k + 1) c')) (W2.heap.size + 1) (.slice p' (k + 1) c') ((tgts F n).take (k + 1))) := own_setCell HOy.out (Nat.lt_succ_self _)
     have HWz : Hid (Below W2.heap.size W2 (Y.setCell ⟨W2.heap.size, 0, none⟩ (.slice p' (k + 1) c'))) := (hWx.trans (hby.mono (Nat.le_succ _))).setCell (p := ⟨W2.heap.size, 0, none⟩) (Nat.le_refl _) _
     generalize Y.setCell ⟨W2.heap.size, 0, none⟩ (.slice p' (k + 1) c') = Z at hHz HOz HWz ⊢
     clear hFz hFy hHy hOy hby HOy hFx hHx hOx hWx hgx hbx HC HTK
     go_wp2
     exact ⟨⟨k + 1, p', c', by omega, by go_num, hHz, HOz.out, HWz.out⟩, by simp [intOf]; omega⟩
  ·obtain rfl : k = n := by omega
   have hTT : (tgts F k).take k = tgts F k := List.take_of_length_le (by rw [tgts_len]; exact Nat.le_refl _)
   have hO := HO.out
   rw [hTT] at hO
   obtain ⟨p0, c0, e0, hI, _, hpb⟩ := hO.ints
   rw [tgts_len] at e0
   injection e0 with e1 e2 e3
   subst e1 e3
   have HI : Hid (IntsAt wr p (tgts F k)) := hI
   have hLr := heap_kept h4 HW.out
   have h3r := heap_kept h3 HW.out
   have hHr := HH.out
   have HBr : Hid (Below w.heap.size w wr) := HB2.out.trans (HW.out.mono HB2.out.size)
   clear hO hI hTT e2 HO HW HH h4 h3 h4b
   go_wp2_with (first | (with_reducible refine isLoad 59 ?_; refine wpList_loadL rfl _ rfl _ rfl _ hsz hLr ?_) | (with_reducible refine isLoad 129 ?_; refine wpList_load35H rfl _ rfl _ rfl _ hHr ?_) | (go_at_call 139; fail))
   refine (HA.out _ _ _ HI.out).mono ?_
   rintro e' W5 ⟨rfl, hb5⟩
   have h35 := heap_kept h3r hb5
   have hH5 := heap_kept hHr hb5
   have HI5 : Hid (IntsAt W5 p (tgts F k)) := HI.out.later hb5
   have HB5 : Hid (Below w.heap.size w W5) := below_next HBr.out hb5
   have hpn : ∀ b' off, p = some ⟨b', off, none⟩ → b' ≠ w.heap.size + 2 := fun b' off q => by have := hpb b' off q; omega
   clear hb5 HA HI hLr h3r hHr HBr
   cases res
   ·go_wp2_with (first | (with_reducible refine isStore 129 ?_; refine wpList_store35H rfl _ _ rfl _ _ _ rfl rfl rfl h35 ?_))
    exact retCT rfl (w.heap.size + 2) _ rfl (load35H _ _ _ (setRow_heap _ _ _ _ _ _ h35)) rfl ⟨none, 0, rfl, fun q => (by cases q), fun _ _ q => (by cases q), below_setRow HB5.out (by omega) _⟩
   ·go_wp2_with (first | (with_reducible refine isLoad 129 ?_; refine wpList_load35H rfl _ rfl _ rfl _ hH5 ?_) | (with_reducible refine isStore 129 ?_; refine wpList_store35H rfl _ _ rfl _ _ _ rfl rfl rfl h35 ?_))
    exact retCT rfl (w.heap.size + 2) _ rfl (load35H _ _ _ (setRow_heap _ _ _ _ _ _ h35)) rfl ⟨p, _, rfl, fun _ => ints_setNe HI5.out hpn, (fun b' off q => by have := hpb b' off q; omega), below_setRow HB5.out (by omega) _⟩
end Go.Proofs.YtichojdcoegboaaGreatW.H
