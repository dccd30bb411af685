/- Several texts joined: the log, its cache and its disk, of the program and of the document; no condition. -/
import Derived.Test.YtichojdcoegboaaGreatK20
import Derived.Test.YtichojdcoegboaaGreatK24
import Derived.Test.YtichojdcoegboaaGreatK10
namespace Go.Proofs.YtichojdcoegboaaGreatW
open Go.RowKit Go.Maps
section
variable {W : World} {v : Value} {e0 : Int}
def RChk (W : World) (v : Value) (e0 : Int) : Prop := ∀ W1, Below W.heap.size W W1 → Calls Tryz.prog 51 #[v] W1 fun e W' => e = .returned (.int .i64 e0) ∧ ∃ m, W' = W1.drewN m
def PChk (W : World) (v : Value) (e0 : Int) : Prop := ∀ W1, Below W.heap.size W W1 → Calls Tryz.prog 50 #[v] W1 fun e W' => e = .returned (.int .i64 e0) ∧ ∃ m, W' = W1.drewN m
theorem below_dn {W W1 : World} (h : Below W.heap.size W W1) (m : Nat) : Below W.heap.size W (W1.drewN m) := H.belowN h m
theorem RChk.now (h : RChk W v e0) : Calls Tryz.prog 51 #[v] W fun e W' => e = .returned (.int .i64 e0) ∧ ∃ m, W' = W.drewN m := h W (Below.refl _ _)
theorem PChk.now (h : PChk W v e0) : Calls Tryz.prog 50 #[v] W fun e W' => e = .returned (.int .i64 e0) ∧ ∃ m, W' = W.drewN m := h W (Below.refl _ _)
theorem RChk.later {W' : World} (h : RChk W v e0) (hb : Below W.heap.size W W') : RChk W' v e0 := fun W1 h1 => h W1 (hb.trans (h1.mono hb.size))
theorem PChk.later {W' : World} (h : PChk W v e0) (hb : Below W.heap.size W W') : PChk W' v e0 := fun W1 h1 => h W1 (hb.trans (h1.mono hb.size))
theorem layZ_new (W : World) : (W.alloc (.cells (H.lay9 0 0 0 0 0 0 0 0 0) 59)).heap[W.heap.size]? = some (.cells (H.lay9 0 0 0 0 0 0 0 0 0) 59) := heap_alloc_new _ _
theorem rref_begin (h : RChk W v e0) (h0 : e0 ≠ 0) (n : Int) : Calls Tryz.prog 34 #[v, .int .i64 n] W fun e W' => e = .returned (.int .i64 e0) ∧ Below W.heap.size W W' := by
 have hc := h.now
 have hn : (e0 != 0) = true := by simpa using h0
 have hz : (e0 == 0) = false := by simpa using h0
 clear h
 go_enter Tryz.func34, Tryz.ntmps34
 go_wp2_with (first | (go_at_call 51; refine hc.mono ?_; rintro e W1 ⟨rfl, m, rfl⟩))
 go_ret
 exact ⟨rfl, below_dn (Below.refl _ _) m⟩
theorem rref_end (h : RChk W v e0) (h0 : e0 ≠ 0) : Calls Tryz.prog 35 #[v] W fun e W' => e = .returned (.int .i64 e0) ∧ Below W.heap.size W W' := by
 have hc := h.now
 have hn : (e0 != 0) = true := by simpa using h0
 have hz : (e0 == 0) = false := by simpa using h0
 clear h
 go_enter Tryz.func35, Tryz.ntmps35
 go_wp2_with (first | (go_at_call 51; refine hc.mono ?_; rintro e W1 ⟨rfl, m, rfl⟩))
 go_ret
 exact ⟨rfl, below_dn (Below.refl _ _) m⟩
theorem rref_sync (h : RChk W v e0) (h0 : e0 ≠ 0) : Calls Tryz.prog 39 #[v] W fun e W' => e = .returned (.int .i64 e0) ∧ Below W.heap.size W W' := by
 have hc := h.now
 have hn : (e0 != 0) = true := by simpa using h0
 have hz : (e0 == 0) = false := by simpa using h0
 clear h
 go_enter Tryz.func39, Tryz.ntmps39
 go_wp2_with (first | (go_at_call 51; refine hc.mono ?_; rintro e W1 ⟨rfl, m, rfl⟩))
 go_ret
 exact ⟨rfl, below_dn (Below.refl _ _) m⟩
theorem rref_used (h : RChk W v e0) (h0 : e0 ≠ 0) : Calls Tryz.prog 54 #[v] W fun e W' => e = .returned (.int .i64 0) ∧ Below W.heap.size W W' := by
 have hc := h.now
 have hn : (e0 != 0) = true := by simpa using h0
 have hz : (e0 == 0) = false := by simpa using h0
 clear h
 go_enter Tryz.func54, Tryz.ntmps54
 go_wp2_with (first | (go_at_call 51; refine hc.mono ?_; rintro e W1 ⟨rfl, m, rfl⟩))
 go_ret
 exact ⟨rfl, below_dn (Below.refl _ _) m⟩
theorem rref_open (h : RChk W v e0) (h0 : e0 ≠ 0) : Calls Tryz.prog 56 #[v] W fun e W' => e = .returned (.bool false) ∧ Below W.heap.size W W' := by
 have hc := h.now
 have hn : (e0 != 0) = true := by simpa using h0
 have hz : (e0 == 0) = false := by simpa using h0
 clear h
 go_enter Tryz.func56, Tryz.ntmps56
 go_wp2_with (first | (go_at_call 51; refine hc.mono ?_; rintro e W1 ⟨rfl, m, rfl⟩))
 go_ret
 exact ⟨rfl, below_dn (Below.refl _ _) m⟩
theorem rref_commits (h : RChk W v e0) (h0 : e0 ≠ 0) : Calls Tryz.prog 57 #[v] W fun e W' => e = .returned (.int .i64 0) ∧ Below W.heap.size W W' := by
 have hc := h.now
 have hn : (e0 != 0) = true := by simpa using h0
 have hz : (e0 == 0) = false := by simpa using h0
 clear h
 go_enter Tryz.func57, Tryz.ntmps57
 go_wp2_with (first | (go_at_call 51; refine hc.mono ?_; rintro e W1 ⟨rfl, m, rfl⟩))
 go_ret
 exact ⟨rfl, below_dn (Below.refl _ _) m⟩
theorem rref_steps (h : RChk W v e0) (h0 : e0 ≠ 0) : Calls Tryz.prog 58 #[v] W fun e W' => e = .returned (.int .i64 0) ∧ Below W.heap.size W W' := by
 have hc := h.now
 have hn : (e0 != 0) = true := by simpa using h0
 have hz : (e0 == 0) = false := by simpa using h0
 clear h
 go_enter Tryz.func58, Tryz.ntmps58
 go_wp2_with (first | (go_at_call 51; refine hc.mono ?_; rintro e W1 ⟨rfl, m, rfl⟩))
 go_ret
 exact ⟨rfl, below_dn (Below.refl _ _) m⟩
theorem pref_refuses (h : PChk W v e0) (h0 : e0 ≠ 0) (o : Bool) : Calls Tryz.prog 74 #[v, .bool o] W fun e W' => e = .returned (.int .i64 e0) ∧ Below W.heap.size W W' := by
 have hc := h.now
 have hn : (e0 != 0) = true := by simpa using h0
 have hz : (e0 == 0) = false := by simpa using h0
 clear h
 go_enter Tryz.func74, Tryz.ntmps74
 go_wp2_with (first | (go_at_call 50; refine hc.mono ?_; rintro e W1 ⟨rfl, m, rfl⟩))
 go_ret
 exact ⟨rfl, below_dn (Below.refl _ _) m⟩
theorem pref_used (h : PChk W v e0) (h0 : e0 ≠ 0) : Calls Tryz.prog 23 #[v] W fun e W' => e = .returned (.int .i64 0) ∧ Below W.heap.size W W' := by
 have hc := h.now
 have hn : (e0 != 0) = true := by simpa using h0
 have hz : (e0 == 0) = false := by simpa using h0
 clear h
 go_enter Tryz.func23, Tryz.ntmps23
 go_wp2_with (first | (go_at_call 50; refine hc.mono ?_; rintro e W1 ⟨rfl, m, rfl⟩))
 go_ret
 exact ⟨rfl, below_dn (Below.refl _ _) m⟩
theorem pref_open (h : PChk W v e0) (h0 : e0 ≠ 0) : Calls Tryz.prog 55 #[v] W fun e W' => e = .returned (.bool false) ∧ Below W.heap.size W W' := by
 have hc := h.now
 have hn : (e0 != 0) = true := by simpa using h0
 have hz : (e0 == 0) = false := by simpa using h0
 clear h
 go_enter Tryz.func55, Tryz.ntmps55
 go_wp2_with (first | (go_at_call 50; refine hc.mono ?_; rintro e W1 ⟨rfl, m, rfl⟩))
 go_ret
 exact ⟨rfl, below_dn (Below.refl _ _) m⟩
theorem pref_commits (h : PChk W v e0) (h0 : e0 ≠ 0) : Calls Tryz.prog 27 #[v] W fun e W' => e = .returned (.int .i64 0) ∧ Below W.heap.size W W' := by
 have hc := h.now
 have hn : (e0 != 0) = true := by simpa using h0
 have hz : (e0 == 0) = false := by simpa using h0
 clear h
 go_enter Tryz.func27, Tryz.ntmps27
 go_wp2_with (first | (go_at_call 50; refine hc.mono ?_; rintro e W1 ⟨rfl, m, rfl⟩))
 go_ret
 exact ⟨rfl, below_dn (Below.refl _ _) m⟩
theorem pref_steps (h : PChk W v e0) (h0 : e0 ≠ 0) : Calls Tryz.prog 24 #[v] W fun e W' => e = .returned (.int .i64 0) ∧ Below W.heap.size W W' := by
 have hc := h.now
 have hn : (e0 != 0) = true := by simpa using h0
 have hz : (e0 == 0) = false := by simpa using h0
 clear h
 go_enter Tryz.func24, Tryz.ntmps24
 go_wp2_with (first | (go_at_call 50; refine hc.mono ?_; rintro e W1 ⟨rfl, m, rfl⟩))
 go_ret
 exact ⟨rfl, below_dn (Below.refl _ _) m⟩
theorem rref_close (h : RChk W v e0) (h0 : e0 ≠ 0) : Calls Tryz.prog 49 #[v] W fun e W' => e = .returned (.int .i64 e0) ∧ Below W.heap.size W W' := by
 have hc := rref_sync h h0
 have hn : (e0 != 0) = true := by simpa using h0
 have hz : (e0 == 0) = false := by simpa using h0
 clear h
 go_enter Tryz.func49, Tryz.ntmps49
 go_wp2_with (first | (go_at_call 39; refine hc.mono ?_; rintro e W1 ⟨rfl, hb⟩; have HB := Hid.mk' hb; clear hb))
 go_ret
 exact ⟨rfl, HB.out⟩
theorem pref_begin (h : PChk W v e0) (h0 : e0 ≠ 0) (n : Int) : Calls Tryz.prog 19 #[v, .int .i64 n] W fun e W' => e = .returned (.int .i64 e0) ∧ Below W.heap.size W W' := by
 have hc := pref_refuses h h0 false
 have hn : (e0 != 0) = true := by simpa using h0
 have hz : (e0 == 0) = false := by simpa using h0
 clear h
 go_enter Tryz.func19, Tryz.ntmps19
 go_wp2_with (first | (go_at_call 74; refine hc.mono ?_; rintro e W1 ⟨rfl, hb⟩; have HB := Hid.mk' hb; clear hb))
 go_ret
 exact ⟨rfl, HB.out⟩
theorem pref_end (h : PChk W v e0) (h0 : e0 ≠ 0) : Calls Tryz.prog 22 #[v] W fun e W' => e = .returned (.int .i64 e0) ∧ Below W.heap.size W W' := by
 have hc := pref_refuses h h0 true
 have hn : (e0 != 0) = true := by simpa using h0
 have hz : (e0 == 0) = false := by simpa using h0
 clear h
 go_enter Tryz.func22, Tryz.ntmps22
 go_wp2_with (first | (go_at_call 74; refine hc.mono ?_; rintro e W1 ⟨rfl, hb⟩; have HB := Hid.mk' hb; clear hb))
 go_ret
 exact ⟨rfl, HB.out⟩
theorem pref_sync (h : PChk W v e0) (h0 : e0 ≠ 0) : Calls Tryz.prog 26 #[v] W fun e W' => e = .returned (.int .i64 e0) ∧ Below W.heap.size W W' := by
 have hc := pref_refuses h h0 false
 have hn : (e0 != 0) = true := by simpa using h0
 have hz : (e0 == 0) = false := by simpa using h0
 clear h
 go_enter Tryz.func26, Tryz.ntmps26
 go_wp2_with (first | (go_at_call 74; refine hc.mono ?_; rintro e W1 ⟨rfl, hb⟩; have HB := Hid.mk' hb; clear hb))
 go_ret
 exact ⟨rfl, HB.out⟩
theorem pref_close (h : PChk W v e0) (h0 : e0 ≠ 0) : Calls Tryz.prog 48 #[v] W fun e W' => e = .returned (.int .i64 e0) ∧ Below W.heap.size W W' := by
 have hc := pref_sync h h0
 have hn : (e0 != 0) = true := by simpa using h0
 have hz : (e0 == 0) = false := by simpa using h0
 clear h
 go_enter Tryz.func48, Tryz.ntmps48
 go_wp2_with (first | (go_at_call 26; refine hc.mono ?_; rintro e W1 ⟨rfl, hb⟩; have HB := Hid.mk' hb; clear hb))
 go_ret
 exact ⟨rfl, HB.out⟩
theorem rref_write (h : RChk W v e0) (h0 : e0 ≠ 0) (n : Int) (f : Nat → Int) : Calls Tryz.prog 38 #[v, .int .i64 n, .agg (blk f)] W fun e W' => e = .returned (.int .i64 e0) ∧ Below W.heap.size W W' := by
 have hc := h _ (below_new W (.cells (blk f) 64))
 have hn : (e0 != 0) = true := by simpa using h0
 have hb := below_new W (.cells (blk f) 64)
 clear h
 generalize blk f = F at *
 go_enter Tryz.func38, Tryz.ntmps38
 go_wp2_with (first | (go_at_call 51; refine hc.mono ?_; rintro e W1 ⟨rfl, m, rfl⟩))
 go_ret
 exact ⟨rfl, below_dn hb m⟩
theorem pref_write (h : PChk W v e0) (h0 : e0 ≠ 0) (n : Int) (f : Nat → Int) : Calls Tryz.prog 20 #[v, .int .i64 n, .agg (blk f)] W fun e W' => e = .returned (.int .i64 e0) ∧ Below W.heap.size W W' := by
 have hc := pref_refuses (h.later (below_new W (.cells (blk f) 64))) h0 true
 have hn : (e0 != 0) = true := by simpa using h0
 have hz : (e0 == 0) = false := by simpa using h0
 have hb' := below_new W (.cells (blk f) 64)
 clear h
 generalize blk f = F at *
 go_enter Tryz.func20, Tryz.ntmps20
 go_wp2_with (first | (go_at_call 74; refine hc.mono ?_; rintro e W1 ⟨rfl, hb⟩; have HB := Hid.mk' hb; clear hb))
 go_ret
 exact ⟨rfl, below_next hb' HB.out⟩
theorem rref_layout (h : RChk W v e0) (h0 : e0 ≠ 0) : Calls Tryz.prog 53 #[v] W fun e W' => e = .returned (.agg (H.lay9 0 0 0 0 0 0 0 0 0)) ∧ Below W.heap.size W W' := by
 have hc := h _ (below_new W (.cells (H.lay9 0 0 0 0 0 0 0 0 0) 59))
 have hn : (e0 != 0) = true := by simpa using h0
 have hw := layZ_new W
 clear h
 go_enter Tryz.func53, Tryz.ntmps53
 go_wp2_with (first | (go_at_call 51; fail))
 refine hc.mono ?_
 rintro e W1 ⟨rfl, m, rfl⟩
 have hw' := heap_kept hw (below_drewN _ m)
 have HB := Hid.mk' (below_dn (below_new W (.cells (H.lay9 0 0 0 0 0 0 0 0 0) 59)) m)
 generalize (W.alloc (.cells (H.lay9 0 0 0 0 0 0 0 0 0) 59)).drewN m = W1 at hw' HB ⊢
 clear hc hw
 go_wp2_with (first | (with_reducible refine H.isStore 59 ?_; refine wpList_storeL rfl _ _ rfl W.heap.size (H.lay9 0 0 0 0 0 0 0 0 0) (H.lay9 0 0 0 0 0 0 0 0 0) rfl rfl hw' rfl rfl (H.lay_one _ _ _ _ _ _ _ _ _) ?_))
 exact retL rfl W.heap.size _ rfl rfl (setRow_heap _ _ _ _ _ _ hw') rfl ⟨rfl, below_setRow HB.out (Nat.le_refl _) _⟩
theorem pref_layout (h : PChk W v e0) (h0 : e0 ≠ 0) : Calls Tryz.prog 52 #[v] W fun e W' => e = .returned (.agg (H.lay9 0 0 0 0 0 0 0 0 0)) ∧ Below W.heap.size W W' := by
 have hc := h _ (below_new W (.cells (H.lay9 0 0 0 0 0 0 0 0 0) 59))
 have hn : (e0 != 0) = true := by simpa using h0
 have hw := layZ_new W
 clear h
 go_enter Tryz.func52, Tryz.ntmps52
 go_wp2_with (first | (go_at_call 50; fail))
 refine hc.mono ?_
 rintro e W1 ⟨rfl, m, rfl⟩
 have hw' := heap_kept hw (below_drewN _ m)
 have HB := Hid.mk' (below_dn (below_new W (.cells (H.lay9 0 0 0 0 0 0 0 0 0) 59)) m)
 generalize (W.alloc (.cells (H.lay9 0 0 0 0 0 0 0 0 0) 59)).drewN m = W1 at hw' HB ⊢
 clear hc hw
 go_wp2_with (first | (with_reducible refine H.isStore 59 ?_; refine wpList_storeL rfl _ _ rfl W.heap.size (H.lay9 0 0 0 0 0 0 0 0 0) (H.lay9 0 0 0 0 0 0 0 0 0) rfl rfl hw' rfl rfl (H.lay_one _ _ _ _ _ _ _ _ _) ?_))
 exact retL rfl W.heap.size _ rfl rfl (setRow_heap _ _ _ _ _ _ hw') rfl ⟨rfl, below_setRow HB.out (Nat.le_refl _) _⟩
set_option maxRecDepth 20000 in
theorem rref_read (h : RChk W v e0) (h0 : e0 ≠ 0) (n : Int) : Calls Tryz.prog 37 #[v, .int .i64 n] W fun e W' => e = .returned (.tuple #[.agg (blk nought), .int .i64 e0]) ∧ Below W.heap.size W W' := by
 have hc := h _ (below_new W (.cells (blk nought) 64))
 have hn : (e0 != 0) = true := by simpa using h0
 have HX := Hid.mk' (heap_alloc_new W (.cells (blk nought) 64))
 have z58 := zero25
 clear h
 go_enter Tryz.func37, Tryz.ntmps37
 go_wp2_with (first | (go_at_call 51; refine hc.mono ?_; rintro e W1 ⟨rfl, m, rfl⟩) | (with_reducible refine isStore 64 ?_; refine wpList_store25 rfl _ _ rfl W.heap.size nought rfl rfl nought (heap_kept HX.out (below_drewN _ _)) ?_))
 exact retBT rfl W.heap.size nought rfl (setRow_heap _ _ _ _ _ _ (heap_kept HX.out (below_drewN _ _))) rfl ⟨rfl, below_setRow (below_dn (below_new _ _) m) (Nat.le_refl _) _⟩
set_option maxRecDepth 20000 in
theorem pref_read (h : PChk W v e0) (h0 : e0 ≠ 0) (n : Int) : Calls Tryz.prog 36 #[v, .int .i64 n] W fun e W' => e = .returned (.tuple #[.agg (blk nought), .int .i64 e0]) ∧ Below W.heap.size W W' := by
 have hc := h _ (below_new W (.cells (blk nought) 64))
 have hn : (e0 != 0) = true := by simpa using h0
 have HX := Hid.mk' (heap_alloc_new W (.cells (blk nought) 64))
 have z58 := zero25
 clear h
 go_enter Tryz.func36, Tryz.ntmps36
 go_wp2_with (first | (go_at_call 50; refine hc.mono ?_; rintro e W1 ⟨rfl, m, rfl⟩) | (with_reducible refine isStore 64 ?_; refine wpList_store25 rfl _ _ rfl W.heap.size nought rfl rfl nought (heap_kept HX.out (below_drewN _ _)) ?_))
 exact retBT rfl W.heap.size nought rfl (setRow_heap _ _ _ _ _ _ (heap_kept HX.out (below_drewN _ _))) rfl ⟨rfl, below_setRow (below_dn (below_new _ _) m) (Nat.le_refl _) _⟩
end
section
variable {w W W' : World} {q r : Nat} {y y' : RL} {u u' : RSt} {l : List Part} {B : Nat} {gv wv : Value}
theorem RLAt.c0 (h : RLAt W B q r gv wv y) : W.cell? ⟨q, 0, none⟩ = some (.pointer (some ⟨r, 0, none⟩)) := h.cell 0
theorem RLAt.c1 (h : RLAt W B q r gv wv y) : W.cell? ⟨q, 1, none⟩ = some (.int .i64 y.b) := h.cell 1
theorem RLAt.c2 (h : RLAt W B q r gv wv y) : W.cell? ⟨q, 2, none⟩ = some (.int .i64 y.l) := h.cell 2
theorem RLAt.c4 (h : RLAt W B q r gv wv y) : W.cell? ⟨q, 4, none⟩ = some (.int .i64 1) := h.cell 4
theorem RLAt.c12 (h : RLAt W B q r gv wv y) : W.cell? ⟨q, 12, none⟩ = some gv := h.cell 12
theorem RLAt.c13 (h : RLAt W B q r gv wv y) : W.cell? ⟨q, 13, none⟩ = some (.bool y.step) := h.cell 13
theorem RLAt.c14 (h : RLAt W B q r gv wv y) : W.cell? ⟨q, 14, none⟩ = some (.int .i64 y.room) := h.cell 14
theorem RLAt.c15 (h : RLAt W B q r gv wv y) : W.cell? ⟨q, 15, none⟩ = some wv := h.cell 15
theorem RLAt.c16 (h : RLAt W B q r gv wv y) : W.cell? ⟨q, 16, none⟩ = some (.int .i64 y.commit) := h.cell 16
theorem RLAt.c17 (h : RLAt W B q r gv wv y) : W.cell? ⟨q, 17, none⟩ = some (.int .i64 y.over) := h.cell 17
theorem DL.live (h : DL w W q r y u l) (hc : rchE y u = 0) : Calls Tryz.prog 51 #[.pointer (some ⟨q, 0, none⟩)] W fun e W' => e = .returned (.int .i64 0) ∧ Below W.heap.size W W' ∧ DL w W' q r y u l := by
 refine h.check.mono ?_
 rintro e W' ⟨rfl, m, rfl⟩
 exact ⟨by rw [hc], below_drewN W m, h.later (below_drewN W m)⟩
theorem DL.at (h : DL w W q r y u l) : ∃ Y : YLoc, RLAt W Y.B q r Y.gv Y.wv y := by
 obtain ⟨Y, _, hl, _⟩ := h.log
 exact ⟨Y, hl⟩
theorem DL.set (h : DL w W q r y u l) (j : Nat) (x : Value) (hr : ∀ gv wv, (rlRow r gv wv y).setIfInBounds j x = rlRow r gv wv y') (h1 : y'.grp = y.grp) (h2 : y'.wrote = y.wrote) : DL w (W.setCell ⟨q, j, none⟩ x) q r y' u l := by
 obtain ⟨Y, _, hl, hT⟩ := h.log
 exact hT _ _ _ _ _ (hl.set j x (hr _ _) h1 h2) (Fr.setCell W q j x) (fun k _ e => .inl e) fun k hk => .inl hk
theorem DL.end_no (h : DL w W q r y u l) (hc : rchE y u = 0) (hs : y.step = false) : Calls Tryz.prog 35 #[.pointer (some ⟨q, 0, none⟩)] W fun e W' => e = .returned (.int .i64 180) ∧ DL w W' q r y u l := by
 have H0 := Hid.mk' (h.live hc)
 clear h
 go_enter Tryz.func35, Tryz.ntmps35
 go_wp2_with (first | (go_at_call 51; fail))
 refine H0.out.mono ?_
 rintro e W1 ⟨rfl, _, h1⟩
 obtain ⟨Y, hl⟩ := h1.at
 have c13 := hl.c13
 rw [hs] at c13
 have H1 := Hid.mk' h1
 clear h1 hl H0
 go_wp2
 go_ret
 exact ⟨rfl, H1.out⟩
def rEnd (y : RL) : RL := { y with step := false, over := y.over + 1 }
theorem DL.end_ok (h : DL w W q r y u l) (hc : rchE y u = 0) (hs : y.step = true) (ho : 0 ≤ y.over ∧ y.over ≤ 1099511627776) : Calls Tryz.prog 35 #[.pointer (some ⟨q, 0, none⟩)] W fun e W' => e = .returned (.int .i64 0) ∧ DL w W' q r (rEnd y) u l := by
 have H0 := Hid.mk' (h.live hc)
 have hw : IntKind.i64.wrap (y.over + 1) = y.over + 1 := by rw [IntKind.wrap_i64]; omega
 clear h
 go_enter Tryz.func35, Tryz.ntmps35
 go_wp2_with (first | (go_at_call 51; fail))
 refine H0.out.mono ?_
 rintro e W1 ⟨rfl, _, h1⟩
 have H2 := Hid.mk' (h1.set 13 (.bool false) (y' := { y with step := false }) (fun _ _ => rfl) rfl rfl)
 have H3 := Hid.mk' (H2.out.set 17 (.int .i64 (y.over + 1)) (y' := rEnd y) (fun _ _ => rfl) rfl rfl)
 obtain ⟨Y, hl⟩ := h1.at
 have c13 := hl.c13
 have c17 := hl.c17
 have f13 := hl.free 13
 have f17 := hl.free 17
 rw [hs] at c13
 clear h1 hl H0
 go_wp2
 go_ret
 refine ⟨rfl, ?_⟩
 have := H3.out
 simpa only [hw] using this
theorem DL.used (h : DL w W q r y u l) (hc : rchE y u = 0) : Calls Tryz.prog 54 #[.pointer (some ⟨q, 0, none⟩)] W fun e W' => e = .returned (.int .i64 (y.grp.length : Nat)) ∧ DL w W' q r y u l := by
 have H0 := Hid.mk' (h.live hc)
 obtain ⟨G, hG⟩ : ∃ G, y.grp.length = G := ⟨_, rfl⟩
 rw [hG]
 have HG := Hid.mk' hG
 clear hG
 clear h
 go_enter Tryz.func54, Tryz.ntmps54
 go_wp2_with (first | (go_at_call 51; fail))
 refine H0.out.mono ?_
 rintro e W1 ⟨rfl, _, h1⟩
 obtain ⟨Y, hl⟩ := h1.at
 have c12 := hl.c12
 obtain ⟨p, c, hv, _⟩ := own_slice hl.grp
 rw [hv, HG.out] at c12
 have H1 := Hid.mk' h1
 clear h1 hl H0 hv
 go_wp2
 go_ret
 exact ⟨rfl, H1.out⟩
theorem DL.opened (h : DL w W q r y u l) (hc : rchE y u = 0) : Calls Tryz.prog 56 #[.pointer (some ⟨q, 0, none⟩)] W fun e W' => e = .returned (.bool y.step) ∧ DL w W' q r y u l := by
 have H0 := Hid.mk' (h.live hc)
 clear h
 go_enter Tryz.func56, Tryz.ntmps56
 go_wp2_with (first | (go_at_call 51; fail))
 refine H0.out.mono ?_
 rintro e W1 ⟨rfl, _, h1⟩
 obtain ⟨Y, hl⟩ := h1.at
 have c13 := hl.c13
 have H1 := Hid.mk' h1
 clear h1 hl H0
 go_wp2
 go_ret
 exact ⟨rfl, H1.out⟩
theorem DL.commits (h : DL w W q r y u l) (hc : rchE y u = 0) : Calls Tryz.prog 57 #[.pointer (some ⟨q, 0, none⟩)] W fun e W' => e = .returned (.int .i64 y.commit) ∧ DL w W' q r y u l := by
 have H0 := Hid.mk' (h.live hc)
 clear h
 go_enter Tryz.func57, Tryz.ntmps57
 go_wp2_with (first | (go_at_call 51; fail))
 refine H0.out.mono ?_
 rintro e W1 ⟨rfl, _, h1⟩
 obtain ⟨Y, hl⟩ := h1.at
 have c16 := hl.c16
 have H1 := Hid.mk' h1
 clear h1 hl H0
 go_wp2
 go_ret
 exact ⟨rfl, H1.out⟩
theorem DL.steps (h : DL w W q r y u l) (hc : rchE y u = 0) : Calls Tryz.prog 58 #[.pointer (some ⟨q, 0, none⟩)] W fun e W' => e = .returned (.int .i64 y.over) ∧ DL w W' q r y u l := by
 have H0 := Hid.mk' (h.live hc)
 clear h
 go_enter Tryz.func58, Tryz.ntmps58
 go_wp2_with (first | (go_at_call 51; fail))
 refine H0.out.mono ?_
 rintro e W1 ⟨rfl, _, h1⟩
 obtain ⟨Y, hl⟩ := h1.at
 have c17 := hl.c17
 have H1 := Hid.mk' h1
 clear h1 hl H0
 go_wp2
 go_ret
 exact ⟨rfl, H1.out⟩
theorem wpList_ex8 {ops : Array Oper} {rest : List Oper} {o : Oper} {a : Act} {w w' : World} {v : Value} {Q : Exit → Act → World → Prop} (hw : Region.wanted o (yielded ops a.tmps) = true) (hr : (execOp a.eval o).run Tryz.prog w = .ok (.value v) w') (h : wpList Tryz.prog ops Q rest (a.put o.dst v) w') : wpList Tryz.prog ops Q (o :: rest) a w := by
 unfold wpList
 rw [if_pos hw]
 refine .inl ?_
 unfold Oper.wp
 rw [hr]
 exact h
theorem wpList_ldLay {ops : Array Oper} {rest : List Oper} {o : Oper} {a : Act} {w : World} {Q : Exit → Act → World → Prop} (hw : Region.wanted o (yielded ops a.tmps) = true) (x : Operand) (ho : o.op = .load 59 x) (b off : Nat) (cs : List Value) (R : Array Value) (hR : cs.toArray = R) (hn : cs.length = 9) (hx : a.eval x = .pointer (some ⟨b, off, none⟩)) (hg : ∀ j v, cs[j]? = some v → w.cell? ⟨b, off + j, none⟩ = some v)
  (h : wpList Tryz.prog ops Q rest (a.put o.dst (.agg R)) w) : wpList Tryz.prog ops Q (o :: rest) a w := by
 subst hR
 have e : (Instr.loadAt 59 (.pointer (some ⟨b, off, none⟩))).run Tryz.prog w = .ok (.agg cs.toArray) w := run_loadAt_mid (P := Tryz.prog) w b off 59 cs _ (fun j v hv => hg j v hv) Tryz.underlying59 rfl (by rw [hn]; exact H.size25L)
 refine wpList_ex8 hw ?_ h
 unfold execOp
 simp only [ho, hx, e, Sem.run_bind, Result.andThen_ok, Sem.run_pure]
def layC (b l i : Int) : List Value := [.int .i64 b, .int .i64 l, .int .i64 i, .int .i64 1, .int .i64 (1 + l), .int .i64 (H.nodeB i), .int .i64 (H.bitsAt l i), .int .i64 (H.bitsB b), .int .i64 (H.dataAt b l i)]
theorem layC_row (b l i : Int) : (layC b l i).toArray = layA b l i := rfl
theorem RLAt.lay (h : RLAt W B q r gv wv y) : ∀ j v, (layC y.b y.l y.i)[j]? = some v → W.cell? ⟨q, 1 + j, none⟩ = some v := fun j v hv => by
 rw [Joins.cell_of_block h.row]
 match j, hv with
 | 0, hv | 1, hv | 2, hv | 3, hv | 4, hv | 5, hv | 6, hv | 7, hv | 8, hv => exact hv
 | j + 9, hv => simp [layC] at hv
theorem LogAt.lay {g d c mb base : Nat} {v : Value} {x : LSt} (h : LogAt W base g d c mb v x) : ∀ j v, (layC x.b x.l x.i)[j]? = some v → W.cell? ⟨g, 3 + j, none⟩ = some v := fun j v hv => by
 rw [Joins.cell_of_block h.row]
 match j, hv with
 | 0, hv | 1, hv | 2, hv | 3, hv | 4, hv | 5, hv | 6, hv | 7, hv | 8, hv => exact hv
 | j + 9, hv => simp [layC] at hv
set_option maxRecDepth 20000 in
theorem DL.layout (h : DL w W q r y u l) (hc : rchE y u = 0) : Calls Tryz.prog 53 #[.pointer (some ⟨q, 0, none⟩)] W fun e W' => e = .returned (.agg (layA y.b y.l y.i)) ∧ DL w W' q r y u l := by
 have H0 := Hid.mk' ((h.later (below_new W (.cells (H.lay9 0 0 0 0 0 0 0 0 0) 59))).live hc)
 have hw := layZ_new W
 have hbase := h.below.size
 have HS := Hid.mk' h
 clear h
 go_enter Tryz.func53, Tryz.ntmps53
 go_wp2_with (first | (go_at_call 51; fail))
 refine H0.out.mono ?_
 rintro e W1 ⟨rfl, hb, h1⟩
 have hw' := heap_kept hw hb
 obtain ⟨Y, hl⟩ := h1.at
 have hlay := hl.lay
 have HB := Hid.mk' (below_next (below_new W (.cells (H.lay9 0 0 0 0 0 0 0 0 0) 59)) hb)
 clear h1 hl H0 hb hw
 go_wp2_with (first | ((with_reducible refine H.isLoad 59 ?_); refine wpList_ldLay rfl _ rfl q 1 (layC y.b y.l y.i) (layA y.b y.l y.i) rfl rfl rfl hlay ?_) | ((with_reducible refine H.isStore 59 ?_); refine wpList_storeL rfl _ _ rfl W.heap.size (layA y.b y.l y.i) (H.lay9 0 0 0 0 0 0 0 0 0) rfl rfl hw' rfl rfl (H.lay_one _ _ _ _ _ _ _ _ _) ?_))
 exact retL rfl W.heap.size _ rfl rfl (setRow_heap _ _ _ _ _ _ hw') rfl ⟨rfl, HS.out.later (below_setRow HB.out (Nat.le_refl _) _)⟩
def rBegin (y : RL) (n : Int) : RL := { y with step := true, room := n, wrote := [] }
theorem RLAt.noWrote (h : RLAt W B q r gv wv y) : RLAt (W.setCell ⟨q, 15, none⟩ (.slice none 0 0)) B q r gv (.slice none 0 0) { y with wrote := [] } := by
 refine ⟨?_, ?_, H.OwnZ.nil _ _, h.base⟩
 ·rw [heap_setCell_same W q 15 _ 121 _ h.row]; rfl
 ·exact ownsRow_setCell_other h.grp (a := ⟨q, 15, none⟩) h.qg _
theorem DL.noWrote (h : DL w W q r y u l) : DL w (W.setCell ⟨q, 15, none⟩ (.slice none 0 0)) q r { y with wrote := [] } u l := by
 obtain ⟨Y, _, hl, hT⟩ := h.log
 exact hT _ _ _ _ _ hl.noWrote (Fr.setCell W q 15 _) (fun k _ e => .inl e) fun k hk => by
  rcases hk with rfl | hk | hk
  ·exact .inl (.inl rfl)
  ·exact .inl (.inr (.inl hk))
  ·cases hk
theorem DL.begin_no (h : DL w W q r y u l) (hc : rchE y u = 0) (hs : y.step = true) (n : Int) : Calls Tryz.prog 34 #[.pointer (some ⟨q, 0, none⟩), .int .i64 n] W fun e W' => e = .returned (.int .i64 180) ∧ DL w W' q r y u l := by
 have H0 := Hid.mk' (h.live hc)
 clear h
 go_enter Tryz.func34, Tryz.ntmps34
 go_wp2_with (first | (go_at_call 51; fail))
 refine H0.out.mono ?_
 rintro e W1 ⟨rfl, _, h1⟩
 obtain ⟨Y, hl⟩ := h1.at
 have c13 := hl.c13
 rw [hs] at c13
 have H1 := Hid.mk' h1
 clear h1 hl H0
 go_wp2
 go_ret
 exact ⟨rfl, H1.out⟩
theorem DL.begin_arg (h : DL w W q r y u l) (hc : rchE y u = 0) (hs : y.step = false) (hl2 : 32 ≤ y.l ∧ y.l ≤ 256) {n : Int} (hn : n < 1 ∨ y.l - 1 < n) : Calls Tryz.prog 34 #[.pointer (some ⟨q, 0, none⟩), .int .i64 n] W fun e W' => e = .returned (.int .i64 2) ∧ DL w W' q r y u l := by
 have H0 := Hid.mk' (h.live hc)
 have hw : IntKind.i64.wrap (y.l - 1) = y.l - 1 := by rw [IntKind.wrap_i64]; omega
 clear h
 by_cases h1n : n < 1
 ·go_enter Tryz.func34, Tryz.ntmps34
  go_wp2_with (first | (go_at_call 51; fail))
  refine H0.out.mono ?_
  rintro e W1 ⟨rfl, _, h1⟩
  obtain ⟨Y, hl⟩ := h1.at
  have c13 := hl.c13
  rw [hs] at c13
  have g1 : decide (n < 1) = true := decide_eq_true h1n
  have H1 := Hid.mk' h1
  clear h1 hl H0 hl2 hn h1n
  go_wp2
  go_ret
  exact ⟨rfl, H1.out⟩
 ·have g1 : decide (n < 1) = false := decide_eq_false h1n
  have g2 : decide (y.l - 1 < n) = true := decide_eq_true (by omega)
  go_enter Tryz.func34, Tryz.ntmps34
  go_wp2_with (first | (go_at_call 51; fail))
  refine H0.out.mono ?_
  rintro e W1 ⟨rfl, _, h1⟩
  obtain ⟨Y, hl⟩ := h1.at
  have c13 := hl.c13
  have c2 := hl.c2
  rw [hs] at c13
  have H1 := Hid.mk' h1
  clear h1 hl H0 hl2 hn h1n
  go_wp2
  go_ret
  exact ⟨rfl, H1.out⟩
theorem DL.begin_ok (h : DL w W q r y u l) (hc : rchE y u = 0) (hs : y.step = false) (hl2 : 32 ≤ y.l ∧ y.l ≤ 256) {n : Int} (hn : 1 ≤ n ∧ (y.grp.length : Int) + n ≤ y.l - 1) : Calls Tryz.prog 34 #[.pointer (some ⟨q, 0, none⟩), .int .i64 n] W fun e W' => e = .returned (.int .i64 0) ∧ DL w W' q r (rBegin y n) u l := by
 have H0 := Hid.mk' (h.live hc)
 have hw : IntKind.i64.wrap (y.l - 1) = y.l - 1 := by rw [IntKind.wrap_i64]; omega
 obtain ⟨G, hG⟩ : ∃ G, y.grp.length = G := ⟨_, rfl⟩
 have hw2 : IntKind.i64.wrap ((G : Int) + n) = (G : Int) + n := by rw [IntKind.wrap_i64]; omega
 have g1 : decide (n < 1) = false := decide_eq_false (by omega)
 have g2 : decide (y.l - 1 < n) = false := decide_eq_false (by omega)
 have g3 : decide (y.l - 1 < (G : Int) + n) = false := decide_eq_false (by omega)
 have HG := Hid.mk' hG
 clear h hG
 go_enter Tryz.func34, Tryz.ntmps34
 go_wp2_with (first | (go_at_call 51; fail))
 refine H0.out.mono ?_
 rintro e W1 ⟨rfl, _, h1⟩
 have H1 := Hid.mk' h1
 obtain ⟨Y, hl⟩ := h1.at
 have c13 := hl.c13
 have c2 := hl.c2
 have c12 := hl.c12
 have f13 := hl.free 13
 have f14 := hl.free 14
 have f15 := hl.free 15
 have c14 := hl.c14
 have c15 := hl.c15
 obtain ⟨p, c, hv, _⟩ := own_slice hl.grp
 rw [hv, HG.out] at c12
 rw [hs] at c13
 clear h1 hl H0 hl2 hn hv
 go_wp2
 go_quiet (fail)
 have h1 := H1.out.later (below_drewN W1 nq)
 have H2 := Hid.mk' (h1.set 13 (.bool true) (y' := { y with step := true }) (fun _ _ => rfl) rfl rfl)
 have H3 := Hid.mk' (H2.out.set 14 (.int .i64 n) (y' := { y with step := true, room := n }) (fun _ _ => rfl) rfl rfl)
 have H4 := Hid.mk' H3.out.noWrote
 clear h1 H1
 go_wp2
 go_ret
 exact ⟨rfl, H4.out⟩
end
def gAt : List Cel → Int → Option (Nat → Int)
 | [], _ => none
 | c :: t, k => if c.1 = k then some c.2 else gAt t k
section
variable {w W W' : World} {q r : Nat} {y y' : RL} {u u' : RSt} {l : List Part} {B : Nat} {gv wv : Value}
theorem gAt_cons (c : Cel) (t : List Cel) (k : Int) : gAt (c :: t) k = if c.1 = k then some c.2 else gAt t k := rfl
theorem own_img {e : Nat} {v : Value} {g : List Cel} (h : W.ownsRow B e 1025 v g.length (g.flatMap celRow)) : ∃ p c, v = .slice p g.length c ∧ ImgAt W p g := by
 have h' := h
 rcases own_form h with ⟨h1, h2⟩ | ⟨b, c, h1, hlt⟩
 ·exact ⟨none, 0, by rw [h1, h2], fun q => by omega⟩
 ·subst h1
  refine ⟨some ⟨b, 0, none⟩, c, rfl, fun _ => ⟨b, 0, rfl, hlt, fun k x hx => ?_⟩⟩
  have hc := own_get celRow_len h' hx
  refine ⟨by have := hc 0 (.int .i64 x.1) (by simp [celRow]); rw [Nat.add_zero] at this; rw [Nat.zero_add]; exact this, fun j v hv => ?_⟩
  have := hc (j + 1) v (by simpa [celRow] using hv)
  rw [show 0 + k * 1025 + 1 + j = k * 1025 + (j + 1) by omega]
  exact this
set_option maxRecDepth 20000 in
theorem wrote_at (h : RLAt W B q r gv wv y) (hl : y.wrote.length ≤ 1000000) (k : Int) : Calls Tryz.prog 86 #[.pointer (some ⟨q, 0, none⟩), .int .i64 k] W fun e W' => e = .returned (.bool (decide (k ∈ y.wrote))) ∧ W' = W := by
 obtain ⟨p, c, hv, hI, _⟩ := H.OwnZ.ints h.wrote
 have c15 := h.c15
 obtain ⟨N, hN⟩ : ∃ N, y.wrote.length = N := ⟨_, rfl⟩
 have HN := Hid.mk' hN
 rw [hv, hN] at c15
 rw [hN] at hl
 have HI := Hid.mk' hI
 have HL0 : Hid (decide (k ∈ y.wrote) = decide (k ∈ y.wrote.drop 0)) := rfl
 generalize decide (k ∈ y.wrote) = R at *
 clear hI hN hv h
 go_enter Tryz.func86, Tryz.ntmps86
 go_wp2
 go_loopw [5] (fun s5 wx => ∃ j : Nat, (j : Int) ≤ N ∧ s5 = .int .i64 j ∧ wx = W ∧ Hid (R = decide (k ∈ y.wrote.drop j))) (fun s5 _ => N - (intOf s5).toNat)
 case atStart => exact ⟨0, by omega, rfl, rfl, HL0.out⟩
 case round =>
  obtain ⟨j, hj, rfl, rfl, HA⟩ := hrel
  clear HL0
  by_cases hj2 : (j : Int) < N
  ·have hjl : j < y.wrote.length := by have := HN.out; omega
   have hc : y.wrote[j]? = some (y.wrote[j]'hjl) := List.getElem?_eq_getElem hjl
   have hd : y.wrote.drop j = y.wrote[j]'hjl :: y.wrote.drop (j + 1) := List.drop_eq_getElem_cons hjl
   generalize y.wrote[j]'hjl = x at hc hd
   obtain ⟨b0, off, rfl, hlt, hC⟩ := HI.out (by omega)
   have c1 := hC j x hc
   have hA := HA.out
   rw [hd] at hA
   have HA2 := Hid.mk' hA
   clear hd hc hC HA hA hjl
   by_cases hy : x = k
   ·have HF := Hid.mk' (show R = true from by rw [HA2.out]; simp [hy])
    subst hy
    clear HA2
    go_wp2
    go_ret
    exact ⟨by rw [HF.out]; rfl, rfl⟩
   ·have HF := Hid.mk' (show R = decide (k ∈ y.wrote.drop (j + 1)) from by rw [HA2.out]; simp [Ne.symm hy])
    have hne : (x == k) = false := by simpa using hy
    clear HA2 hy
    go_wp2
    exact ⟨⟨j + 1, by omega, by go_num, by first | rfl | trivial, HF.out⟩, by simp [intOf]; omega⟩
  ·have hjN : N = j := by omega
   subst hjN
   have hd : y.wrote.drop N = [] := List.drop_eq_nil_of_le (by have := HN.out; omega)
   have HF := Hid.mk' (show R = false from by rw [HA.out, hd]; rfl)
   clear hd HA
   go_wp2
   go_ret
   exact ⟨by rw [HF.out]; rfl, rfl⟩
set_option maxRecDepth 20000 in
theorem DL.read_arg (h : DL w W q r y u l) (hc : rchE y u = 0) {k : Int} (hk : k < 0 ∨ y.b ≤ k) : Calls Tryz.prog 37 #[.pointer (some ⟨q, 0, none⟩), .int .i64 k] W fun e W' => e = .returned (.tuple #[.agg (blk nought), .int .i64 2]) ∧ DL w W' q r y u l := by
 have H0 := Hid.mk' ((h.later (below_new W (.cells (blk nought) 64))).live hc)
 have HX := Hid.mk' (heap_alloc_new W (.cells (blk nought) 64))
 have HS := Hid.mk' h
 have z58 := zero25
 clear h
 by_cases hk0 : k < 0
 all_goals
  go_enter Tryz.func37, Tryz.ntmps37
  go_wp2_with (first | (go_at_call 51; fail))
  refine H0.out.mono ?_
  rintro e W1 ⟨rfl, hb, h1⟩
  obtain ⟨Y, hl⟩ := h1.at
  have c1 := hl.c1
  have HX1 := Hid.mk' (heap_kept HX.out hb)
  have HB := Hid.mk' (below_next (below_new W (.cells (blk nought) 64)) hb)
  clear h1 hl hb H0 HX
 ·have g1 : decide (k < 0) = true := decide_eq_true hk0
  clear hk0 hk
  go_wp2_with (first | (with_reducible refine isStore 64 ?_; refine wpList_store25 rfl _ _ rfl W.heap.size nought rfl rfl nought HX1.out ?_))
  exact retBT rfl W.heap.size nought rfl (setRow_heap _ _ _ _ _ _ HX1.out) rfl ⟨rfl, HS.out.later (below_setRow HB.out (Nat.le_refl _) _)⟩
 ·have g1 : decide (k < 0) = false := decide_eq_false (by omega)
  have g2 : decide (y.b ≤ k) = true := decide_eq_true (by omega)
  clear hk0 hk
  go_wp2_with (first | (with_reducible refine isStore 64 ?_; refine wpList_store25 rfl _ _ rfl W.heap.size nought rfl rfl nought HX1.out ?_))
  exact retBT rfl W.heap.size nought rfl (setRow_heap _ _ _ _ _ _ HX1.out) rfl ⟨rfl, HS.out.later (below_setRow HB.out (Nat.le_refl _) _)⟩
structure RRoom (t : RSt) : Prop where
 seen : 0 ≤ t.seen ∧ t.seen < 9223372036854775807
 count : 0 ≤ t.count ∧ t.count < 9223372036854775807
 claims : 0 ≤ t.claims ∧ t.claims < 9223372036854775807
 left : t.fused = true → 0 ≤ t.left ∧ t.left ≤ 9223372036854775807
 wait : t.wait.length ≤ 7000000
 ops : t.ops.length ≤ 7000000
 held : t.held.length ≤ 1048576
def rReadB (t : RSt) (k : Int) : Nat → Int := if rRefV t k = 0 then rCur t k else nought
def rReadV (t : RSt) (k : Int) : RSt := if rRefV t k = 0 then { t with seen := t.seen + 1 } else t
theorem RDs.read (h : RDs w W r u l) (hr : RRoom u) (k : Int) : Calls Tryz.prog 85 #[.pointer (some ⟨r, 0, none⟩), .int .i64 k] W fun e W' => e = .returned (.tuple #[.agg (blk (rReadB u k)), .int .i64 (rRefV u k)]) ∧ RDs w W' r (rReadV u k) l := by
 obtain ⟨R, hD, hT⟩ := h.rd
 unfold rReadB rReadV
 by_cases hb : rRefV u k = 0
 ·rw [if_pos hb, if_pos hb, hb]
  exact (rRead_ok hD hb hr.seen (by have := hr.wait; omega) (by have := hr.held; omega)).mono fun e W' ⟨h1, h2, h3⟩ => ⟨h1, hT _ _ _ _ _ h2 (RTo.ofFr h3)⟩
 ·rw [if_neg hb, if_neg hb]
  exact (rRead_bad hD hb).mono fun e W' ⟨h1, h2, h3⟩ => ⟨h1, hT _ _ _ _ _ h2 (RTo.ofFr h3)⟩
theorem DL.dread (h : DL w W q r y u l) (hr : RRoom u) (k : Int) : Calls Tryz.prog 85 #[.pointer (some ⟨r, 0, none⟩), .int .i64 k] W fun e W' => e = .returned (.tuple #[.agg (blk (rReadB u k)), .int .i64 (rRefV u k)]) ∧ DL w W' q r y (rReadV u k) l := by
 obtain ⟨Y, hq, hd⟩ := h.ds
 exact (hd.read hr k).mono fun e W' ⟨h1, h2⟩ => ⟨h1, DL.of hq h2⟩
def boxB (g : Nat) (f : Nat → Int) : Part := ⟨fun k => k = g, fun W => W.heap[g]? = some (.cells (blk f) 64)⟩
theorem boxB_good (g : Nat) (f : Nat → Int) : (boxB g f).Good := fun _ _ h _ hb => (hb g rfl).trans h
theorem DL.box (h : DL w W q r y u l) (f : Nat → Int) : DL w (W.alloc (.cells (blk f) 64)) q r y u (boxB W.heap.size f :: l) := by
 obtain ⟨Y, R, hq, hg, h⟩ := h.out
 refine ⟨Y, R, hq, hg, ?_⟩
 have h1 := h.add (p := boxB W.heap.size f) (below_new W (.cells (blk f) 64)) (boxB_good _ _) (heap_alloc_new _ _) fun k hk => by
  rw [hk]; simp
 exact h1.perm ((List.Perm.swap _ _ _).trans (List.Perm.cons _ (List.Perm.swap _ _ _)))
theorem DL.boxed {g : Nat} {f : Nat → Int} (h : DL w W q r y u (boxB g f :: l)) : W.heap[g]? = some (.cells (blk f) 64) := by
 obtain ⟨Y, R, hq, hg, h⟩ := h.out
 exact h.say (boxB g f) (by simp)
theorem DL.unbox {g : Nat} {f f' : Nat → Int} (h : DL w W q r y u (boxB g f :: l)) : DL w (W.setRow g (blk f')) q r y u l := by
 obtain ⟨Y, R, hq, hg, h⟩ := h.out
 refine ⟨Y, R, hq, hg, ?_⟩
 have h1 := h.third
 exact (h1.turn (p' := noPart) (Fr.setRow W g (blk f')) (fun k _ e => e) noPart_good trivial fun k hk => hk.elim).drop
theorem DL.unboxed {g : Nat} {f : Nat → Int} (h : DL w W q r y u (boxB g f :: l)) : DL w W q r y u l := by
 obtain ⟨Y, R, hq, hg, h⟩ := h.out
 exact ⟨Y, R, hq, hg, h.third.drop⟩
set_option maxRecDepth 20000 in
set_option maxHeartbeats 4000000 in
theorem DL.read_aux {F : Nat → Int} {U : RSt} (h : DL w W q r y u l) (hc : rchE y u = 0) {k : Int} (hk : 0 ≤ k ∧ k < y.b) (hr : RRoom u) (hn : rRefV u k = 0) (hgl : y.grp.length ≤ 1000000) (hF1 : ∀ f, gAt y.grp k = some f → F = f ∧ U = u) (hF2 : gAt y.grp k = none → F = rCur u k ∧ U = { u with seen := u.seen + 1 }) :
  Calls Tryz.prog 37 #[.pointer (some ⟨q, 0, none⟩), .int .i64 k] W fun e W' => e = .returned (.tuple #[.agg (blk F), .int .i64 0]) ∧ DL w W' q r y U l := by
 have H0 := Hid.mk' ((h.box nought).live hc)
 have HL0 : Hid (gAt y.grp k = gAt (y.grp.drop 0) k) := rfl
 have HF1 := Hid.mk' hF1
 have HF2 := Hid.mk' hF2
 have z58 := zero25
 obtain ⟨N, hN⟩ : ∃ N, y.grp.length = N := ⟨_, rfl⟩
 have HN := Hid.mk' hN
 rw [hN] at hgl
 clear h hN hF1 hF2
 generalize gAt y.grp k = R at *
 have g1 : decide (k < 0) = false := decide_eq_false (by omega)
 have g2 : decide (y.b ≤ k) = false := decide_eq_false (by omega)
 clear hk
 go_enter Tryz.func37, Tryz.ntmps37
 go_wp2_with (first | (go_at_call 51; fail))
 refine H0.out.mono ?_
 rintro e W1 ⟨rfl, hb, h1⟩
 obtain ⟨Y, hl⟩ := h1.at
 have c1 := hl.c1
 have c12 := hl.c12
 have c0 := hl.c0
 obtain ⟨p, c, hv, hI⟩ := own_img hl.grp
 rw [hv, HN.out] at c12
 have HI := Hid.mk' hI
 have HX := Hid.mk' h1.boxed
 have H1 := Hid.mk' h1
 clear h1 hl hb H0 hv hI
 go_wp2
 go_loopw [7] (fun s7 wx => ∃ j : Nat, (j : Int) ≤ N ∧ s7 = .int .i64 j ∧ wx = W1 ∧ Hid (R = gAt (y.grp.drop j) k)) (fun s7 _ => N - (intOf s7).toNat)
 case atStart => exact ⟨0, by omega, rfl, rfl, HL0.out⟩
 case round =>
  obtain ⟨j, hj, rfl, rfl, HA⟩ := hrel
  clear HL0
  by_cases hj2 : (j : Int) < N
  ·have hjl : j < y.grp.length := by have := HN.out; omega
   have hcc : y.grp[j]? = some (y.grp[j]'hjl) := List.getElem?_eq_getElem hjl
   have hd : y.grp.drop j = y.grp[j]'hjl :: y.grp.drop (j + 1) := List.drop_eq_getElem_cons hjl
   generalize y.grp[j]'hjl = x at hcc hd
   obtain ⟨b0, off, rfl, hlt, hC⟩ := HI.out (by have := HN.out; omega)
   have HQ := Hid.mk' (hC j x hcc)
   have c3 := HQ.out.1
   obtain ⟨x1, f⟩ := x
   dsimp only at c3
   have hA := HA.out
   rw [hd, gAt_cons] at hA
   have HA2 := Hid.mk' hA
   clear hd hcc hC HA hA hjl
   by_cases hy : x1 = k
   ·obtain ⟨rfl, rfl⟩ := HF1.out f (by rw [HA2.out]; simp [hy])
    have HB := Hid.mk' (show BlkAt wr b0 (off + j * 1025 + 1) F from HQ.out.2)
    have HE := Hid.mk' (H1.out.unbox (f' := F))
    subst hy
    clear HA2 HQ HF1 HF2
    go_wp2_with (first | (with_reducible refine isLoad 64 ?_; refine wpList_exec rfl (exec_ldBlk rfl rfl HB.out) ?_) | (with_reducible refine isStore 64 ?_; refine wpList_store25 rfl _ _ rfl W.heap.size F rfl rfl nought HX.out ?_))
    exact retBT rfl W.heap.size F rfl (setRow_heap _ _ _ _ _ _ HX.out) rfl ⟨rfl, HE.out⟩
   ·have HF := Hid.mk' (show R = gAt (y.grp.drop (j + 1)) k from by rw [HA2.out]; simp [hy])
    have hne : (x1 == k) = false := by simpa using hy
    clear HA2 hy HQ
    go_wp2
    exact ⟨⟨j + 1, by omega, by go_num, by first | rfl | trivial, HF.out⟩, by simp [intOf]; omega⟩
  ·have hjN : N = j := by omega
   subst hjN
   have hd : y.grp.drop N = [] := List.drop_eq_nil_of_le (by have := HN.out; omega)
   obtain ⟨hf1, hf2⟩ := HF2.out (by rw [HA.out, hd]; rfl)
   have HD := Hid.mk' (H1.out.dread hr k)
   have HE1 := Hid.mk' hf1
   have HE2 := Hid.mk' hf2
   clear hd HA HI hf1 hf2 HF1 HF2
   go_wp2_with (go_at_call 85; fail)
   refine HD.out.mono ?_
   rintro e W2 ⟨rfl, h2⟩
   unfold rReadB rReadV at *
   rw [if_pos hn, hn, ← HE1.out]
   rw [if_pos hn, ← HE2.out] at h2
   have H3 := Hid.mk' ((h2.box nought).unbox (f' := F))
   have HX2 := Hid.mk' (heap_alloc_new W2 (.cells (blk nought) 64))
   have HX3 := Hid.mk' ((setRow_heap (W2.alloc (.cells (blk nought) 64)) W2.heap.size _ (blk F) _ _ HX2.out : ((W2.alloc (.cells (blk nought) 64)).setRow W2.heap.size (blk F)).heap[W2.heap.size]? = some (.cells (blk F) 64)))
   have HE4 := Hid.mk' (H3.out.unbox (f' := F))
   have HX4 := Hid.mk' H3.out.boxed
   clear h2 HD H1 HX HE1 HE2
   go_wp2_with (first | (with_reducible refine isStore 64 ?_; refine wpList_store25 rfl (.tmp 8) (.tmp 63) rfl W2.heap.size F rfl rfl nought HX2.out ?_) | (with_reducible refine isLoad 64 ?_; refine wpList_load25 rfl (.tmp 8) rfl W2.heap.size rfl F HX3.out ?_) | (with_reducible refine isStore 64 ?_; refine wpList_store25 rfl (.tmp 4) (.tmp 65) rfl W.heap.size F rfl rfl nought HX4.out ?_))
   exact retBT rfl W.heap.size F rfl (setRow_heap _ _ _ _ _ _ HX4.out) rfl ⟨rfl, HE4.out⟩
def rlB (y : RL) (u : RSt) (k : Int) : Nat → Int := match gAt y.grp k with
 | some f => f
 | none => rCur u k
def rlU (y : RL) (u : RSt) (k : Int) : RSt := match gAt y.grp k with
 | some _ => u
 | none => { u with seen := u.seen + 1 }
theorem DL.read_ok (h : DL w W q r y u l) (hc : rchE y u = 0) {k : Int} (hk : 0 ≤ k ∧ k < y.b) (hr : RRoom u) (hn : rRefV u k = 0) (hgl : y.grp.length ≤ 1000000) :
  Calls Tryz.prog 37 #[.pointer (some ⟨q, 0, none⟩), .int .i64 k] W fun e W' => e = .returned (.tuple #[.agg (blk (rlB y u k)), .int .i64 0]) ∧ DL w W' q r y (rlU y u k) l :=
 h.read_aux hc hk hr hn hgl (fun f hf => by unfold rlB rlU; rw [hf]; exact ⟨rfl, rfl⟩) fun hf => by unfold rlB rlU; rw [hf]; exact ⟨rfl, rfl⟩
end
theorem info123 : (Tryz.prog.info? 123).map (fun i => (i.zero, i.size, i.bytes)) = some (some (.agg (celRow (0, nought)).toArray), 1025, 1032) := by kernel_rfl
theorem zero123 : ∀ w, (zeroValue 123).run Tryz.prog w = .ok (.agg (celRow (0, nought)).toArray) w := by
 obtain ⟨i0, hi0, hz0, hz1, hz2⟩ := info_parts info123
 exact (zero_of_info (t := 123) (P := Tryz.prog) (by rw [hi0]; exact congrArg some (Prod.ext hz0 hz1))).1
theorem build123 (p : Int) (f : Nat → Int) (u : World) : (Instr.build 123 #[(0, .int .i64 p), (1, .agg (blk f))]).run Tryz.prog u = .ok (.agg (celRow (p, f)).toArray) u := by
 have z := zero123
 have hZ : (celRow (0, nought)).toArray.size = 1025 := cel_size _
 generalize (celRow (0, nought)).toArray = Z at *
 have hf := fill_cel p f Z hZ
 simp [Instr.build, z, run_underlying Tryz.underlying123, Value.cells]
 rw [hf _ rfl rfl]
 simp only [Sem.run_pure]
theorem buildS123 (c : Cel) (u : World) : (Instr.buildSlice 119 1 #[(0, .agg (celRow c).toArray)]).run Tryz.prog u = .ok (.slice (some ⟨u.heap.size, 0, none⟩) 1 1) (u.alloc (.cells (celRow c).toArray 123)) :=
 build1 119 123 1025 _ _ Tryz.underlying119 Tryz.sizeOf123 (by omega) zero123 (cel_size c) u
theorem putE_tail {cur : Array Value} {o : Nat} {x : Value} {r : List Value} (h : cur[o]? = some x) : putE cur (o + 1) r = putE cur o (x :: r) := by
 have h' : cur.toList[o]? = some x := by simpa using h
 unfold putE
 congr 1
 rw [List.take_add_one, h']
 simp only [Option.toList_some, List.append_assoc, List.cons_append, List.nil_append, List.length_cons]
 rw [show o + 1 + r.length = o + (r.length + 1) by omega]
theorem storeB64 {W : World} {g off : Nat} {ty : TypeId} {f : Nat → Int} {cur : Array Value} (hg : W.heap[g]? = some (.cells cur ty)) (hfit : off + 1024 ≤ cur.size) :
  (Instr.storeAt 64 (.pointer (some ⟨g, off, none⟩)) (.agg (blk f))).run Tryz.prog W = .ok () (W.setRow g (putE cur off (blk f).toList)) := by
 have hl : (blk f).toList.length = 1024 := by rw [Array.length_toList]; exact blk_size f
 have hst := run_storeCells_at Tryz.prog g off ty (blk f).toList 0 cur W hg (by rw [hl]; omega) (fun v hv => (Array.all_eq_true_iff_forall_mem.1 (blk_one f)) v (by simpa using hv))
 have hsz := size25
 rw [show blk f = (blk f).toList.toArray by simp]
 simp only [Nat.add_zero] at hst
 unfold putE
 rw [show (blk f).toList.toArray.toList = (blk f).toList by simp]
 generalize (blk f).toList = R at *
 cases hi : Tryz.prog.info? 64 with
 | none => rw [hi] at hsz; simp at hsz
 | some i =>
  rw [hi] at hsz
  have hz : i.size = 1024 := by simpa using hsz
  simp [Instr.storeAt, Instr.sureAddr, storeVar, sizeOf, typeInfo, hi, Value.cells, hl, hz, hst]
section
variable {w W W' V : World} {q r : Nat} {y y' : RL} {u u' : RSt} {l : List Part} {B : Nat} {gv wv : Value}
theorem RLAt.ltq (h : RLAt W B q r gv wv y) : q < W.heap.size := (Array.getElem?_eq_some_iff.1 h.row).1
theorem RLAt.gw (h : RLAt W B q r gv wv y) {k : Nat} (h1 : gv.ownBlock = some k) (h2 : wv.ownBlock = some k) : False := rows_apart (e := 123) (e' := 3) (by decide) h.grp h1 h.wrote h2
theorem RLAt.pushG (h : RLAt V B q r gv wv y) (hl : y.grp.length ≤ 10000000) (x : Cel) :
  ∃ v' W5, (Builtin.append_ #[119, 119] 119 #[gv, .slice (some ⟨V.heap.size, 0, none⟩) 1 1]).run Tryz.prog (V.alloc (.cells (celRow x).toArray 123)) = .ok v' W5 ∧ W5.heap[q]? = some (.cells (rlRow r gv wv y) 121) ∧ Fr (fun i => gv.ownBlock = some i) V W5 ∧ (∀ k, v'.ownBlock = some k → gv.ownBlock = some k ∨ V.heap.size ≤ k) ∧
   RLAt (W5.setCell ⟨q, 12, none⟩ v') B q r v' wv { y with grp := y.grp ++ [x] } := by
 obtain ⟨i0, hi0, hz0, hz1, hz2⟩ := info_parts info123
 obtain ⟨v', W5, hr, ho, hb, hF, hor⟩ := own_pushL celRow_len celRow_one Tryz.underlying119 hi0 hz0 hz1 hz2 (cel_size (0, nought)) (by omega) (by omega) h.grp (by have := h.base; have := h.ltq; omega) (by omega) x 119
 have hrow : W5.heap[q]? = some (.cells (rlRow r gv wv y) 121) := (hF.block q h.ltq h.qg).trans h.row
 have ho2 := own_frame h.wrote hF fun i q1 q2 => h.gw q2 q1
 refine ⟨v', W5, hr, hrow, hF, hor, ?_, ?_, ?_, h.base⟩
 ·rw [heap_setCell_same W5 q 12 _ 121 v' hrow]; rfl
 ·exact ownsRow_setCell_other ho (a := ⟨q, 12, none⟩) (own_ne ho hrow (by decide)) v'
 ·exact ownsRow_setCell_other ho2 (a := ⟨q, 12, none⟩) (own_ne (e := 3) (sz := 1) ho2 hrow (by decide)) v'
theorem int_rows (zs : List Int) : zs.flatMap intRow = zs.map (Value.int .i64) := by
 induction zs with
 | nil => rfl
 | cons c t ih => simp only [List.flatMap_cons, ih, List.map_cons]; rfl
theorem RLAt.pushW (h : RLAt V B q r gv wv y) (hl : y.wrote.length ≤ 10000000) (x : Int) :
  ∃ v' W5, (Builtin.append_ #[90, 90] 90 #[wv, .slice (some ⟨V.heap.size, 0, none⟩) 1 1]).run Tryz.prog (V.alloc (.cells #[.int .i64 x] 3)) = .ok v' W5 ∧ W5.heap[q]? = some (.cells (rlRow r gv wv y) 121) ∧ Fr (fun i => wv.ownBlock = some i) V W5 ∧ (∀ k, v'.ownBlock = some k → wv.ownBlock = some k ∨ V.heap.size ≤ k) ∧
   RLAt (W5.setCell ⟨q, 15, none⟩ v') B q r gv v' { y with wrote := y.wrote ++ [x] } := by
 obtain ⟨i0, hi0, hz0, hz1, hz2⟩ := info_parts info3t
 have hw : V.ownsRow B 3 1 wv y.wrote.length (y.wrote.flatMap intRow) := by rw [int_rows]; exact h.wrote
 obtain ⟨v', W5, hr, ho, hb, hF, hor⟩ := own_pushL intRow_len intRow_one Tryz.underlying90 hi0 hz0 hz1 hz2 rfl (by omega) (by omega) hw (by have := h.base; have := h.ltq; omega) (by omega) x 90
 have hrow : W5.heap[q]? = some (.cells (rlRow r gv wv y) 121) := (hF.block q h.ltq h.qw).trans h.row
 have ho2 := own_frame h.grp hF fun i q1 q2 => h.gw q1 q2
 rw [int_rows] at ho
 refine ⟨v', W5, hr, hrow, hF, hor, ?_, ?_, ?_, h.base⟩
 ·rw [heap_setCell_same W5 q 15 _ 121 v' hrow]; rfl
 ·exact ownsRow_setCell_other ho2 (a := ⟨q, 15, none⟩) (own_ne ho2 hrow (by decide)) v'
 ·exact ownsRow_setCell_other ho (a := ⟨q, 15, none⟩) (own_ne (e := 3) (sz := 1) ho hrow (by decide)) v'
theorem RLAt.putG {b0 c : Nat} {k : Int} {f0 f : Nat → Int} (h : RLAt V B q r (.slice (some ⟨b0, 0, none⟩) y.grp.length c) wv y) {j : Nat} (hj : y.grp[j]? = some (k, f0)) :
  ∃ cur, V.heap[b0]? = some (.cells cur 123) ∧ j * 1025 + 1 + 1024 ≤ cur.size ∧ RLAt (V.setRow b0 (putE cur (j * 1025 + 1) (blk f).toList)) B q r (.slice (some ⟨b0, 0, none⟩) y.grp.length c) wv { y with grp := y.grp.set j (k, f) } := by
 have hi : j < y.grp.length := (List.getElem?_eq_some_iff.1 hj).1
 obtain ⟨cur, hg, hfit, hst⟩ := own_set (x := (k, f)) (i := j) celRow_len h.grp rfl hi
 have hx : cur[j * 1025]? = some (.int .i64 k) := by
  have := own_get celRow_len h.grp hj 0 (.int .i64 k) (by simp [celRow])
  rw [Nat.add_zero, Joins.cell_of_block hg] at this
  exact this
 have he : putE cur (j * 1025 + 1) (blk f).toList = putE cur (j * 1025) (celRow (k, f)) := putE_tail hx
 refine ⟨cur, hg, by omega, ?_⟩
 rw [he]
 have hqb : b0 ≠ q := fun e => h.qg (by rw [e]; rfl)
 refine ⟨(setRow_other V b0 q _ (Ne.symm hqb)).trans h.row, ?_, ?_, h.base⟩
 ·show World.ownsRow _ B 123 1025 _ (y.grp.set j (k, f)).length _
  rw [List.length_set]
  exact hst
 ·exact own_other (e := 3) (sz := 1) h.wrote (fun e => h.gw rfl e) _
def gPut : List Cel → Int → (Nat → Int) → List Cel
 | [], k, f => [(k, f)]
 | c :: t, k, f => if c.1 = k then (k, f) :: t else c :: gPut t k f
theorem gPut_at {f : Nat → Int} {k : Int} : ∀ {g : List Cel} {j : Nat} {f0 : Nat → Int}, g[j]? = some (k, f0) → (∀ i, i < j → ∀ c, g[i]? = some c → c.1 ≠ k) → gPut g k f = g.set j (k, f)
 | [], j, f0, h, _ => by simp at h
 | c :: t, 0, f0, h, _ => by
  have : c = (k, f0) := by simpa using h
  subst this
  simp [gPut]
 | c :: t, j + 1, f0, h, hn => by
  have h0 := hn 0 (by omega) c rfl
  rw [gPut, if_neg h0, gPut_at (g := t) (j := j) (f0 := f0) (by simpa using h) fun i hi x hx => hn (i + 1) (by omega) x (by simpa using hx)]
  rfl
theorem gPut_new {f : Nat → Int} {k : Int} : ∀ {g : List Cel}, (∀ c ∈ g, c.1 ≠ k) → gPut g k f = g ++ [(k, f)]
 | [], _ => rfl
 | c :: t, hn => by
  rw [gPut, if_neg (hn c (by simp)), gPut_new (g := t) fun x hx => hn x (by simp [hx])]
  rfl
def rWr (y : RL) (k : Int) (f : Nat → Int) : RL := { y with wrote := if k ∈ y.wrote then y.wrote else y.wrote ++ [k], grp := gPut y.grp k f }
theorem DL.pushG (h : DL w W q r y u l) (hl : y.grp.length ≤ 10000000) (x : Cel) : ∃ gv v' W5, W.cell? ⟨q, 12, none⟩ = some gv ∧ (∃ p c, gv = .slice p y.grp.length c) ∧ (∃ p c, v' = .slice p (y.grp.length + 1) c) ∧ (Builtin.append_ #[119, 119] 119 #[gv, .slice (some ⟨W.heap.size, 0, none⟩) 1 1]).run Tryz.prog (W.alloc (.cells (celRow x).toArray 123)) = .ok v' W5 ∧ W5.cell? ⟨q, 12, none⟩ = some gv ∧ W5.frozen? ⟨q, 12, none⟩ = false ∧ q < W.heap.size ∧ DL w (W5.setCell ⟨q, 12, none⟩ v') q r { y with grp := y.grp ++ [x] } u l := by
 obtain ⟨Y, _, hL, hT⟩ := h.log
 obtain ⟨v', W5, hr, hrow, hF, hor, hn⟩ := hL.pushG hl x
 obtain ⟨p1, c1, e1, _⟩ := own_slice hL.grp
 obtain ⟨p2, c2, e2, _⟩ := own_slice hn.grp
 refine ⟨Y.gv, v', W5, hL.c12, ⟨p1, c1, e1⟩, ⟨p2, c2, by rw [e2, List.length_append]; rfl⟩, hr, Joins.cell_of_block hrow 12, Joins.unfrozen_of_block hrow 12, hL.ltq, hT _ _ _ _ (RLHas q Y.gv Y.wv) hn ?_ (fun _ _ e => e) fun k hk => ?_⟩
 ·exact (hF.mono fun i _ e => .inr (.inl e)).trans ((Fr.setCell W5 q 12 v').mono fun i _ e => .inl e) fun _ _ e => e
 ·rcases hk with rfl | hk | hk
  ·exact .inl (.inl rfl)
  ·rcases hor k hk with e | e
   ·exact .inl (.inr (.inl e))
   ·exact .inr e
  ·exact .inl (.inr (.inr hk))
theorem DL.pushW (h : DL w W q r y u l) (hl : y.wrote.length ≤ 10000000) (x : Int) : ∃ wv v' W5, W.cell? ⟨q, 15, none⟩ = some wv ∧ (∃ p c, wv = .slice p y.wrote.length c) ∧ (∃ p c, v' = .slice p (y.wrote.length + 1) c) ∧ (Builtin.append_ #[90, 90] 90 #[wv, .slice (some ⟨W.heap.size, 0, none⟩) 1 1]).run Tryz.prog (W.alloc (.cells #[.int .i64 x] 3)) = .ok v' W5 ∧ W5.cell? ⟨q, 15, none⟩ = some wv ∧ W5.frozen? ⟨q, 15, none⟩ = false ∧ q < W.heap.size ∧ DL w (W5.setCell ⟨q, 15, none⟩ v') q r { y with wrote := y.wrote ++ [x] } u l := by
 obtain ⟨Y, _, hL, hT⟩ := h.log
 obtain ⟨v', W5, hr, hrow, hF, hor, hn⟩ := hL.pushW hl x
 obtain ⟨p1, c1, e1, _⟩ := H.OwnZ.ints hL.wrote
 obtain ⟨p2, c2, e2, _⟩ := H.OwnZ.ints hn.wrote
 refine ⟨Y.wv, v', W5, hL.c15, ⟨p1, c1, e1⟩, ⟨p2, c2, by rw [e2, List.length_append]; rfl⟩, hr, Joins.cell_of_block hrow 15, Joins.unfrozen_of_block hrow 15, hL.ltq, hT _ _ _ _ (RLHas q Y.gv Y.wv) hn ?_ (fun _ _ e => e) fun k hk => ?_⟩
 ·exact (hF.mono fun i _ e => .inr (.inr e)).trans ((Fr.setCell W5 q 15 v').mono fun i _ e => .inl e) fun _ _ e => e
 ·rcases hk with rfl | hk | hk
  ·exact .inl (.inl rfl)
  ·exact .inl (.inr (.inl hk))
  ·rcases hor k hk with e | e
   ·exact .inl (.inr (.inr e))
   ·exact .inr e
theorem DL.putG {k : Int} {f0 : Nat → Int} (h : DL w W q r y u l) {j : Nat} (hj : y.grp[j]? = some (k, f0)) (f : Nat → Int) : ∃ b0 c cur, W.cell? ⟨q, 12, none⟩ = some (.slice (some ⟨b0, 0, none⟩) y.grp.length c) ∧ W.heap[b0]? = some (.cells cur 123) ∧ j * 1025 + 1 + 1024 ≤ cur.size ∧ DL w (W.setRow b0 (putE cur (j * 1025 + 1) (blk f).toList)) q r { y with grp := y.grp.set j (k, f) } u l := by
 obtain ⟨Y, _, hL, hT⟩ := h.log
 have hi : j < y.grp.length := (List.getElem?_eq_some_iff.1 hj).1
 rcases own_form hL.grp with ⟨_, h2⟩ | ⟨b0, c, h1, hlt⟩
 ·omega
 ·have hL' := hL
  rw [h1] at hL'
  obtain ⟨cur, hg, hfit, hn⟩ := hL'.putG (f := f) hj
  have c12 := hL'.c12
  refine ⟨b0, c, cur, c12, hg, hfit, hT _ _ _ _ (fun i => i = b0) hn (Fr.setRow W b0 _) (fun i _ e => ?_) fun i hk => ?_⟩
  ·exact .inr (.inl (by rw [h1, e]; rfl))
  ·rcases hk with rfl | hk | hk
   ·exact .inl (.inl rfl)
   ·exact .inl (.inr (.inl (by rw [h1]; exact hk)))
   ·exact .inl (.inr (.inr hk))
end
end Go.Proofs.YtichojdcoegboaaGreatW
