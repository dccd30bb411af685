/- A disk that is none answers as rule 4 says, whatever is asked; no condition. -/
import Derived.Test.YtembocfghkmieaaBlock
namespace Go.Proofs.Ytembocfghkmieaa
open Go.RowKit
variable {w : World}

theorem cell_lt {w : World} {g off : Nat} {v : Value} (h : w.cell? ⟨g, off, none⟩ = some v) : g < w.heap.size := by
  by_cases q : g < w.heap.size
  · exact q
  · unfold World.cell? at h
    simp only [Array.getElem?_eq_none (show w.heap.size ≤ g by omega)] at h
    simp at h
theorem NoneAt.later {w' : World} {v : Value} (h : NoneAt w v) (hb : Below w.heap.size w w') : NoneAt w' v := by
  rcases h with h | ⟨g, h1, h2⟩
  · exact .inl h
  · exact .inr ⟨g, h1, (hb.cell (p := ⟨g, 0, none⟩) (cell_lt h2)).trans h2⟩
set_option maxRecDepth 20000 in
theorem read_none {v : Value} (h : NoneAt w v) (k : Int) : Calls Try.prog 20 #[v, .int .i64 k] w fun e w' => e = .returned (.tuple #[.agg (blk nought), .int .i64 1]) ∧ Below w.heap.size w w' := by
  have hR := refuses_none (h.later (below_new w (.cells (blk nought) 58))) k
  have hbd := built58
  have z25 := zero25
  clear h
  generalize nought = N at *
  go_enter Try.func20, Try.ntmps20
  go_wp2_with (first | (go_at_call 66; refine hR.mono ?_; rintro e W ⟨rfl, rfl⟩) | refine wpList_build58 rfl rfl hbd ?_ | refine wpList_store25_new rfl _ _ rfl _ _ rfl rfl ?_)
  exact retBT rfl w.heap.size _ rfl (heap_alloc_new _ _) rfl ⟨rfl, below_new _ _⟩
set_option maxRecDepth 20000 in
theorem write_none {v : Value} (h : NoneAt w v) (k : Int) (f : Nat → Int) : Calls Try.prog 33 #[v, .int .i64 k, .agg (blk f)] w fun e w' => e = .returned (.int .i64 1) ∧ Below w.heap.size w w' := by
  have hR := refuses_none (h.later (below_new w (.cells (blk f) 58))) k
  clear h
  go_enter Try.func33, Try.ntmps33
  go_wp2_with (first | (go_at_call 66; refine hR.mono ?_; rintro e W ⟨rfl, rfl⟩))
  go_ret
  exact ⟨rfl, below_new _ _⟩
theorem same_below {f : FuncId} {args : Array Value} {w : World} {v : Value} (h : Calls Try.prog f args w fun e w' => e = .returned v ∧ w' = w) : Calls Try.prog f args w fun e w' => e = .returned v ∧ Below w.heap.size w w' :=
  h.mono fun e w' ⟨h1, h2⟩ => ⟨h1, by rw [h2]; exact Below.refl _ _⟩
/-- The cells of an act. -/
def actC (o k at_ : Int) (p : Value) (n : Int) (kv : Value) : Array Value := #[.int .i64 o, .int .i64 k, .int .i64 at_, p, .int .i64 n, kv]
set_option maxRecDepth 20000 in
set_option maxHeartbeats 2000000 in
theorem none_any {v : Value} (h : NoneAt w v) (o k at_ n : Int) {pa : Option Addr} {pl pc : Nat} {pn : Nat} {pf : Nat → Int} (hp : Lies w (.slice pa pl pc) pn pf) (ka : Option Addr) (kl kc : Nat) :
    Calls Try.prog 29 #[v, .agg (actC o k at_ (.slice pa pl pc) n (.slice ka kl kc))] w fun e w' => e = .returned (.bool true) ∧ Below w.heap.size w w' := by
  obtain ⟨N, z25, hbd, eN⟩ : ∃ N, (∀ w, (zeroValue 58).run Try.prog w = .ok (.agg (blk N)) w) ∧ (∀ u : World, (Instr.build 58 #[]).run Try.prog u = .ok (.agg (blk N)) u) ∧ N = nought := ⟨nought, zero25, built58, rfl⟩
  have HN : Hid (N = nought) := eN
  clear eN
  have hb0 := below_new w (.cells (actC o k at_ (.slice pa pl pc) n (.slice ka kl kc)) 44)
  have hA := heap_alloc_new w (.cells (actC o k at_ (.slice pa pl pc) n (.slice ka kl kc)) 44)
  have h0 := h.later hb0
  have hp0 := hp.later hb0
  unfold actC at *
  clear h hp
  go_enter Try.func29, Try.ntmps29
  go_wp2_with (go_at_call 20; fail)
  generalize w.alloc (.cells #[.int .i64 o, .int .i64 k, .int .i64 at_, .slice pa pl pc, .int .i64 n, .slice ka kl kc] 44) = W0 at *
  refine (read_none h0 at_).mono ?_
  rw [← HN.out]
  rintro e W1 ⟨rfl, hb1⟩
  have h1 := h0.later hb1
  have hp1 := hp0.later hb1
  have hA1 := heap_kept hA hb1
  have HB1 : Hid (Below w.heap.size w W1) := below_next hb0 hb1
  clear h0 hp0 hA hb0 hb1
  have h2 := h1.later (below_new W1 (.cells (blk N) 58))
  have hp2 := hp1.later (below_new W1 (.cells (blk N) 58))
  have hA2 := heap_kept hA1 (below_new W1 (.cells (blk N) 58))
  have HB2 : Hid (Below w.heap.size w (W1.alloc (.cells (blk N) 58))) := below_next HB1.out (below_new _ _)
  have hZ := heap_alloc_new W1 (.cells (blk N) 58)
  have a4 : W1.cell? ⟨w.heap.size, 4, none⟩ = some (.int .i64 n) := Joins.cell_of_block hA1 4
  have hlt : w.heap.size < W1.heap.size := (Array.getElem?_eq_some_iff.1 hA1).1
  clear h1 hp1 HB1
  go_wp2_with (first | refine wpList_store25_new rfl (.tmp 5) (.tmp 15) rfl N _ rfl rfl ?_ | (go_at_call 31; fail))
  clear hA1 a4 hlt
  generalize W1.alloc (.cells (blk N) 58) = W2 at *
  generalize W1.heap.size = g1 at *
  refine (fuse_none h2 n).mono ?_
  rintro e W ⟨rfl, he⟩
  obtain rfl := he.symm
  clear he
  have a2 : W2.cell? ⟨w.heap.size, 2, none⟩ = some (.int .i64 at_) := Joins.cell_of_block hA2 2
  have a3 : W2.cell? ⟨w.heap.size, 3, none⟩ = some (.slice pa pl pc) := Joins.cell_of_block hA2 3
  have a5 : W2.cell? ⟨w.heap.size, 5, none⟩ = some (.slice ka kl kc) := Joins.cell_of_block hA2 5
  have hg0 : w.heap.size < W2.heap.size := (Array.getElem?_eq_some_iff.1 hA2).1
  have hq := eq25
  have hs := sameB_self N
  have HNn : ∀ y : Later W2, NoneAt y.val v := fun y => h2.later y.below
  have HPp : ∀ y : Later W2, Lies y.val (.slice pa pl pc) pn pf := fun y => hp2.later y.below
  go_wp2
  refine wp_region_later (by kernel_rfl) (by kernel_rfl) W2 (Below.refl _ _) ?_
  have hne := later_some W2
  have b2 : ∀ y : Later W2, y.val.cell? ⟨w.heap.size, 2, none⟩ = some (.int .i64 at_) := fun y => (y.cell _ hg0).trans a2
  have b3 : ∀ y : Later W2, y.val.cell? ⟨w.heap.size, 3, none⟩ = some (.slice pa pl pc) := fun y => (y.cell _ hg0).trans a3
  have b5 : ∀ y : Later W2, y.val.cell? ⟨w.heap.size, 5, none⟩ = some (.slice ka kl kc) := fun y => (y.cell _ hg0).trans a5
  repeat (first
    | (go_big_quiet_want; refine quiet_load25 (.tmp 5) rfl g1 rfl N hZ ?_; simp only [Act.put, List.setIfInBounds_toArray, List.set_cons_succ, List.set_cons_zero]; go_big_quiet_on)
    | go_big_quiet_step (first
        | (go_at_call 21; exact Later.call _ (block_lies (HPp _)))
        | (go_at_call 33; exact Later.call _ (write_none (HNn _) _ _))
        | (go_at_call 32; exact Later.call _ (same_below (barrier_none (HNn _))))
        | (go_at_call 35; exact Later.call _ (same_below (crash_none (HNn _) _)))))
  refine wpQuiet_nil ?_
  rintro _ ⟨x, rfl⟩
  have h3 := HNn x
  have hA3 := (x.heap w.heap.size hg0).trans hA2
  have HB3 : Hid (Below w.heap.size w x.val) := HB2.out.trans (x.below.mono HB2.out.size)
  clear HNn HPp b2 b3 b5 a2 a3 a5 hA2 hZ hne hq h2 hp2
  generalize x.val = X at *
  clear x hg0 HB2
  go_wp2_with (first | (go_at_call 18; refine (len_none h3).mono ?_; rintro e W ⟨rfl, he⟩; obtain rfl := he.symm) | (go_at_call 25; refine (pend_none h3).mono ?_; rintro e W ⟨rfl, he⟩; obtain rfl := he.symm) | (go_at_call 34; refine (stopped_none h3).mono ?_; rintro e W ⟨rfl, he⟩; obtain rfl := he.symm) | (go_at_call 23; refine (made_none h3).mono ?_; rintro e W ⟨rfl, he⟩; obtain rfl := he.symm) | (go_at_call 24; refine (reads_none h3).mono ?_; rintro e W ⟨rfl, he⟩; obtain rfl := he.symm) | (go_at_call 26; refine (history_none h3).mono ?_; rintro e W ⟨rfl, he⟩; obtain rfl := he.symm) | (go_at_call 17; fail))
  refine (image_none h3).mono ?_
  rintro e X4 ⟨rfl, hb4⟩
  have h4 := (h3.later hb4).later (below_new X4 (.cells #[.int .i64 0, .slice none 0 0] 32))
  have hA4 := heap_kept (heap_kept hA3 hb4) (below_new X4 (.cells #[.int .i64 0, .slice none 0 0] 32))
  have a4 : X4.cell? ⟨w.heap.size, 4, none⟩ = some (.int .i64 n) := Joins.cell_of_block (heap_kept hA3 hb4) 4
  have hlt4 : w.heap.size < X4.heap.size := (Array.getElem?_eq_some_iff.1 (heap_kept hA3 hb4)).1
  have HB4 : Hid (Below w.heap.size w (X4.alloc (.cells #[.int .i64 0, .slice none 0 0] 32))) := (HB3.out.trans (hb4.mono HB3.out.size)).trans ((below_new X4 _).mono (by omega))
  clear hb4 h3 hA3 HB3
  go_wp2_with (first | (go_at_call 36; refine (claim_none h4).mono ?_; rintro e W ⟨rfl, he⟩; obtain rfl := he.symm) | (go_at_call 37; refine (claimed_none h4 n).mono ?_; rintro e W ⟨rfl, he⟩; obtain rfl := he.symm))
  go_ret
  exact ⟨rfl, HB4.out⟩
end Go.Proofs.Ytembocfghkmieaa
