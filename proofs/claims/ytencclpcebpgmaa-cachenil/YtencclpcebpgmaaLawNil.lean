/- The law of caches that are none answers true, whatever came in; no condition. -/
import Derived.Test.YtencclpcebpgmaaAwakeC
import Derived.Test.YtencclpcebpgmaaNilC
import Derived.Test.YtencclpcebpgmaaFew
import Derived.Deep.Cut
namespace Go.Proofs.Ytencclpcebpgmaa
open Go.RowKit Go.Maps
theorem exec_neq59 {o : Oper} {a : Act} {x y : Operand} {F G : Array Value} {f g : Nat → Int} {u : World} (ho : o.op = .binOp .neq 59 x y 59) (hx : a.eval x = .agg F) (hy : a.eval y = .agg G) (hF : blk f = F) (hG : blk g = G) (hr : sameB f g = true) : (execOp a.eval o).run Try.prog u = .ok (.value (.bool false)) u := by
  have e0 := eq25 f g u
  rw [hr, hF, hG] at e0
  have e : (binOp .neq 59 (.agg F) (.agg G)).run Try.prog u = .ok (.bool false) u := by
    simp only [binOp, Op.equal, Op.maxDepth, Sem.run_bind, e0, Result.andThen_ok, Sem.run_pure]
    rfl
  have eg : (eqGuard .neq 59 x y (.agg F) (.agg G)).run Try.prog u = .ok () u := by
    unfold eqGuard
    simp
  unfold execOp
  simp only [ho, hx, hy, Sem.run_bind, eg, e, Result.andThen_ok, Sem.run_pure]
theorem exec_len54 {o : Oper} {a : Act} {x : Operand} {p : Option Addr} {n c : Nat} {u : World} (ho : o.op = .call { callee := .builtin .len, args := #[x], argTypes := #[54] }) (hx : a.eval x = .slice p n c) : (execOp a.eval o).run Try.prog u = .ok (.value (.int .i64 (n : Int))) u := by
  simp [execOp, ho, resolve, invoke, builtin, hx, Builtin.len_, run_underlying Try.underlying54]
  rfl
theorem exec_idx79 {o : Oper} {a : Act} {x y : Operand} {g k : Nat} {u : World} (ho : o.op = .indexAddr 79 x y) (hx : a.eval x = .slice (some ⟨g, 0, none⟩) 2 2) (hy : a.eval y = .int .i64 (k : Int)) (hk : (k : Int) < 2) : (execOp a.eval o).run Try.prog u = .ok (.value (.pointer (some ⟨g, k, none⟩))) u := by
  have hk' : k < 2 := by omega
  simp only [execOp, ho, hx, hy]
  go_simp
theorem exec_load30 {o : Oper} {a : Act} {x : Operand} {g k : Nat} {v : Value} {u : World} (ho : o.op = .load 30 x) (hx : a.eval x = .pointer (some ⟨g, k, none⟩)) (hc : u.cell? ⟨g, k, none⟩ = some v) : (execOp a.eval o).run Try.prog u = .ok (.value v) u := by
  simp only [execOp, ho, hx]
  go_simp
theorem below3 {a b c : World} (h : Below a.heap.size a b) (k : Below b.heap.size b c) : Below a.heap.size a c := below_next h k
def nilRow : Array Value := #[.pointer none, .pointer none, .int .i64 0, .map none, .pointer none, .int .i64 0]
def rawRow : Array Value := #[.pointer none, .int .i64 0, .map none, .slice none 0 0, .int .i64 0, .map none, .int .i64 0, .bool false, .int .i64 0, .int .i64 0, .int .i64 0, .bool false]
def vk (w : World) (k : Nat) : Value := if k = 0 then .pointer none else .pointer (some ⟨w.heap.size, 0, none⟩)
structure heapFacts (w V : World) : Prop where
  h7 : V.heap[w.heap.size]? = some (.cells nilRow 73)
  h8 : V.heap[w.heap.size + 1]? = some (.cells rawRow 78)
  h9 : V.heap[w.heap.size + 1 + 1]? = some (.cells #[.pointer none, .pointer (some ⟨w.heap.size, 0, none⟩)] 30)
  bel : Below w.heap.size w V
theorem heap_facts (w : World) : heapFacts w (((w.alloc (.cells nilRow 73)).alloc (.cells rawRow 78)).alloc (.cells #[.pointer none, .pointer (some ⟨w.heap.size, 0, none⟩)] 30)) := by
  have e1 : ∀ (u : World) (x : Obj), (u.alloc x).heap.size = u.heap.size + 1 := fun u x => by simp
  have h1 := heap_alloc_new w (.cells nilRow 73)
  have h2 := heap_alloc_new (w.alloc (.cells nilRow 73)) (.cells rawRow 78)
  have h3 := heap_alloc_new ((w.alloc (.cells nilRow 73)).alloc (.cells rawRow 78)) (.cells #[.pointer none, .pointer (some ⟨w.heap.size, 0, none⟩)] 30)
  rw [e1] at h2
  rw [e1, e1] at h3
  exact ⟨heap_kept (heap_kept h1 (below_new _ _)) (below_new _ _), heap_kept h2 (below_new _ _), h3, (((Below.refl _ _).alloc (Nat.le_refl _) _).alloc (by simp) _).alloc (by simp; omega) _⟩
variable {w V u : World}
theorem heapFacts.cell (h : heapFacts w V) {k : Nat} (hk : k < 2) (hb : Below V.heap.size V u) : u.cell? ⟨w.heap.size + 1 + 1, k, none⟩ = some (vk w k) := by
  rw [Joins.cell_of_block (heap_kept h.h9 hb)]
  unfold vk
  match k, hk with
  | 0, _ => rfl
  | 1, _ => rfl
theorem heapFacts.nones (h : heapFacts w V) (k : Nat) (hb : Below V.heap.size V u) : NoneAt u (vk w k) := by
  unfold vk
  split
  · exact .inl rfl
  · exact .inr ⟨_, rfl, by rw [Joins.cell_of_block (heap_kept h.h7 hb)]; rfl⟩
theorem heapFacts.raw (h : heapFacts w V) (hb : Below V.heap.size V u) : NoneAt u (.pointer (some ⟨w.heap.size + 1, 0, none⟩)) := .inr ⟨_, rfl, by rw [Joins.cell_of_block (heap_kept h.h8 hb)]; rfl⟩
theorem heapFacts.below (h : heapFacts w V) (hb : Below V.heap.size V u) : Below w.heap.size w u := below_next h.bel hb
set_option maxRecDepth 20000 in
set_option maxHeartbeats 40000000 in
theorem law_nil {w : World} (at_ fill size : Int) (hf : 0 ≤ fill ∧ fill < 65536) :
    Calls Try.prog 6 #[.int .i64 at_, .int .u16 fill, .int .i64 size] w fun e w' => e = .returned (.bool true) ∧ Below w.heap.size w w' := by
  have HFill : Hid (∀ W, Calls Try.prog 35 #[.int .u16 fill] W fun e w' => e = .returned (.agg (blk (fillF fill))) ∧ Below W.heap.size W w') := fill_any fill hf
  have z25 := zero25
  have hbd := built58
  have hnn := sameB_refl nought
  generalize hFB0 : fillF fill = ff at *
  go_enter Try.func6, Try.ntmps6
  go_wp2
  have HK0 : Hid (heapFacts w (((w.alloc (.cells nilRow 73)).alloc (.cells rawRow 78)).alloc (.cells #[.pointer none, .pointer (some ⟨w.heap.size, 0, none⟩)] 30))) := heap_facts w
  generalize hV0 : ((w.alloc (.cells nilRow 73)).alloc (.cells rawRow 78)).alloc (.cells #[.pointer none, .pointer (some ⟨w.heap.size, 0, none⟩)] 30) = V0 at *
  unfold nilRow rawRow at hV0
  rw [hV0]
  clear hV0
  go_loopw [10] (fun s10 wx => ∃ k : Nat, k ≤ 2 ∧ s10 = .int .i64 k ∧ Hid (Below V0.heap.size V0 wx)) (fun s10 _ => 2 - (intOf s10).toNat)
  case atStart => exact ⟨0, by omega, rfl, Below.refl _ _⟩
  case round =>
    obtain ⟨k, hk, rfl, HB⟩ := hrel
    by_cases hk2 : (k : Int) < 2
    · obtain ⟨v, hv⟩ : ∃ v, v = vk w k := ⟨_, rfl⟩
      have hcw : wr.cell? ⟨w.heap.size + 1 + 1, k, none⟩ = some v := by rw [hv]; exact HK0.out.cell (by omega) HB.out
      have HNone : Hid (∀ u, Below wr.heap.size wr u → NoneAt u v) := fun u hu => by rw [hv]; exact HK0.out.nones k (below3 HB.out hu)
      have hrd := readC_none (HNone.out wr (Below.refl _ _)) at_
      have HRd : Hid (Calls Try.prog 24 _ _ _) := hrd
      clear hrd hv
      go_wp2_with (go_at_call 24; fail)
      refine HRd.out.mono ?_
      rintro e W1 ⟨rfl, hb1⟩
      have hb2 := below3 hb1 (below_new W1 (.cells (blk nought) 59))
      have hR1 := heap_alloc_new W1 (.cells (blk nought) 59)
      go_upto_region 8 with (refine wpList_store58_new rfl (.tmp 11) (.tmp 29) rfl nought _ _ rfl rfl rfl ?_)
      generalize hg11 : W1.heap.size = g11 at *
      generalize W1.alloc (.cells (blk nought) 59) = X at *
      have hCell : ∀ u, Below X.heap.size X u → u.cell? ⟨w.heap.size + 1 + 1, k, none⟩ = some v := fun u hu => ((below3 hb2 hu).cell (p := ⟨w.heap.size + 1 + 1, k, none⟩) (cell_lt hcw)).trans hcw
      have HNone2 : Hid (∀ u, Below X.heap.size X u → NoneAt u v) := fun u hu => HNone.out u (below3 hb2 hu)
      have HPut : Hid (∀ u, Below X.heap.size X u → Calls Try.prog 25 #[v, .int .i64 at_, .agg (blk ff)] u fun e w' => e = .returned (.int .i64 1) ∧ Below u.heap.size u w') := fun u hu => putC_none (HNone2.out u hu) at_ ff
      have hRow : ∀ u, Below X.heap.size X u → u.heap[g11]? = some (.cells (blk nought) 59) := fun u hu => heap_kept hR1 hu
      have HBX : Hid (Below V0.heap.size V0 X) := below3 HB.out hb2
      have HNone := HNone2
      generalize hNB : blk nought = NB at *
      generalize hFB : blk ff = FB at *
      generalize hg9 : w.heap.size + 1 + 1 = g9 at *
      have hS0 : Below X.heap.size X X.drew := (Below.refl _ _).drew
      clear HRd hb1 hb2 hR1 hcw HNone2 hg11
      refine wp_region_steps (S := fun u => Below X.heap.size X u) [.inl 0, .inl 1, .inl 2, .inl 3, .inl 4, .inl 5, .inl 6, .inl 7, .inl 8, .inl 9, .inl 10, .inl 11, .inl 12, .inl 13, .inr (.inl 14), .inr (.inl 15), .inl 16, .inl 17, .inl 18, .inl 19, .inl 20, .inl 21, .inl 22, .inl 23, .inr (.inl 24), .inl 25, .inl 26, .inl 27, .inl 28, .inl 29, .inl 30, .inl 31, .inr (.inl 32), .inl 33, .inl 34, .inl 35, .inl 36, .inl 37, .inl 38, .inl 39, .inr (.inl 40), .inl 41, .inl 42, .inl 43, .inl 44, .inl 45, .inl 46, .inl 47, .inr (.inl 48), .inl 49, .inl 50, .inl 51] (by kernel_rfl) (by kernel_rfl) (by kernel_rfl) (fun d _ _ _ _ h => by cases d <;> exact h) hS0 ?_
      simp only [inSt, List.getElem?_cons_zero, List.getElem?_cons_succ]
      refine wpSt_move (by kernel_rfl) _ rfl ?_
      simp only [Act.put, List.setIfInBounds_toArray, List.set_cons_succ, List.set_cons_zero]
      refine wpSt_yield (v := .bool false) (by kernel_rfl) (fun u hu => by go_simp) ?_
      simp only [Act.put, List.setIfInBounds_toArray, List.set_cons_succ, List.set_cons_zero]
      refine wpSt_move (by kernel_rfl) _ rfl ?_
      simp only [Act.put, List.setIfInBounds_toArray, List.set_cons_succ, List.set_cons_zero]
      refine wpSt_yield (v := .agg NB) (by kernel_rfl) (fun u hu => exec_load59 (g := g11) rfl rfl hNB (hRow u hu)) ?_
      simp only [Act.put, List.setIfInBounds_toArray, List.set_cons_succ, List.set_cons_zero]
      refine wpSt_yield (v := .agg NB) (by kernel_rfl) (fun u hu => exec_build59 rfl (hbd u)) ?_
      simp only [Act.put, List.setIfInBounds_toArray, List.set_cons_succ, List.set_cons_zero]
      refine wpSt_yield (v := .bool false) (by kernel_rfl) (fun u hu => exec_neq59 rfl rfl rfl hNB hNB hnn) ?_
      simp only [Act.put, List.setIfInBounds_toArray, List.set_cons_succ, List.set_cons_zero]
      refine wpSt_yield (v := .bool false) (by kernel_rfl) (fun u hu => by go_simp) ?_
      simp only [Act.put, List.setIfInBounds_toArray, List.set_cons_succ, List.set_cons_zero]
      refine wpSt_move (by kernel_rfl) _ rfl ?_
      simp only [Act.put, List.setIfInBounds_toArray, List.set_cons_succ, List.set_cons_zero]
      refine wpSt_move (by kernel_rfl) _ rfl ?_
      simp only [Act.put, List.setIfInBounds_toArray, List.set_cons_succ, List.set_cons_zero]
      refine wpSt_move (by kernel_rfl) _ rfl ?_
      simp only [Act.put, List.setIfInBounds_toArray, List.set_cons_succ, List.set_cons_zero]
      refine wpSt_yield (v := .pointer (some ⟨g9, k, none⟩)) (by kernel_rfl) (fun u hu => exec_idx79 rfl rfl rfl hk2) ?_
      simp only [Act.put, List.setIfInBounds_toArray, List.set_cons_succ, List.set_cons_zero]
      refine wpSt_yield (v := v) (by kernel_rfl) (fun u hu => exec_load30 rfl rfl (hCell u hu)) ?_
      simp only [Act.put, List.setIfInBounds_toArray, List.set_cons_succ, List.set_cons_zero]
      refine wpSt_move (by kernel_rfl) _ rfl ?_
      simp only [Act.put, List.setIfInBounds_toArray, List.set_cons_succ, List.set_cons_zero]
      refine wpSt_move (by kernel_rfl) _ rfl ?_
      simp only [Act.put, List.setIfInBounds_toArray, List.set_cons_succ, List.set_cons_zero]
      refine wpSt_act ?_
      refine act_call (by kernel_rfl) 35 _ _ rfl Try.call35 [.int .u16 fill] rfl ?_
      refine (HFill.out _).mono ?_
      rintro e X1 ⟨rfl, hx1⟩
      have hS1 := below3 hS0 hx1
      refine ⟨_, rfl, hS1, ?_⟩
      simp only [Act.put, List.setIfInBounds_toArray, List.set_cons_succ, List.set_cons_zero]
      refine wpSt_act ?_
      refine act_call (by kernel_rfl) 25 _ _ rfl Try.call25 [v, .int .i64 at_, .agg FB] rfl ?_
      refine (HPut.out _ hS1).mono ?_
      rintro e X2 ⟨rfl, hx2⟩
      have hS2 := below3 hS1 hx2
      refine ⟨_, rfl, hS2, ?_⟩
      simp only [Act.put, List.setIfInBounds_toArray, List.set_cons_succ, List.set_cons_zero]
      refine wpSt_yield (v := .bool false) (by kernel_rfl) (fun u hu => by go_simp) ?_
      simp only [Act.put, List.setIfInBounds_toArray, List.set_cons_succ, List.set_cons_zero]
      refine wpSt_yield (v := .bool false) (by kernel_rfl) (fun u hu => by go_simp) ?_
      simp only [Act.put, List.setIfInBounds_toArray, List.set_cons_succ, List.set_cons_zero]
      refine wpSt_move (by kernel_rfl) _ rfl ?_
      simp only [Act.put, List.setIfInBounds_toArray, List.set_cons_succ, List.set_cons_zero]
      refine wpSt_move (by kernel_rfl) _ rfl ?_
      simp only [Act.put, List.setIfInBounds_toArray, List.set_cons_succ, List.set_cons_zero]
      refine wpSt_move (by kernel_rfl) _ rfl ?_
      simp only [Act.put, List.setIfInBounds_toArray, List.set_cons_succ, List.set_cons_zero]
      refine wpSt_yield (v := .pointer (some ⟨g9, k, none⟩)) (by kernel_rfl) (fun u hu => exec_idx79 rfl rfl rfl hk2) ?_
      simp only [Act.put, List.setIfInBounds_toArray, List.set_cons_succ, List.set_cons_zero]
      refine wpSt_yield (v := v) (by kernel_rfl) (fun u hu => exec_load30 rfl rfl (hCell u hu)) ?_
      simp only [Act.put, List.setIfInBounds_toArray, List.set_cons_succ, List.set_cons_zero]
      refine wpSt_move (by kernel_rfl) _ rfl ?_
      simp only [Act.put, List.setIfInBounds_toArray, List.set_cons_succ, List.set_cons_zero]
      refine wpSt_act ?_
      refine act_call (by kernel_rfl) 26 _ _ rfl Try.call26 [v, .int .i64 at_] rfl ?_
      refine (flushC_none (HNone.out _ hS2) at_).mono ?_
      rintro e X3 ⟨rfl, rfl⟩
      refine ⟨_, rfl, hS2, ?_⟩
      simp only [Act.put, List.setIfInBounds_toArray, List.set_cons_succ, List.set_cons_zero]
      refine wpSt_yield (v := .bool false) (by kernel_rfl) (fun u hu => by go_simp) ?_
      simp only [Act.put, List.setIfInBounds_toArray, List.set_cons_succ, List.set_cons_zero]
      refine wpSt_yield (v := .bool false) (by kernel_rfl) (fun u hu => by go_simp) ?_
      simp only [Act.put, List.setIfInBounds_toArray, List.set_cons_succ, List.set_cons_zero]
      refine wpSt_move (by kernel_rfl) _ rfl ?_
      simp only [Act.put, List.setIfInBounds_toArray, List.set_cons_succ, List.set_cons_zero]
      refine wpSt_move (by kernel_rfl) _ rfl ?_
      simp only [Act.put, List.setIfInBounds_toArray, List.set_cons_succ, List.set_cons_zero]
      refine wpSt_move (by kernel_rfl) _ rfl ?_
      simp only [Act.put, List.setIfInBounds_toArray, List.set_cons_succ, List.set_cons_zero]
      refine wpSt_yield (v := .pointer (some ⟨g9, k, none⟩)) (by kernel_rfl) (fun u hu => exec_idx79 rfl rfl rfl hk2) ?_
      simp only [Act.put, List.setIfInBounds_toArray, List.set_cons_succ, List.set_cons_zero]
      refine wpSt_yield (v := v) (by kernel_rfl) (fun u hu => exec_load30 rfl rfl (hCell u hu)) ?_
      simp only [Act.put, List.setIfInBounds_toArray, List.set_cons_succ, List.set_cons_zero]
      refine wpSt_act ?_
      refine act_call (by kernel_rfl) 27 _ _ rfl Try.call27 [v] rfl ?_
      refine (fast_none (HNone.out _ hS2)).mono ?_
      rintro e X4 ⟨rfl, rfl⟩
      refine ⟨_, rfl, hS2, ?_⟩
      simp only [Act.put, List.setIfInBounds_toArray, List.set_cons_succ, List.set_cons_zero]
      refine wpSt_yield (v := .bool false) (by kernel_rfl) (fun u hu => by go_simp) ?_
      simp only [Act.put, List.setIfInBounds_toArray, List.set_cons_succ, List.set_cons_zero]
      refine wpSt_yield (v := .bool false) (by kernel_rfl) (fun u hu => by go_simp) ?_
      simp only [Act.put, List.setIfInBounds_toArray, List.set_cons_succ, List.set_cons_zero]
      refine wpSt_move (by kernel_rfl) _ rfl ?_
      simp only [Act.put, List.setIfInBounds_toArray, List.set_cons_succ, List.set_cons_zero]
      refine wpSt_move (by kernel_rfl) _ rfl ?_
      simp only [Act.put, List.setIfInBounds_toArray, List.set_cons_succ, List.set_cons_zero]
      refine wpSt_move (by kernel_rfl) _ rfl ?_
      simp only [Act.put, List.setIfInBounds_toArray, List.set_cons_succ, List.set_cons_zero]
      refine wpSt_yield (v := .pointer (some ⟨g9, k, none⟩)) (by kernel_rfl) (fun u hu => exec_idx79 rfl rfl rfl hk2) ?_
      simp only [Act.put, List.setIfInBounds_toArray, List.set_cons_succ, List.set_cons_zero]
      refine wpSt_yield (v := v) (by kernel_rfl) (fun u hu => exec_load30 rfl rfl (hCell u hu)) ?_
      simp only [Act.put, List.setIfInBounds_toArray, List.set_cons_succ, List.set_cons_zero]
      refine wpSt_act ?_
      refine act_call (by kernel_rfl) 29 _ _ rfl Try.call29 [v] rfl ?_
      refine (lenC_none (HNone.out _ hS2)).mono ?_
      rintro e X5 ⟨rfl, rfl⟩
      refine ⟨_, rfl, hS2, ?_⟩
      simp only [Act.put, List.setIfInBounds_toArray, List.set_cons_succ, List.set_cons_zero]
      refine wpSt_yield (v := .bool false) (by kernel_rfl) (fun u hu => by go_simp) ?_
      simp only [Act.put, List.setIfInBounds_toArray, List.set_cons_succ, List.set_cons_zero]
      refine wpSt_yield (v := .bool false) (by kernel_rfl) (fun u hu => by go_simp) ?_
      simp only [Act.put, List.setIfInBounds_toArray, List.set_cons_succ, List.set_cons_zero]
      refine wpSt_move (by kernel_rfl) _ rfl ?_
      simp only [Act.put, List.setIfInBounds_toArray, List.set_cons_succ, List.set_cons_zero]
      refine wpSt_move (by kernel_rfl) _ rfl ?_
      simp only [Act.put, List.setIfInBounds_toArray, List.set_cons_succ, List.set_cons_zero]
      refine wpSt_move (by kernel_rfl) _ rfl ?_
      simp only [Act.put, List.setIfInBounds_toArray, List.set_cons_succ, List.set_cons_zero]
      refine wpSt_yield (v := .pointer (some ⟨g9, k, none⟩)) (by kernel_rfl) (fun u hu => exec_idx79 rfl rfl rfl hk2) ?_
      simp only [Act.put, List.setIfInBounds_toArray, List.set_cons_succ, List.set_cons_zero]
      refine wpSt_yield (v := v) (by kernel_rfl) (fun u hu => exec_load30 rfl rfl (hCell u hu)) ?_
      simp only [Act.put, List.setIfInBounds_toArray, List.set_cons_succ, List.set_cons_zero]
      refine wpSt_act ?_
      refine act_call (by kernel_rfl) 31 _ _ rfl Try.call31 [v] rfl ?_
      refine (orderC_none (HNone.out _ hS2)).mono ?_
      rintro e X6 ⟨rfl, rfl⟩
      refine ⟨_, rfl, hS2, ?_⟩
      simp only [Act.put, List.setIfInBounds_toArray, List.set_cons_succ, List.set_cons_zero]
      refine wpSt_yield (v := .int .i64 0) (by kernel_rfl) (fun u hu => exec_len54 (p := none) (n := 0) (c := 0) rfl rfl) ?_
      simp only [Act.put, List.setIfInBounds_toArray, List.set_cons_succ, List.set_cons_zero]
      refine wpSt_yield (v := .bool false) (by kernel_rfl) (fun u hu => by go_simp) ?_
      simp only [Act.put, List.setIfInBounds_toArray, List.set_cons_succ, List.set_cons_zero]
      refine wpSt_yield (v := .bool false) (by kernel_rfl) (fun u hu => by go_simp) ?_
      simp only [Act.put, List.setIfInBounds_toArray, List.set_cons_succ, List.set_cons_zero]
      refine wpSt_nil ?_
      go_wp2
      subst hg9
      go_roundw
      case measure => simp [intOf]; omega
      case rel => exact ⟨k + 1, by omega, by go_num, below3 HBX.out hS2⟩
    · obtain rfl : k = 2 := by omega
      have hN1 := newC_none (W := wr) (v := .pointer none) (.inl rfl) size
      have hN2 := newC_none (HK0.out.raw HB.out) size
      have HAW : Hid (Calls Try.prog 9 _ _ _) := awake_any wr
      have hbw : Below w.heap.size w wr := HK0.out.below HB.out
      have HBW : Hid (Below w.heap.size w wr) := hbw
      clear hbw
      unfold nilp at hN1 hN2
      have HN1 : Hid (Calls Try.prog 11 _ _ _) := hN1
      have HN2 : Hid (Calls Try.prog 11 _ _ _) := hN2
      clear hN1 hN2
      go_wp2_with (go_at_call 11; fail)
      refine HN1.out.mono ?_
      rintro e Y1 ⟨rfl, he⟩
      obtain rfl := he.symm
      clear HN1
      go_wp2_with (go_at_call 11; fail)
      refine HN2.out.mono ?_
      rintro e Y2 ⟨rfl, he⟩
      obtain rfl := he.symm
      clear HN2
      go_wp2_with (go_at_call 9; fail)
      refine HAW.out.mono ?_
      rintro e Y3 ⟨rfl, hy3⟩
      go_wp2
      go_ret
      exact ⟨rfl, below_next HBW.out hy3⟩
end Go.Proofs.Ytencclpcebpgmaa
