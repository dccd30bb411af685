/- awake: the document's first examples hold of the program; no condition. -/
import Derived.Test.YtedbgeibhaiheabSets
import Derived.Test.YtedbgeibhaiheabBlank
import Derived.Test.YtedbgeibhaiheabJoin
import Derived.Deep.RegionWith
namespace Go.Proofs.Ytedbgeibhaiheab
open Go.RowKit

theorem upd_bytes {f : Nat → Int} (hf : ∀ i, 0 ≤ f i ∧ f i ≤ 255) (k : Nat) (x : Int) (hx : 0 ≤ x ∧ x ≤ 255) : ∀ i, 0 ≤ upd f k x i ∧ upd f k x i ≤ 255 := fun i => by
  unfold upd; split
  · exact hx
  · exact hf i
theorem putN_bytes : ∀ (m k : Nat) (f : Nat → Int) (v : Int), (∀ i, 0 ≤ f i ∧ f i ≤ 255) → ∀ i, 0 ≤ putN f k v m i ∧ putN f k v m i ≤ 255
  | 0, _, _, _, hf => hf
  | m + 1, k, f, v, hf => putN_bytes m (k + 1) _ _ (upd_bytes hf k _ (by omega))
theorem put_bytes (f : Nat → Int) (a : Int) (n : Nat) (v : Int) (hf : ∀ i, 0 ≤ f i ∧ f i ≤ 255) : ∀ i, 0 ≤ put f a n v i ∧ put f a n v i ≤ 255 := by
  unfold put; split
  · exact putN_bytes n _ f v hf
  · exact hf
theorem nought_bytes : ∀ i, 0 ≤ nought i ∧ nought i ≤ 255 := fun i => by unfold nought; omega

theorem wpList_of_quiet {P : Program} {ops : Array Oper} {C : World → Prop} {Q : Exit → Act → World → Prop} : ∀ (l : List Oper) (a : Act) (w : World), C w →
    wpQuiet P ops C (fun a' => ∀ w', C w' → Q .normal a' w') l a → wpList P ops Q l a w
  | [], _, w, hw, h => h w hw
  | o :: l, a, w, hw, h => by
    unfold wpQuiet at h
    unfold wpList
    split
    · rename_i hwt
      rw [if_pos hwt] at h
      exact .inl (Oper.wp_of_quiet hw (fun a' w' hw' hk => wpList_of_quiet l a' w' hw' hk) h)
    · rename_i hwt
      rw [if_neg hwt] at h
      exact wpList_of_quiet l _ w hw h
theorem wpList_later {ops : Array Oper} {l : List Oper} {Q : Exit → Act → World → Prop} {a : Act} {w : World} (W : World) (hW : Below W.heap.size W w)
    (h : wpQuiet Try.prog ops (fun w' => ∃ x : Later W, w' = x.val) (fun a' => ∀ w', (∃ x : Later W, w' = x.val) → Q .normal a' w') l a) : wpList Try.prog ops Q l a w :=
  wpList_of_quiet l a w ⟨⟨w, hW⟩, rfl⟩ h

theorem lies3 (w : World) (x y z : Int) : Lies (w.alloc (.cells #[.int .u8 x, .int .u8 y, .int .u8 z] 5)) (.slice (some ⟨w.heap.size, 0, none⟩) 3 3) 3 (fun i => if i = 0 then x else if i = 1 then y else z) := by
  refine .inr ⟨w.heap.size, 0, 3, rfl, by unfold maxLen; omega, by omega, by simp, fun i hi => ?_⟩
  have hh := heap_alloc_new w (.cells #[.int .u8 x, .int .u8 y, .int .u8 z] 5)
  rw [cell_of_row _ _ _ _ _ _ hh, Nat.zero_add]
  match i, hi with
  | 0, _ => rfl
  | 1, _ => rfl
  | 2, _ => rfl

set_option maxRecDepth 20000 in
set_option maxHeartbeats 1000000 in
theorem awake_any (w : World) : Calls Try.prog 11 #[] w fun e w' => e = .returned (.bool true) ∧ Below w.heap.size w w' := by
  have z25 := zero25
  have hbd : ∀ u : World, (Instr.build 23 #[]).run Try.prog u = .ok (.agg (blk nought)) u := fun u => by
    simp [Instr.build, z25, run_underlying Try.underlying23, Try.sizeOf5, Instr.fill, Value.cells]
  go_enter Try.func11, Try.ntmps11
  go_wp2_with fail
  refine (set16_any nought 0 4660 _ (by omega)).mono ?_
  rintro e W1 ⟨rfl, hb1⟩
  go_wp2_with (first | refine wpList_store25_new rfl _ _ rfl _ _ rfl rfl ?_)
  generalize hW : W1.alloc (.cells (blk (put nought 0 2 4660)) 23) = A1
  have hA1 : A1.heap[W1.heap.size]? = some (.cells (blk (put nought 0 2 4660)) 23) := by rw [← hW]; exact heap_alloc_new _ _
  have hAb : Below w.heap.size w A1 := by rw [← hW]; exact hb1.alloc hb1.size _
  have hA1s : W1.heap.size < A1.heap.size := by rw [← hW]; simp
  clear hW
  refine (set32_any nought 1020 7 _ (by omega)).mono ?_
  rintro e W2 ⟨rfl, hb2⟩
  go_wp2_with (first | refine wpList_store25_new rfl _ _ rfl _ _ rfl rfl ?_)
  generalize hW : W2.alloc (.cells (blk (put nought 1020 4 7)) 23) = A2
  have hA2 : A2.heap[W2.heap.size]? = some (.cells (blk (put nought 1020 4 7)) 23) := by rw [← hW]; exact heap_alloc_new _ _
  have hA1' : A2.heap[W1.heap.size]? = some (.cells (blk (put nought 0 2 4660)) 23) := by
    rw [← hW]; exact ((hb2.alloc hb2.size (.cells (blk (put nought 1020 4 7)) 23)).block _ hA1s).trans hA1
  have hAb2 : Below w.heap.size w A2 := by rw [← hW]; exact (hAb.trans (hb2.mono hAb.size)).alloc (Nat.le_trans hAb.size hb2.size) _
  have hs : A2.heap.size = W2.heap.size + 1 := by rw [← hW]; simp
  clear hW hA1 hAb hb1 hb2 hA1s
  have hcut := cut_lies (lies3 A2 1 2 3) (by omega)
  rw [hs, show blocksOf 3 = 1 from rfl] at hcut
  refine hcut.mono ?_
  clear hcut
  rintro e W ⟨rfl, hWl, hWs, hWb⟩
  have hWb' : Below A2.heap.size A2 W := ((Below.refl _ _).alloc (Nat.le_refl _) _).trans (hWb.mono (by simp))
  have hg : (A2.alloc (.cells #[.int .u8 1, .int .u8 2, .int .u8 3] 5)).heap.size = A2.heap.size + 1 := by simp
  rw [hg] at hWl hWs
  have hW1 : W.heap[W1.heap.size]? = some (.cells (blk (put nought 0 2 4660)) 23) := (hWb'.block _ (Array.getElem?_eq_some_iff.1 hA1').1).trans hA1'
  have hW2 : W.heap[W2.heap.size]? = some (.cells (blk (put nought 1020 4 7)) 23) := (hWb'.block _ (Array.getElem?_eq_some_iff.1 hA2).1).trans hA2
  have hWw : Below w.heap.size w W := hAb2.trans (hWb'.mono hAb2.size)
  clear hWb hWb' hA1' hA2 hAb2
  rw [hg]
  generalize hG : A2.heap.size + 1 = G at hWl hWs ⊢
  clear hG hg hs
  have c0 : ∀ x : Later W, x.val.cell? ⟨W1.heap.size, 0, none⟩ = some (.int .u8 52) := fun x => cell_row (f := put nought 0 2 4660) (m := 1024) ((x.heap _ (Array.getElem?_eq_some_iff.1 hW1).1).trans hW1) 0 (by omega)
  have c1 : ∀ x : Later W, x.val.cell? ⟨W1.heap.size, 1, none⟩ = some (.int .u8 18) := fun x => cell_row (f := put nought 0 2 4660) (m := 1024) ((x.heap _ (Array.getElem?_eq_some_iff.1 hW1).1).trans hW1) 1 (by omega)
  have c2 : ∀ x : Later W, x.val.cell? ⟨G, 2, none⟩ = some (.int .u8 3) := fun x => cell_row (f := firsts (fun i => if i = 0 then 1 else if i = 1 then 2 else 3) 3) (m := 1 * 1024) ((x.heap _ (Array.getElem?_eq_some_iff.1 hWl).1).trans hWl) 2 (by omega)
  have p1 := put_bytes nought 0 2 4660 nought_bytes
  have p2 := put_bytes nought 1020 4 7 nought_bytes
  have k1 : ∀ x : Later W, Calls Try.prog 14 #[.agg (blk (put nought 0 2 4660)), .int .i64 0] x.val fun e w' => e = .returned (.int .u16 4660) ∧ Below x.val.heap.size x.val w' := fun x => u16_any _ 0 _ p1
  have k2 : ∀ x : Later W, Calls Try.prog 14 #[.agg (blk (put nought 0 2 4660)), .int .i64 1] x.val fun e w' => e = .returned (.int .u16 18) ∧ Below x.val.heap.size x.val w' := fun x => u16_any _ 1 _ p1
  have k3 : ∀ x : Later W, Calls Try.prog 15 #[.agg (blk (put nought 1020 4 7)), .int .i64 1020] x.val fun e w' => e = .returned (.int .u32 7) ∧ Below x.val.heap.size x.val w' := fun x => u32_any _ 1020 _ p2
  have k4 : ∀ x : Later W, Calls Try.prog 15 #[.agg (blk (put nought 1020 4 7)), .int .i64 1021] x.val fun e w' => e = .returned (.int .u32 0) ∧ Below x.val.heap.size x.val w' := fun x => u32_any _ 1021 _ p2
  have k5 : ∀ x : Later W, Calls Try.prog 16 #[.agg (blk nought)] x.val fun e w' => e = .returned (.bool true) ∧ Below x.val.heap.size x.val w' := fun x => by
    have := blank_any nought x.val
    rwa [sameB_self] at this
  have k6 : ∀ x : Later W, Calls Try.prog 16 #[.agg (blk (put nought 0 2 4660))] x.val fun e w' => e = .returned (.bool false) ∧ Below x.val.heap.size x.val w' := fun x => by
    have := blank_any (put nought 0 2 4660) x.val
    have e : sameB (put nought 0 2 4660) nought = false := by
      cases h : sameB (put nought 0 2 4660) nought with
      | false => rfl
      | true => exact absurd ((sameB_iff _ _).1 h 0 (by omega)) (by decide)
    rwa [e] at this
  clear p1 p2
  generalize put nought 0 2 4660 = B1 at *
  generalize put nought 1020 4 7 = B2 at *
  have hne := later_some W
  go_wp2_with (first | refine wpList_later W (Below.refl _ _) ?_)
  repeat (first
    | (go_big_quiet_want; refine quiet_load25 _ rfl _ rfl _ hW1 ?_; simp only [Act.put, List.setIfInBounds_toArray, List.set_cons_succ, List.set_cons_zero]; go_big_quiet_on)
    | (go_big_quiet_want; refine quiet_load25 _ rfl _ rfl _ hW2 ?_; simp only [Act.put, List.setIfInBounds_toArray, List.set_cons_succ, List.set_cons_zero]; go_big_quiet_on)
    | go_big_quiet_step (first
        | (go_at_call_of 14 (Value.int .i64 0); exact Later.call _ (k1 _))
        | (go_at_call_of 14 (Value.int .i64 1); exact Later.call _ (k2 _))
        | (go_at_call_of 15 (Value.int .i64 1020); exact Later.call _ (k3 _))
        | (go_at_call_of 15 (Value.int .i64 1021); exact Later.call _ (k4 _))
        | (go_at_call_of 16 (Value.agg (blk nought)); exact Later.call _ (k5 _))
        | (go_at_call_of 16 (Value.agg (blk B1)); exact Later.call _ (k6 _))))
  refine wpQuiet_nil ?_
  rintro _ ⟨y, rfl⟩
  go_wp2
  go_ret
  exact ⟨rfl, hWw.trans (y.below.mono hWw.size)⟩

end Go.Proofs.Ytedbgeibhaiheab
