/- Several texts joined, each with its own remark; no condition. -/
import Derived.Test.YtlcdpmjdnihocaaGreatF14
import Derived.Deep.Cut
import Derived.Deep.CutRange
import Derived.Deep.Slices
import Derived.ProofKit
import Derived.OpenShut
import Derived.Test.YtlcdpmjdnihocaaGreatF4
/- Whole rows loaded and stored, of any type; blocks with their numbers in rows of their own; no condition. -/
namespace Go.Proofs.YtlcdpmjdnihocaaGreatD
open Go.RowKit Go.Maps
section
variable {ops : Array Oper} {rest : List Oper} {Q : Exit → Act → World → Prop} {a : Act} {w : World} {dst : Option Tmp} {x y : Operand} {ty : TypeId} {pos : String} {aft : Array Edge} {gd : Option (Nat × Bool)}
theorem isLoad (t : TypeId) (h : wpList Tryz.prog ops Q (⟨dst, .load t x, ty, pos, aft, gd⟩ :: rest) a w) : wpList Tryz.prog ops Q (⟨dst, .load t x, ty, pos, aft, gd⟩ :: rest) a w := h
theorem isStore (t : TypeId) (h : wpList Tryz.prog ops Q (⟨dst, .store t x y, ty, pos, aft, gd⟩ :: rest) a w) : wpList Tryz.prog ops Q (⟨dst, .store t x y, ty, pos, aft, gd⟩ :: rest) a w := h
theorem isEq (t t' : TypeId) {bo : BinOp} (h : wpList Tryz.prog ops Q (⟨dst, .binOp bo t x y t', ty, pos, aft, gd⟩ :: rest) a w) : wpList Tryz.prog ops Q (⟨dst, .binOp bo t x y t', ty, pos, aft, gd⟩ :: rest) a w := h
end
section
variable {ops : Array Oper} {rest : List Oper} {o : Oper} {a : Act} {w : World} {Q : Exit → Act → World → Prop}
/-- A whole row is loaded, of any type that is a row. -/
theorem wpList_ldR (ty : TypeId) {d : TypeDesc} (hu : Tryz.prog.underlying ty = some d) (hd : d.isRow = true) (hw : Region.wanted o (yielded ops a.tmps) = true) (x : Operand) (ho : o.op = .load ty x)
    (g : Nat) (hx : a.eval x = .pointer (some ⟨g, 0, none⟩)) (cs : Array Value) (t : TypeId) (fr : Nat × Nat) (hi : (Tryz.prog.info? ty).map (·.size) = some cs.size) (hg : w.heap[g]? = some (.cells cs t fr))
    (h : wpList Tryz.prog ops Q rest (a.put o.dst (.agg cs)) w) : wpList Tryz.prog ops Q (o :: rest) a w := by
  unfold wpList
  rw [if_pos hw]
  refine .inl ?_
  unfold Oper.wp execOp
  simp only [ho, hx, Instr.loadAt, Instr.sureAddr, Sem.run_bind, Sem.run_pure, Result.andThen_ok, run_loadVar_row w g t ty cs fr d hg hu (by cases d <;> first | rfl | cases hd) hi]
  exact h
theorem wpList_stR (ty : TypeId) (hgd : o.guard = none) (x y : Operand) (ho : o.op = .store ty x y)
    (g : Nat) (cs c0 : Array Value) (t : TypeId) (hi : (Tryz.prog.info? ty).map (·.size) = some cs.size) (hs : c0.size = cs.size) (h1 : cs.all (·.oneCell') = true)
    (hx : a.eval x = .pointer (some ⟨g, 0, none⟩)) (hy : a.eval y = .agg cs) (hg : w.heap[g]? = some (.cells c0 t))
    (h : wpList Tryz.prog ops Q rest (a.put o.dst undef) (w.setRow g cs)) : wpList Tryz.prog ops Q (o :: rest) a w :=
  wpList_plain hgd fun _ hK => by
    unfold Oper.wp execOp
    simp only [ho, hx, hy, Instr.storeAt, Instr.sureAddr, Sem.run_bind, Sem.run_pure, Result.andThen_ok, run_storeVar_row w g t ty c0 cs hg hi hs h1]
    exact hK _ _ h
theorem wpList_stNew (ty : TypeId) (hgd : o.guard = none) (x y : Operand) (ho : o.op = .store ty x y)
    (g : Nat) (cs c0 : Array Value) (t : TypeId) (hi : (Tryz.prog.info? ty).map (·.size) = some cs.size) (hs : c0.size = cs.size) (h1 : cs.all (·.oneCell') = true)
    (hx : a.eval x = .pointer (some ⟨g, 0, none⟩)) (hgw : g = w.heap.size) (hy : a.eval y = .agg cs)
    (h : wpList Tryz.prog ops Q rest (a.put o.dst undef) (w.alloc (.cells cs t))) : wpList Tryz.prog ops Q (o :: rest) a (w.alloc (.cells c0 t)) := by
  subst hgw
  exact wpList_stR ty hgd x y ho w.heap.size cs c0 t hi hs h1 hx hy (heap_alloc_new _ _) (by rw [World.setRow_alloc_new]; exact h)
end
theorem row_cel {W : World} {g : Nat} {l : List Cel} (h : W.heap[g]? = some (.cells (celCells l).toArray 81)) {k : Nat} {c : Cel} (hc : l[k]? = some c) : CelAt W g (k * 1025) c := by
  obtain ⟨K, hK⟩ : ∃ K, K = k * 1025 := ⟨_, rfl⟩
  have key : ∀ j, j < 1025 → ∀ v, (celRow c)[j]? = some v → W.cell? ⟨g, K + j, none⟩ = some v := fun j hj v hv => by
    have q0 := (fm_get celRow 1025 celRow_len l k j c hc hj).trans hv
    rw [← hK] at q0
    rw [cell_of_row W g _ _ 81 _ h, List.getElem?_toArray]
    exact q0
  rw [← hK]
  clear hK hc h
  refine ⟨key 0 (by omega) _ rfl, fun j v hv => ?_⟩
  have hj : j < 1024 := by have := (List.getElem?_eq_some_iff.1 hv).1; rwa [blk_list_len] at this
  rw [Nat.add_assoc, Nat.add_comm 1 j]
  refine key (j + 1) (by omega) v ?_
  rw [show (celRow c)[j + 1]? = (blk c.2).toList[j]? by simp only [celRow, List.getElem?_cons_succ]]
  exact hv
theorem one_cel {W : World} {g : Nat} {c : Cel} (h : W.heap[g]? = some (.cells (celRow c).toArray 81)) : CelAt W g 0 c := by
  have h' : W.heap[g]? = some (.cells (celCells [c]).toArray 81) := by rw [celCells_one]; exact h
  have := row_cel h' (k := 0) (c := c) rfl
  rwa [Nat.zero_mul] at this
theorem cel_all (c : Cel) : (celRow c).toArray.all (·.oneCell') = true := by
  rw [Array.all_eq_true_iff_forall_mem]
  intro v hv
  exact celRow_one c v (by simpa using hv)
section
variable {o : Oper} {a : Act} {W : World}
end
end Go.Proofs.YtlcdpmjdnihocaaGreatD

/- The document's functions of images: Whole, At; the law's own large and sameImage; lists of at most a billion blocks. -/
namespace Go.Proofs.YtlcdpmjdnihocaaGreatD
open Go.RowKit Go.Maps
def wholeE (n : Int) (l : List Cel) : Int := if mayB n l then 0 else 2
set_option maxRecDepth 20000 in
set_option maxHeartbeats 4000000 in
theorem whole_any (n : Int) (l : List Cel) (p : Option Addr) (cap : Nat) (w : World) (hl : l.length ≤ 1000000000) (h : ImgAt w p l) :
    Calls Tryz.prog 28 #[.agg #[.int .i64 n, .slice p l.length cap]] w fun e w' => e = .returned (.int .i64 (wholeE n l)) ∧ Below w.heap.size w w' := by
  have hB := below_new w (.cells #[.int .i64 n, .slice p l.length cap] 24)
  have hG := heap_alloc_new w (.cells #[.int .i64 n, .slice p l.length cap] 24)
  have HI : Hid (ImgAt w p l) := h
  clear h
  obtain ⟨N, hN⟩ : ∃ N, l.length = N := ⟨_, rfl⟩
  have HN := Hid.mk' hN
  rw [hN] at hl hB hG ⊢
  clear hN
  have h10 : ((1 : Int) ≤ n ∧ n ≤ 1048576) ↔ bndB n = true := by unfold bndB; exact decide_eq_true_iff.symm
  by_cases h1 : n < 1
  · have hres : wholeE n l = 2 := by
      have : bndB n = false := by cases q : bndB n; rfl; exact absurd (h10.2 q).1 (by omega)
      unfold wholeE mayB; rw [this]; rfl
    rw [hres]
    clear hres h10
    go_enter Tryz.func28, Tryz.ntmps28
    go_wp2
    go_ret
    exact ⟨rfl, hB⟩
  by_cases h2 : n > 1048576
  · have hres : wholeE n l = 2 := by
      have : bndB n = false := by cases q : bndB n; rfl; exact absurd (h10.2 q).2 (by omega)
      unfold wholeE mayB; rw [this]; rfl
    rw [hres]
    clear hres h10
    go_enter Tryz.func28, Tryz.ntmps28
    go_wp2
    go_ret
    exact ⟨rfl, hB⟩
  have HR : Hid (wholeE n l = if risesB n (-1) (l.drop 0) then 0 else 2) := by unfold wholeE mayB; rw [h10.1 ⟨by omega, by omega⟩]; rfl
  generalize wholeE n l = res at *
  clear h10
  have z25 := zero25
  have HBn := Hid.mk' (below_new (w.alloc (.cells #[.int .i64 n, .slice p N cap] 24)) (.cells (blk nought) 79))
  have H0 : Hid (Below w.heap.size w ((w.alloc (.cells #[.int .i64 n, .slice p N cap] 24)).alloc (.cells (blk nought) 79)) ∧ ((w.alloc (.cells #[.int .i64 n, .slice p N cap] 24)).alloc (.cells (blk nought) 79)).heap[w.heap.size]? = some (.cells #[.int .i64 n, .slice p N cap] 24) ∧ ((w.alloc (.cells #[.int .i64 n, .slice p N cap] 24)).alloc (.cells (blk nought) 79)).heap[w.heap.size + 1]? = some (.cells (blk nought) 79)) := by
    refine ⟨below_next hB HBn.out, heap_kept hG HBn.out, ?_⟩
    have := heap_alloc_new (w.alloc (.cells #[.int .i64 n, .slice p N cap] 24)) (.cells (blk nought) 79)
    simpa using this
  clear hB hG HBn
  obtain ⟨NB, eNB⟩ : ∃ NB, NB = nought := ⟨nought, rfl⟩
  have HNB := Hid.mk' eNB
  rw [← eNB] at z25 H0
  clear eNB
  go_enter Tryz.func28, Tryz.ntmps28
  go_wp2
  go_loopw [4, 5] (fun s4 s5 wx => ∃ (k : Nat) (x : Int), k ≤ N ∧ s4 = .int .i64 x ∧ s5 = .int .i64 k ∧ Hid (Below w.heap.size w wx ∧ wx.heap[w.heap.size]? = some (.cells #[.int .i64 n, .slice p N cap] 24) ∧ wx.heap[w.heap.size + 1]? = some (.cells (blk NB) 79)) ∧ Hid (res = if risesB n x (l.drop k) then 0 else 2)) (fun _ s5 _ => N - (intOf s5).toNat)
  case atStart => exact ⟨0, -1, by omega, rfl, rfl, H0.out, HR.out⟩
  case round =>
    obtain ⟨k, x, hk, rfl, rfl, H9, HR2⟩ := hrel
    clear HR H0
    have i0 : wr.cell? ⟨w.heap.size, 0, none⟩ = some (.int .i64 n) := Joins.cell_of_block H9.out.2.1 0
    have i1 : wr.cell? ⟨w.heap.size, 1, none⟩ = some (.slice p N cap) := Joins.cell_of_block H9.out.2.1 1
    by_cases hk2 : (k : Int) < N
    · have hlN := HN.out
      have hc : l[k]? = some (l[k]'(by omega)) := List.getElem?_eq_getElem _
      obtain ⟨b, off, rfl, hlt, hC⟩ := HI.out (by omega)
      have hd : l.drop k = l[k]'(by omega) :: l.drop (k + 1) := List.drop_eq_getElem_cons (by omega)
      generalize l[k]'(by omega) = c at hc hd
      have q1 : CelAt wr b (off + k * 1025) c := (hC.later H9.out.1 hlt) k c hc
      have hR := HR2.out
      rw [hd] at hR
      unfold risesB at hR
      have hbA := below_new wr (.cells (celRow c).toArray 81)
      have hA := heap_alloc_new wr (.cells (celRow c).toArray 81)
      have hcA := one_cel hA
      have h9A : Below w.heap.size w (wr.alloc (.cells (celRow c).toArray 81)) ∧ (wr.alloc (.cells (celRow c).toArray 81)).heap[w.heap.size]? = some (.cells #[.int .i64 n, .slice (some ⟨b, off, none⟩) N cap] 24) ∧ (wr.alloc (.cells (celRow c).toArray 81)).heap[w.heap.size + 1]? = some (.cells (blk NB) 79) := ⟨below_next H9.out.1 hbA, heap_kept H9.out.2.1 hbA, heap_kept H9.out.2.2 hbA⟩
      have H10 := Hid.mk' h9A
      have HQ := Hid.mk' q1
      have HSz := Hid.mk' (show (Tryz.prog.info? 81).map (·.size) = some (celRow c).toArray.size by rw [cel_size]; exact size85)
      have HAll := Hid.mk' (cel_all c)
      have HZs := Hid.mk' (show (celRow (0, nought)).toArray.size = (celRow c).toArray.size by rw [cel_size, cel_size])
      have z85 := zero85
      have j0 : (wr.alloc (.cells (celRow c).toArray 81)).cell? ⟨w.heap.size, 0, none⟩ = some (.int .i64 n) := Joins.cell_of_block h9A.2.1 0
      have j1 : (wr.alloc (.cells (celRow c).toArray 81)).cell? ⟨wr.heap.size, 0, none⟩ = some (.int .i64 c.1) := hcA.1
      have HJB := Hid.mk' (show BlkAt (wr.alloc (.cells (celRow c).toArray 81)) wr.heap.size 1 c.2 by have := hcA.2; rwa [Nat.zero_add] at this)
      have HJN := Hid.mk' h9A.2.2
      obtain ⟨y, f⟩ := c
      simp only at hR j1 HJB
      generalize (celRow (0, nought)).toArray = Z at *
      clear hd hc HR2 hC hbA hA hcA h9A q1 H9
      go_wp2_with (first | (with_reducible refine isLoad 81 ?_; refine wpList_exec rfl (exec_load85 (c := (y, f)) rfl rfl HQ.out) ?_) | (with_reducible refine isStore 81 ?_; refine wpList_stNew 81 rfl _ _ rfl _ (celRow (y, f)).toArray _ 81 HSz.out HZs.out HAll.out rfl rfl rfl ?_; refine Hid.out ?_))
      unfold Hid
      generalize (celRow (y, f)).toArray = C at *
      by_cases h3 : y ≤ x
      · have hr0 : res = 2 := by rw [hR]; simp [h3]
        have HFn := Hid.mk' H10.out.1
        clear hR
        subst hr0
        go_wp2
        go_ret
        exact ⟨rfl, HFn.out⟩
      · by_cases h4 : y ≥ n
        · have hr0 : res = 2 := by rw [hR]; simp [h4]
          have HFn := Hid.mk' H10.out.1
          clear hR
          subst hr0
          go_wp2
          go_ret
          exact ⟨rfl, HFn.out⟩
        · cases h5 : blankB f
          · have HR3 : Hid (res = if risesB n y (l.drop (k + 1)) then 0 else 2) := by
              show res = _
              rw [hR, h5]; simp [h3, h4]
            have h3' : sameB f NB = false := by rw [HNB.out]; exact h5
            clear hR
            go_wp2_with (first | (with_reducible refine isLoad 79 ?_; first | refine wpList_loadMw rfl (.tmp 39) rfl wr.heap.size 1 rfl f HJB.out ?_ | refine wpList_ldR 79 Tryz.underlying79 rfl rfl _ rfl _ rfl _ 79 (0, 0) (by rw [blk_size]; exact size25) HJN.out ?_) | (with_reducible refine isEq 79 79 ?_; refine wpList_eq58 rfl (.tmp 40) (.tmp 41) rfl f NB false rfl rfl h3' ?_))
            exact ⟨⟨k + 1, y, by omega, rfl, by go_num, H10.out, HR3.out⟩, by simp [intOf]; omega⟩
          · have hr0 : res = 2 := by rw [hR, h5]; simp
            have h3' : sameB f NB = true := by rw [HNB.out]; exact h5
            have HFn := Hid.mk' H10.out.1
            clear hR
            subst hr0
            go_wp2_with (first | (with_reducible refine isLoad 79 ?_; first | refine wpList_loadMw rfl (.tmp 39) rfl wr.heap.size 1 rfl f HJB.out ?_ | refine wpList_ldR 79 Tryz.underlying79 rfl rfl _ rfl _ rfl _ 79 (0, 0) (by rw [blk_size]; exact size25) HJN.out ?_) | (with_reducible refine isEq 79 79 ?_; refine wpList_eq58 rfl (.tmp 40) (.tmp 41) rfl f NB true rfl rfl h3' ?_))
            go_ret
            exact ⟨rfl, HFn.out⟩
    · have hr0 : res = 0 := by rw [HR2.out, List.drop_of_length_le (by have := HN.out; omega)]; rfl
      have HFn := Hid.mk' H9.out.1
      clear HR2 H9
      subst hr0
      go_wp2
      go_ret
      exact ⟨rfl, HFn.out⟩
end Go.Proofs.YtlcdpmjdnihocaaGreatD
/- The document's With: an image with a block written; lists of at most a million blocks. -/
namespace Go.Proofs.YtlcdpmjdnihocaaGreatD
open Go.RowKit Go.Maps
section
variable {ops : Array Oper} {rest : List Oper} {Q : Exit → Act → World → Prop} {a : Act} {w : World} {dst : Option Tmp} {x y : Operand} {ty : TypeId} {pos : String} {aft : Array Edge} {gd : Option (Nat × Bool)}
end
end Go.Proofs.YtlcdpmjdnihocaaGreatD
/- What the image and the geometry of a scene that came in tell a walk; for all that can be read. -/
namespace Go.Proofs.YtlcdpmjdnihocaaGreatD
open Go.RowKit Go.ChangeShapes Go.WideShapes
theorem cellsO59 : Tryz.prog.cellsOf 81 = 1025 := by kernel_rfl
theorem cellsO46 : Tryz.prog.cellsOf 79 = 1024 := by kernel_rfl
theorem cellsO5 : Tryz.prog.cellsOf 5 = 1 := by kernel_rfl
theorem cellsO3 : Tryz.prog.cellsOf 3 = 1 := by kernel_rfl
theorem cellsO24 : Tryz.prog.cellsOf 24 = 2 := by kernel_rfl
theorem cellsO22 : Tryz.prog.cellsOf 22 = 1 := by kernel_rfl
theorem cellsO26 : Tryz.prog.cellsOf 26 = 3 := by kernel_rfl
section
variable {H : Type} {enc : TypeId × Value → H} {w : World} {base : Nat} {sp : Nat → Bool} {held : Bool} {v : Value} {x : DataW H × List MemPlace} {fuel : Nat}
theorem cellLt {b off : Nat} {v : Value} (h : w.cell? ⟨b, off, none⟩ = some v) : b < w.heap.size := by
  by_cases q : b < w.heap.size
  · exact q
  · unfold World.cell? at h
    simp only [Array.getElem?_eq_none (show w.heap.size ≤ b by omega)] at h
    simp at h
theorem plain_addr {a : Addr} {v : Value} (h : w.cell? (a.add 0) = some v) : ∃ b off, a = ⟨b, off, none⟩ ∧ b < w.heap.size := by
  obtain ⟨b, off, spot⟩ := a
  have hs : spot = none := by simpa [Addr.add] using World.cell?_spot h
  subst hs
  rw [Go.WideShapes.add_plain] at h
  exact ⟨b, off, rfl, cellLt h⟩
theorem int_of_trod {c : List Value} {n : Nat} {y : Option (DataW H × List MemPlace)} {z : DataW H × List MemPlace} (h : DataW.trod enc Tryz.prog w base sp held n 3 c = y) (hy : y = some z) : ∃ k, c = [.int .i64 k] ∧ -9223372036854775808 ≤ k ∧ k ≤ 9223372036854775807 := by
  rw [hy] at h
  obtain ⟨k, hk, _, hw⟩ := DataW.trod_int Tryz.underlying3 h
  have := bounds_i64 hw
  exact ⟨k, hk, this.1, this.2⟩
theorem blk_of_trod {cs : List Value} {n : Nat} {y : Option (DataW H × List MemPlace)} {z : DataW H × List MemPlace} (h : DataW.trod enc Tryz.prog w base sp held n 79 cs = y) (hy : y = some z) (hsz : cs.length = 1024) : ∃ f, Can f ∧ cs = (blk f).toList := by
  rw [hy] at h
  obtain ⟨xs, m, rfl, _, _, hl, hx⟩ := DataW.trod_array Tryz.underlying79 h
  have hc : ∀ i, i < 1024 → ∃ z : Int, (0 ≤ z ∧ z ≤ 255) ∧ cs[i]? = some (.int .u8 z) := by
    intro i hi
    have h1 := hx i hi
    rw [cellsO5, Nat.mul_one] at h1
    have hi' : i < xs.length := by omega
    rw [List.getElem?_eq_getElem hi'] at h1
    obtain ⟨z, hz, _, hw⟩ := DataW.trod_int Tryz.underlying5 h1
    refine ⟨z, bounds_u8 hw, ?_⟩
    have := congrArg (·[0]?) hz
    simpa [List.getElem?_take, List.getElem?_drop, Value.cells] using this
  have key : ∃ f : Nat → Int, ∀ i, i < 1024 → (0 ≤ f i ∧ f i ≤ 255) ∧ cs[i]? = some (.int .u8 (f i)) :=
    ⟨fun i => if h : i < 1024 then (hc i h).choose else 0, fun i hi => by
      simp only [hi, dif_pos]
      exact (hc i hi).choose_spec⟩
  obtain ⟨f, hf⟩ := key
  refine ⟨firsts f 1024, ⟨fun i => ?_, fun i hi => by unfold firsts; rw [if_neg (by omega)]⟩, ?_⟩
  · unfold firsts
    by_cases hi : i < 1024
    · rw [if_pos hi]; exact (hf i hi).1
    · rw [if_neg hi]; omega
  · apply List.ext_getElem?
    intro i
    by_cases hi : i < 1024
    · rw [(hf i hi).2, Array.getElem?_toList, blk_get _ _ hi]
      unfold firsts
      rw [if_pos hi]
    · rw [List.getElem?_eq_none (by omega), List.getElem?_eq_none (by rw [blk_list_len]; omega)]
theorem list2 {α : Type} {l : List α} (h : l.length = 2) : ∃ a b, l = [a, b] := by
  match l, h with
  | [a, b], _ => exact ⟨a, b, rfl⟩
theorem list3 {α : Type} {l : List α} (h : l.length = 3) : ∃ a b c, l = [a, b, c] := by
  match l, h with
  | [a, b, c], _ => exact ⟨a, b, c, rfl⟩
theorem add_at {b off i j : Nat} : ((⟨b, off, none⟩ : Addr).add i).add j = ⟨b, off + i + j, none⟩ := by
  rw [Go.WideShapes.add_plain, Go.WideShapes.add_plain]
theorem plain_rows {a : Addr} {k : Nat} {cs : List Value} (h : w.cells? base (a.add (0 * k)) k = some cs) (hk : 0 < k) : ∃ b off, a = ⟨b, off, none⟩ ∧ b < w.heap.size := by
  obtain ⟨_, hlen, hcell⟩ := World.cells?_some h
  have h0 := hcell 0 hk
  rw [Nat.zero_mul, Go.Deep.add_add, Nat.add_zero, List.getElem?_eq_getElem (by omega)] at h0
  exact plain_addr h0
theorem cel_of_trod {cs : List Value} {n : Nat} (h : DataW.trod enc Tryz.prog w base sp held n 81 cs = some x) (hl : cs.length = 1025) : ∃ c : Cel, Can c.2 ∧ cs = celRow c := by
  obtain ⟨xs, q, _, _, _, hxl, hf⟩ := DataW.trod_struct Tryz.underlying81 h
  obtain ⟨y0, y1, rfl⟩ := list2 (show xs.length = 2 from hxl)
  have g0 : DataW.trod enc Tryz.prog w base sp held q 3 ((cs.drop 0).take (Tryz.prog.cellsOf 3)) = some y0 := hf 0 _ rfl
  have g1 : DataW.trod enc Tryz.prog w base sp held q 79 ((cs.drop 1).take (Tryz.prog.cellsOf 79)) = some y1 := hf 1 _ rfl
  rw [cellsO3, List.drop_zero] at g0
  rw [cellsO46] at g1
  obtain ⟨k, hk, _⟩ := int_of_trod g0 rfl
  obtain ⟨f, hcan, hfe⟩ := blk_of_trod g1 rfl (by rw [List.length_take, List.length_drop, hl]; omega)
  refine ⟨(k, f), hcan, ?_⟩
  have e1 : (cs.drop 1).take 1024 = cs.drop 1 := List.take_of_length_le (by rw [List.length_drop, hl]; omega)
  rw [e1] at hfe
  rw [← List.take_append_drop 1 cs, hk, hfe]
  rfl
theorem helds_of_trod (h : DataW.trod enc Tryz.prog w base sp held fuel 22 [v] = some x) : ∃ a cap l, v = .slice a (List.length l) cap ∧ ImgAt w a l ∧ l.length ≤ maxLen ∧ l.length ≤ cap ∧ ∀ c ∈ l, Can c.2 := by
  rcases Go.Deep.open_slice Tryz.underlying22 h with ⟨h0, _⟩ | ⟨a, len, cap, m, n, D, Pl, hv, _, hl, hm, hmm, _, hc⟩
  · have hv : v = .slice none 0 0 := by simpa using h0
    subst hv
    exact ⟨none, 0, [], rfl, fun q => by simp at q, by simp, by simp, fun c hc => by simp at hc⟩
  · have hv' : v = .slice (some a) len cap := by simpa using hv
    subst hv'
    have hlm : len ≤ m := by rw [hmm]; split <;> omega
    have key : ∀ i, ∃ c : Cel, Can c.2 ∧ (i < len → w.cells? base (a.add (i * 1025)) 1025 = some (celRow c)) := fun i => by
      by_cases hi : i < len
      · obtain ⟨cs, h1, h2⟩ := hc i (by omega)
        rw [cellsO59] at h1
        obtain ⟨_, hlen, _⟩ := World.cells?_some h1
        obtain ⟨c, hcan, rfl⟩ := cel_of_trod h2 hlen
        exact ⟨c, hcan, fun _ => h1⟩
      · exact ⟨(0, nought), can_nought, fun q => absurd q hi⟩
    obtain ⟨f, hf⟩ := Classical.skolem.1 key
    have hll : ((List.range len).map f).length = len := by simp
    refine ⟨some a, cap, (List.range len).map f, by rw [hll], fun h0 => ?_, by rw [hll]; omega, by rw [hll]; exact hl, fun c hc => ?_⟩
    · rw [hll] at h0
      obtain ⟨b, off, rfl, hb⟩ := plain_rows ((hf 0).2 (by omega)) (by omega)
      refine ⟨b, off, rfl, hb, fun k c hk => ?_⟩
      have hi : k < len := by have := (List.getElem?_eq_some_iff.1 hk).1; rwa [hll] at this
      rw [List.getElem?_map, List.getElem?_range hi] at hk
      have ec : f k = c := by simpa using hk
      obtain ⟨_, _, hcell⟩ := World.cells?_some ((hf k).2 hi)
      rw [ec] at hcell
      refine ⟨?_, fun j u hu => ?_⟩
      · have := hcell 0 (by omega)
        rw [add_at] at this
        rw [Nat.add_zero] at this
        rw [this]
        rfl
      · have hj : j < 1024 := by have := (List.getElem?_eq_some_iff.1 hu).1; rwa [blk_list_len] at this
        have := hcell (j + 1) (by omega)
        rw [add_at, show off + k * 1025 + (j + 1) = off + k * 1025 + 1 + j by omega] at this
        rw [this]
        unfold celRow
        rw [List.getElem?_cons_succ]
        exact hu
    · obtain ⟨i, _, rfl⟩ := List.mem_map.1 hc
      exact (hf i).1
theorem image_of_trod {cs : List Value} (h : DataW.trod enc Tryz.prog w base sp held fuel 24 cs = some x) (hl : cs.length = 2) : ∃ n p l cp, cs = [.int .i64 n, .slice p (List.length l) cp] ∧ ImgAt w p l ∧ l.length ≤ maxLen ∧ (∀ c ∈ l, Can c.2) := by
  obtain ⟨v0, v1, rfl⟩ := list2 hl
  obtain ⟨us, mm, _, _, _, hul, hg⟩ := DataW.trod_struct Tryz.underlying24 h
  obtain ⟨z0, z1, rfl⟩ := list2 (show us.length = 2 from hul)
  have i0 := hg 0 _ rfl
  have i1 := hg 1 _ rfl
  simp [cellsO3, cellsO22] at i0 i1
  obtain ⟨n, hn, _⟩ := int_of_trod i0 rfl
  obtain ⟨a, cap, l, rfl, h2, h3, _, h5⟩ := helds_of_trod i1
  have e0 : v0 = .int .i64 n := by simpa using hn
  subst e0
  exact ⟨n, a, l, cap, rfl, h2, h3, h5⟩
theorem geo_of_trod {cs : List Value} (h : DataW.trod enc Tryz.prog w base sp held fuel 26 cs = some x) (hl : cs.length = 3) : ∃ gb gl gi, cs = [.int .i64 gb, .int .i64 gl, .int .i64 gi] ∧ (-9223372036854775808 ≤ gb ∧ gb ≤ 9223372036854775807) ∧ (-9223372036854775808 ≤ gl ∧ gl ≤ 9223372036854775807) ∧ (-9223372036854775808 ≤ gi ∧ gi ≤ 9223372036854775807) := by
  obtain ⟨v0, v1, v2, rfl⟩ := list3 hl
  obtain ⟨ts, mk, _, _, _, htl, hk⟩ := DataW.trod_struct Tryz.underlying26 h
  obtain ⟨t0, t1, t2, rfl⟩ := list3 (show ts.length = 3 from htl)
  have j0 := hk 0 _ rfl
  have j1 := hk 1 _ rfl
  have j2 := hk 2 _ rfl
  simp [cellsO3] at j0 j1 j2
  obtain ⟨gb, hgb, hb⟩ := int_of_trod j0 rfl
  obtain ⟨gl, hgl, hc⟩ := int_of_trod j1 rfl
  obtain ⟨gi, hgi, hd⟩ := int_of_trod j2 rfl
  have e0 : v0 = .int .i64 gb := by simpa using hgb
  have e1 : v1 = .int .i64 gl := by simpa using hgl
  have e2 : v2 = .int .i64 gi := by simpa using hgi
  subst e0 e1 e2
  exact ⟨gb, gl, gi, rfl, hb, hc, hd⟩
end
end Go.Proofs.YtlcdpmjdnihocaaGreatD
/- Two disks beside rows of the law's own; the law's first look; how large an image and a geometry are; no condition. -/
namespace Go.Proofs.YtlcdpmjdnihocaaGreatD
open Go.RowKit
/-- Beside a disk: rows that stay. -/
structure SoP (w : World) (ks : List (Nat × Obj)) (W : World) (L : Loc) : Prop where
  new : L.from w.heap.size
  below : Below w.heap.size w W
  keep : ∀ p ∈ ks, W.heap[p.1]? = some p.2 ∧ ¬ L.has p.1
theorem soP_stays (w : World) (ks : List (Nat × Obj)) : Stays (SoP w ks) := fun W W' L L' hlt h hG => by
  refine ⟨fun k hk => ?_, h.below.trans (hG.fr.below h.new h.below.size), fun p hp => ?_⟩
  · rcases hG.own k hk with q | q
    · exact h.new k q
    · have := h.below.size; omega
  · obtain ⟨h1, h2⟩ := h.keep p hp
    have hg := (Array.getElem?_eq_some_iff.1 h1).1
    refine ⟨(hG.fr.block _ hg h2).trans h1, fun q => ?_⟩
    rcases hG.own _ q with r | r
    · exact h2 r
    · omega
variable {w W W' : World} {d d2 : Nat} {s s2 : St} {ks : List (Nat × Obj)}
theorem Has.belowO (h : Has (SoP w ks) W d s) : Below w.heap.size w W := by obtain ⟨L, _, _, h⟩ := h; exact h.below
theorem Has.rowO (h : Has (SoP w ks) W d s) {g : Nat} {o : Obj} (hm : (g, o) ∈ ks) : W.heap[g]? = some o := by obtain ⟨L, _, _, h⟩ := h; exact (h.keep _ hm).1
theorem has_solo {L : Loc} (hD : DiskAt W' L s) (hL : L.from W.heap.size) (hb : Below W.heap.size W W') (hB : Below w.heap.size w W) (hk : ∀ p ∈ ks, W.heap[p.1]? = some p.2) : Has (SoP w ks) W' L.d s := by
  refine ⟨L, rfl, hD, fun k hk => by have := hL k hk; have := hB.size; omega, below_next hB hb, fun p hp => ?_⟩
  have h1 := hk p hp
  have hlt := (Array.getElem?_eq_some_iff.1 h1).1
  exact ⟨heap_kept h1 hb, fun q => by have := hL _ q; omega⟩
theorem Has.addO (h : Has (SoP w ks) W d s) (o : Obj) : Has (SoP w ((W.heap.size, o) :: ks)) (W.alloc o) d s := by
  have h2 := h.later (soP_stays w ks) (below_new W o)
  obtain ⟨L, hd, hD, hS⟩ := h
  obtain ⟨hn, hb, hk⟩ := soP_stays w ks W _ L L hD.lt hS (Goes.ofBelow L (below_new W o))
  refine ⟨L, hd, hD.later (below_new W o), hn, hb, fun p hp => ?_⟩
  rcases List.mem_cons.1 hp with rfl | hp
  · exact ⟨heap_alloc_new _ _, fun q => by have := hD.lt _ q; simp only at this; omega⟩
  · exact hk p hp
/-- What mkfs makes of a disk that lets all through. -/
theorem mk_done {b l i : Int} {s : St} (hf : YtlcdpmjdnihocaaGreatP.Fine b l i) (hn : b ≤ s.n) (hs : s.stopped = false) (hfu : s.fuse = -1 ∨ ((mkN b l i + 6 : Nat) : Int) ≤ s.fuse) :
    mkE b l i s = 0 ∧ mkV b l i s = allV (claimV s) (mkL b l i 0) ∧ (mkV b l i s).made = s.made + (mkN b l i + 6 : Nat) ∧ (mkV b l i s).n = s.n ∧ (mkV b l i s).stopped = false ∧ (mkV b l i s).reads = s.reads ∧ (mkV b l i s).claims = s.claims + 1 ∧ (mkV b l i s).fuse = (if s.fuse = -1 then -1 else s.fuse - (mkN b l i + 6 : Nat)) := by
  have hr : rdyE b l i s = 0 := by
    unfold rdyE YtlcdpmjdnihocaaGreatP.ofE
    rw [if_pos hf, if_neg (by rintro (q | q); exact q rfl; omega), hs]
    rfl
  have hc : claimV s = { s with claims := s.claims + 1, claimed := true } := by unfold claimV; rw [hs]; rfl
  have hg := run_goes (mkL b l i 0) (claimV s) (by rw [hc]; exact hs) (by rw [hc]; exact mkL_in hf hn) (by rw [hc, mkL_len]; exact hfu)
  obtain ⟨g1, g2, g3, g4, g5, g6, g7, g8⟩ := hg
  have hE : mkE b l i s = 0 := by unfold mkE; rw [if_pos hr, g1]
  have hV : mkV b l i s = allV (claimV s) (mkL b l i 0) := by unfold mkV; rw [if_pos hr, g1]
  refine ⟨hE, hV, ?_, ?_, ?_, ?_, ?_, ?_⟩
  · rw [hV, g3, hc, mkL_len]
  · rw [hV, g4, hc]
  · rw [hV]; exact g2
  · rw [hV, g5, hc]
  · rw [hV, g6, hc]
  · rw [hV, g7, hc, mkL_len]
theorem fine_small : YtlcdpmjdnihocaaGreatP.Fine 400 32 60 := by
  unfold YtlcdpmjdnihocaaGreatP.Fine YtlcdpmjdnihocaaGreatP.dataAt YtlcdpmjdnihocaaGreatP.bitsAt YtlcdpmjdnihocaaGreatP.nodeB YtlcdpmjdnihocaaGreatP.bitsB
  decide
theorem mkN_small : mkN 400 32 60 = 6 := by
  unfold mkN YtlcdpmjdnihocaaGreatP.dataAt YtlcdpmjdnihocaaGreatP.bitsAt YtlcdpmjdnihocaaGreatP.nodeB YtlcdpmjdnihocaaGreatP.bitsB
  decide
theorem wide_new (n : Int) : Wide (newV n) 10000 := ⟨by show (0 : Nat) + 10000 < _; omega, by show (0 : Int) + _ < _; omega, by show (0 : Int) < _; omega, by show (0 : Int) < _; omega⟩
set_option maxRecDepth 20000 in
set_option maxHeartbeats 2000000 in
theorem lives_ok (w : World) : Calls Tryz.prog 8 #[] w fun e w' => e = .returned (.bool true) ∧ Below w.heap.size w w' := by
  have hnw := new_ok (n := 400) (by decide) w
  obtain ⟨q1, q2, q3, _⟩ := mk_done (s := newV 400) fine_small (by show (400 : Int) ≤ 400; omega) rfl (.inl rfl)
  rw [mkN_small] at q3
  have HQ1 : Hid _ := q1
  have HQ3 : Hid ((mkV 400 32 60 (newV 400)).made = 12) := q3
  have HMk : Hid (∀ V d, Has (SoP w []) V d (newV 400) → Calls Tryz.prog 13 #[.pointer (some ⟨d, 0, none⟩), .agg #[.int .i64 400, .int .i64 32, .int .i64 60]] V fun e W' => e = .returned (.int .i64 (mkE 400 32 60 (newV 400))) ∧ Has (SoP w []) W' d (mkV 400 32 60 (newV 400))) := fun V d hV => make_ok (soP_stays w []) hV 400 32 60 (by unfold YtlcdpmjdnihocaaGreatP.I64; omega) (wide_new 400) (by show (0 : Int) < _; omega)
  have HMd : Hid (∀ V d s, Has (SoP w []) V d s → Calls Tryz.prog 25 #[.pointer (some ⟨d, 0, none⟩)] V fun e W' => e = .returned (.int .i64 s.made) ∧ W' = V) := fun V d s hV => has_made hV
  clear q1 q2 q3
  go_enter Tryz.func8, Tryz.ntmps8
  go_wp2_with (go_at_call 35; fail)
  refine hnw.mono ?_
  rintro e W1 ⟨L, rfl, hD, hL, hb⟩
  have HH : Hid (Has (SoP w []) W1 L.d (newV 400)) := has_solo hD hL hb (Below.refl _ _) (fun p hp => by simp at hp)
  clear hD hL hb hnw
  generalize L.d = d at *
  go_wp2_with (go_at_call 13; fail)
  refine (HMk.out _ _ HH.out).mono ?_
  rintro e W2 ⟨rfl, h2⟩
  have HH2 : Hid (Has (SoP w []) W2 d (mkV 400 32 60 (newV 400))) := h2
  rw [HQ1.out]
  clear h2 HH HMk
  go_wp2_with (go_at_call 25; fail)
  refine (HMd.out _ _ _ HH2.out).mono ?_
  rintro e W3 ⟨rfl, he⟩
  obtain rfl := he.symm
  clear he
  rw [HQ3.out]
  have HB : Hid (Below w.heap.size w W2) := HH2.out.belowO
  clear HH2 HMd
  go_wp2
  go_ret
  exact ⟨rfl, HB.out⟩
def largeB (n : Int) (m : Nat) (i : Int) : Bool := decide (n > 9000) || (decide ((m : Int) > 400) || (decide (i > 2000) && decide (i ≤ 65535)))
set_option maxRecDepth 20000 in
set_option maxHeartbeats 2000000 in
theorem large_ok (n : Int) (p : Option Addr) (m cap : Nat) (b l i : Int) (w : World) :
    Calls Tryz.prog 5 #[.agg #[.int .i64 n, .slice p m cap], YtlcdpmjdnihocaaGreatP.geoV b l i] w fun e w' => e = .returned (.bool (largeB n m i)) ∧ Below w.heap.size w w' := by
  have hB := below_next (below_new w (.cells #[.int .i64 n, .slice p m cap] 24)) (below_new _ (.cells #[.int .i64 b, .int .i64 l, .int .i64 i] 26))
  unfold YtlcdpmjdnihocaaGreatP.geoV largeB
  have HB : Hid _ := hB
  clear hB
  cases h1 : decide (n > 9000)
  · cases h2 : decide ((m : Int) > 400)
    · cases h3 : decide (i > 2000)
      · go_enter Tryz.func5, Tryz.ntmps5
        go_wp2
        go_ret
        exact ⟨rfl, HB.out⟩
      · go_enter Tryz.func5, Tryz.ntmps5
        go_wp2
        go_ret
        exact ⟨rfl, HB.out⟩
    · go_enter Tryz.func5, Tryz.ntmps5
      go_wp2
      go_ret
      exact ⟨rfl, HB.out⟩
  · go_enter Tryz.func5, Tryz.ntmps5
    go_wp2
    go_ret
    exact ⟨rfl, HB.out⟩
end Go.Proofs.YtlcdpmjdnihocaaGreatD
/- MkfsMade: what is left, wherever it is stopped, whatever is kept: the law answers true; no condition. -/
namespace Go.Proofs.YtlcdpmjdnihocaaGreatD
open Go.RowKit
theorem loadV_fuse (n : Int) (ls : List Cel) : (loadV n ls).fuse = -1 ∧ (loadV n ls).claimed = false := by
  obtain ⟨h, e⟩ := holdAll_same ls (newV n)
  unfold loadV
  rw [e]
  exact ⟨rfl, rfl⟩
theorem claimV_hw (s : St) : (claimV s).held = s.held ∧ (claimV s).wait = s.wait := by
  unfold claimV
  split
  · exact ⟨rfl, rfl⟩
  · exact ⟨rfl, rfl⟩
theorem wide_load (n : Int) (ls : List Cel) : Wide (loadV n ls) 10000 := by
  obtain ⟨l1, l2, l3, l4, l5, l6, l7⟩ := loadV_same n ls
  exact ⟨by rw [l7]; simp, by rw [l5]; omega, by rw [l4]; omega, by rw [l6]; omega⟩
end Go.Proofs.YtlcdpmjdnihocaaGreatD
/- Beside a disk: rows of a law of mkfs; no condition. -/
namespace Go.Proofs.YtlcdpmjdnihocaaGreatD
open Go.RowKit
/-- The law's own rows: the image and the geometry that came in. -/
structure LwS (w W : World) (im ge : Array Value) : Prop where
  im : W.heap[w.heap.size]? = some (.cells im 24)
  ge : W.heap[w.heap.size + 1]? = some (.cells ge 26)
  bel : Below w.heap.size w W
theorem LwS.later {w W W' : World} {im ge : Array Value} (h : LwS w W im ge) (hb : Below W.heap.size W W') : LwS w W' im ge := ⟨heap_kept h.im hb, heap_kept h.ge hb, below_next h.bel hb⟩
/-- As blocks that stay beside disks. -/
def lwK (w : World) (im ge : Array Value) : List (Nat × Obj) := [(w.heap.size, .cells im 24), (w.heap.size + 1, .cells ge 26)]
theorem LwS.rows {w W : World} {im ge : Array Value} (h : LwS w W im ge) : ∀ p ∈ lwK w im ge, W.heap[p.1]? = some p.2 := fun p hp => by
  unfold lwK at hp
  rcases List.mem_cons.1 hp with rfl | hp
  · exact h.im
  · rcases List.mem_cons.1 hp with rfl | hp
    · exact h.ge
    · simp at hp
theorem im_info (n : Int) (p : Option Addr) (m c : Nat) : (Tryz.prog.info? 24).map (·.size) = some (#[Value.int .i64 n, .slice p m c] : Array Value).size := by kernel_rfl
theorem ge_info (b l i : Int) : (Tryz.prog.info? 26).map (·.size) = some (#[Value.int .i64 b, .int .i64 l, .int .i64 i] : Array Value).size := by kernel_rfl
end Go.Proofs.YtlcdpmjdnihocaaGreatD
/- What every block of a disk is behind mkfs; the plain side; no condition but that the geometry may be, and the disk is large enough. -/
namespace Go.Proofs.YtlcdpmjdnihocaaGreatD
open Go.RowKit
/-- A block as a disk holds it. -/
def gt (s : St) (k : Int) : Nat → Int := (s.held k).getD nought
/-- What is held behind mkfs, block by block. -/
theorem mk_get {b l i : Int} (hf : YtlcdpmjdnihocaaGreatP.Fine b l i) (s : St) (hw : s.wait = []) : (allV s (mkL b l i 0)).wait = [] ∧ ∀ k, gt (allV s (mkL b l i 0)) k = if k = 0 then YtlcdpmjdnihocaaGreatP.superF b l i else lastV (gt s k) (mkBs b l i) k := by
  obtain ⟨cs, hcs⟩ : ∃ cs, mkBs b l i = cs := ⟨_, rfl⟩
  obtain ⟨F, hF⟩ : ∃ F, YtlcdpmjdnihocaaGreatP.superF b l i = F := ⟨_, rfl⟩
  have hcF : Can F := hF ▸ can_super b l i
  have hpos : ∀ c ∈ cs, c.1 ≠ 0 := fun c hc => by have := (mkBs_pos hf c (hcs ▸ hc)).1.1; omega
  have hcan : ∀ c ∈ cs, Can c.2 := fun c hc => (mkBs_pos hf c (hcs ▸ hc)).2
  have hL : mkL b l i 0 = [some (0, nought), none] ++ ((cs.map some ++ [none]) ++ [some (0, F), none]) := by
    unfold mkL mkA mkC
    rw [mkB_eq, hcs, hF]
    simp
  rw [hL, hF, hcs, allV_append, allV_append]
  have w2 : (allV s [some (0, nought), none]).wait = [] ∧ (allV s [some (0, nought), none]).held = (holdAll s [(0, nought)]).held := by
    obtain ⟨h1, h2⟩ := allV_writes [(0, nought)] s
    rw [hw] at h2
    have h := allV_bar (allV s [some (0, nought)])
    rw [← allV_append] at h
    refine ⟨h.2, ?_⟩
    have e : (allV s [some ((0, nought) : Cel)]).wait = [(0, nought)] := h2
    rw [show [some ((0, nought) : Cel)] ++ [none] = [some (0, nought), none] from rfl, e] at h
    rw [h.1]
    exact holdAll_held h1 _
  generalize allV s [some (0, nought), none] = s1 at *
  have w4 : (allV s1 (cs.map some ++ [none])).wait = [] ∧ (allV s1 (cs.map some ++ [none])).held = (holdAll s1 cs).held := by
    obtain ⟨h1, h2⟩ := allV_writes cs s1
    rw [w2.1] at h2
    have h := allV_bar (allV s1 (cs.map some))
    rw [← allV_append, h2] at h
    refine ⟨h.2, ?_⟩
    rw [h.1]
    exact holdAll_held h1 _
  generalize allV s1 (cs.map some ++ [none]) = s2 at *
  have w6 : (allV s2 [some (0, F), none]).wait = [] ∧ (allV s2 [some (0, F), none]).held = (holdAll s2 [(0, F)]).held := by
    obtain ⟨h1, h2⟩ := allV_writes [(0, F)] s2
    rw [w4.1] at h2
    have h := allV_bar (allV s2 [some (0, F)])
    rw [← allV_append] at h
    refine ⟨h.2, ?_⟩
    have e : (allV s2 [some ((0, F) : Cel)]).wait = [(0, F)] := h2
    rw [show [some ((0, F) : Cel)] ++ [none] = [some (0, F), none] from rfl, e] at h
    rw [h.1]
    exact holdAll_held h1 _
  refine ⟨w6.1, fun k => ?_⟩
  have g1 : gt s1 k = if k = 0 then nought else gt s k := by
    unfold gt
    rw [w2.2]
    exact holdV_get s 0 can_nought k
  have g2 : gt s2 k = lastV (gt s1 k) cs k := by
    unfold gt
    rw [w4.2]
    exact holdAll_get cs s1 hcan
  have g3 : gt (allV s2 [some (0, F), none]) k = if k = 0 then F else gt s2 k := by
    unfold gt
    rw [w6.2]
    exact holdV_get s2 0 hcF k
  rw [g3]
  by_cases hk : k = 0
  · rw [if_pos hk, if_pos hk]
  · rw [if_neg hk, if_neg hk, g2, g1, if_neg hk]
theorem lastV_some {k : Int} : ∀ (l : List Cel) (x y : Nat → Int), (∃ c ∈ l, c.1 = k) → lastV x l k = lastV y l k
  | [], _, _, h => by obtain ⟨c, hc, _⟩ := h; simp at hc
  | c :: t, x, y, h => by
    unfold lastV
    by_cases e : c.1 = k
    · rw [if_pos e, if_pos e]
    · rw [if_neg e, if_neg e]
      obtain ⟨d, hd, hk⟩ := h
      rcases List.mem_cons.1 hd with rfl | hd
      · exact absurd hk e
      · exact lastV_some t x y ⟨d, hd, hk⟩
theorem mkBs_mem {b l i k : Int} (hf : YtlcdpmjdnihocaaGreatP.Fine b l i) : (∃ c ∈ mkBs b l i, c.1 = k) ↔ (k = 1 ∨ (1 + l ≤ k ∧ k ≤ YtlcdpmjdnihocaaGreatP.dataAt b l i)) := by
  obtain ⟨b1, b2, b3, b4, b5, b6, b7, b8⟩ := YtlcdpmjdnihocaaGreat.fine_bd hf
  constructor
  · rintro ⟨c, hc, rfl⟩
    unfold mkBs at hc
    rcases List.mem_cons.1 hc with rfl | hc
    · exact .inl rfl
    · obtain ⟨q, hq, rfl⟩ := List.mem_map.1 hc
      have hq := List.mem_range.1 hq
      unfold mkN at hq
      exact .inr ⟨by show 1 + l ≤ 1 + l + (q : Int); omega, by show 1 + l + (q : Int) ≤ _; omega⟩
  · rintro (rfl | ⟨h1, h2⟩)
    · exact ⟨(1, nought), by unfold mkBs; simp, rfl⟩
    · refine ⟨(k, YtlcdpmjdnihocaaGreat.coF b l i k), ?_, rfl⟩
      unfold mkBs
      refine List.mem_cons_of_mem _ (List.mem_map.2 ⟨(k - 1 - l).toNat, List.mem_range.2 (by unfold mkN; omega), ?_⟩)
      rw [show 1 + l + (((k - 1 - l).toNat : Nat) : Int) = k by omega]
theorem lastV_co {b l i k : Int} (hf : YtlcdpmjdnihocaaGreatP.Fine b l i) (hk : 1 + l ≤ k ∧ k ≤ YtlcdpmjdnihocaaGreatP.dataAt b l i) (x : Nat → Int) : lastV x (mkBs b l i) k = YtlcdpmjdnihocaaGreat.coF b l i k := by
  obtain ⟨b1, b2, b3, b4, b5, b6, b7, b8⟩ := YtlcdpmjdnihocaaGreat.fine_bd hf
  have key : ∀ (m : Nat) (f : Nat → Nat → Int) (x : Nat → Int) (j : Nat), j < m → lastV x ((List.range m).map fun (q : Nat) => ((1 + l + (q : Int), f q) : Cel)) (1 + l + (j : Int)) = f j := fun m f => by
    induction m with
    | zero => intro x j hj; omega
    | succ m ih =>
      intro x j hj
      rw [List.range_succ, List.map_append, lastV_append]
      show (if 1 + l + (m : Int) = 1 + l + (j : Int) then f m else _) = f j
      by_cases e : j = m
      · subst e; rw [if_pos rfl]
      · rw [if_neg (by omega)]; exact ih x j (by omega)
  unfold mkBs
  show lastV (if (1 : Int) = k then nought else x) _ k = _
  rw [if_neg (by omega)]
  have := key (mkN b l i) (fun q => YtlcdpmjdnihocaaGreat.coF b l i (1 + l + (q : Int))) x (k - 1 - l).toNat (by unfold mkN; omega)
  rw [show 1 + l + (((k - 1 - l).toNat : Nat) : Int) = k by omega] at this
  exact this
/-- A disk behind mkfs, read so often. -/
structure Dn (b l i n : Int) (s : St) (s0 : Int → Nat → Int) (j : Nat) (N : Nat) : Prop where
  n : s.n = n
  live : s.stopped = false
  fuse : s.fuse = -1
  wait : s.wait = []
  made : s.made = N
  reads : s.reads = j
  claims : s.claims ≤ 5
  ops : s.ops.length ≤ 5000
  get : ∀ k, gt s k = if k = 0 then YtlcdpmjdnihocaaGreatP.superF b l i else lastV (s0 k) (mkBs b l i) k
theorem allV_ops : ∀ (l : List MOp) (s : St), (allV s l).ops.length = s.ops.length + l.length
  | [], s => rfl
  | o :: t, s => by
    rw [allV_cons, allV_ops t]
    have : (goV s o).ops.length = s.ops.length + 1 := by
      cases o with
      | none => show (barS s).ops.length = _; rw [barS_ops]; simp
      | some c => show (writeS s c.1 c.2).ops.length = _; rw [writeS_ops]; simp
    rw [this, List.length_cons]
    omega
theorem claimV_ops (s : St) : (claimV s).ops = s.ops := by
  unfold claimV
  split
  · rfl
  · rfl
theorem dn_of {b l i n : Int} {s : St} (hf : YtlcdpmjdnihocaaGreatP.Fine b l i) (hn : s.n = n) (hb : b ≤ n) (hs : s.stopped = false) (hfu : s.fuse = -1) (hw : s.wait = []) (hc : s.claims ≤ 4) (ho : s.ops.length ≤ 600) (r m : Nat) (hr : s.reads = r) (hm : s.made = m) :
    mkE b l i s = 0 ∧ Dn b l i n (mkV b l i s) (gt s) r (m + (mkN b l i + 6)) := by
  obtain ⟨q1, q2, q3, q4, q5, q6, q7, q8⟩ := mk_done (s := s) hf (by rw [hn]; exact hb) hs (.inl hfu)
  have hcl := claimV_hw s
  obtain ⟨g1, g2⟩ := mk_get hf (claimV s) (by rw [hcl.2, hw])
  have hlen := mkN_le hf
  refine ⟨q1, by rw [q4, hn], q5, by rw [q8, if_pos hfu], by rw [q2]; exact g1, by rw [q3, hm]; omega, by rw [q6, hr], by rw [q7]; omega, ?_, fun k => ?_⟩
  · rw [q2, allV_ops, claimV_ops, mkL_len]
    omega
  · rw [q2, g2 k]
    show _ = if k = 0 then _ else lastV (gt s k) _ k
    have : gt (claimV s) k = gt s k := by unfold gt; rw [hcl.1]
    rw [this]
end Go.Proofs.YtlcdpmjdnihocaaGreatD
/- An image in memory, and the document's At and Whole of it; lists of fewer than 2 to the 62nd blocks. -/
namespace Go.Proofs.YtlcdpmjdnihocaaGreat
open Go.RowKit Go.Maps
abbrev Cel := Int × (Nat → Int)
/-- What stands at a number; noughts, if nothing does. -/
def atL : List Cel → Int → Nat → Int
  | [], _ => nought
  | (i, x) :: t, k => if i = k then x else atL t k
/-- Blocks with their numbers in memory. -/
def ImgAt (w : World) (p : Option Addr) (l : List Cel) : Prop := 0 < l.length → ∃ b off, p = some ⟨b, off, none⟩ ∧ b < w.heap.size ∧ ∀ (i : Nat) c, l[i]? = some c → w.cell? ⟨b, off + i * 1025, none⟩ = some (.int .i64 c.1) ∧ NumsAt w .u8 b (off + i * 1025 + 1) c.2 1024
theorem ImgAt.later {w W : World} {p : Option Addr} {l : List Cel} (h : ImgAt w p l) (hb : Below w.heap.size w W) : ImgAt W p l := fun h0 => by
  obtain ⟨b, off, h1, h2, h3⟩ := h h0
  exact ⟨b, off, h1, Nat.lt_of_lt_of_le h2 hb.size, fun i c hc => ⟨(hb.cell (p := ⟨b, off + i * 1025, none⟩) h2).trans (h3 i c hc).1, (h3 i c hc).2.later hb h2⟩⟩
theorem build77 (u : World) : (Instr.build 79 #[]).run Tryz.prog u = .ok (.agg (blk nought)) u := by
  have z := zero77
  simp [Instr.build, z, run_underlying Tryz.underlying79, Instr.fill, Value.cells, go_sem]
theorem wpList_buildB {ops : Array Oper} {rest : List Oper} {o : Oper} {a : Act} {w : World} {Q : Exit → Act → World → Prop} (hw : Region.wanted o (yielded ops a.tmps) = true) (ho : o.op = .build 79 #[])
    (h : wpList Tryz.prog ops Q rest (a.put o.dst (.agg (blk nought))) w) : wpList Tryz.prog ops Q (o :: rest) a w := by
  unfold wpList
  rw [if_pos hw]
  refine .inl ?_
  have hb := build77 w
  generalize blk nought = Z at *
  have e : (execOp a.eval o).run Tryz.prog w = .ok (.value (.agg Z)) w := by
    unfold execOp
    simp only [ho, Array.map_empty, Sem.run_bind]
    simp only [hb, Result.andThen_ok, Sem.run_pure]
  unfold Oper.wp
  rw [e]
  exact h
set_option maxRecDepth 20000 in
set_option maxHeartbeats 1000000 in
theorem at05_any (n : Int) (l : List Cel) (p : Option Addr) (cap : Nat) (k : Int) (w : World) (hl : l.length < 4611686018427387904) (h : ImgAt w p l) :
    Calls Tryz.prog 76 #[.agg #[.int .i64 n, .slice p l.length cap], .int .i64 k] w fun e w' => e = .returned (.agg (blk (atL l k))) ∧ Below w.heap.size w w' := by
  have z := zero77
  have HI : Hid (ImgAt w p l) := h
  obtain ⟨N, hN⟩ : ∃ N, l.length = N := ⟨_, rfl⟩
  have HN : Hid (l.length = N) := hN
  rw [hN] at hl ⊢
  clear h hN
  generalize hR : atL l k = R
  have HR : Hid (atL (l.drop 0) k = R) := hR
  clear hR
  have hX0 : (w.alloc (.cells #[.int .i64 n, .slice p N cap] 24)).heap[w.heap.size]? = some (.cells #[.int .i64 n, .slice p N cap] 24) := heap_alloc_new _ _
  have HB0 : Hid (Below w.heap.size w (w.alloc (.cells #[.int .i64 n, .slice p N cap] 24))) := below_new _ _
  go_enter Tryz.func76, Tryz.ntmps76
  go_wp2
  have HX : Hid (((w.alloc (.cells #[.int .i64 n, .slice p N cap] 24)).alloc (.cells (blk nought) 79)).heap[w.heap.size + 1]? = some (.cells (blk nought) 79)) := heap_two _ _ _
  have HB1 : Hid (Below w.heap.size w ((w.alloc (.cells #[.int .i64 n, .slice p N cap] 24)).alloc (.cells (blk nought) 79))) := below_next HB0.out (below_new _ _)
  have hX1 : ((w.alloc (.cells #[.int .i64 n, .slice p N cap] 24)).alloc (.cells (blk nought) 79)).heap[w.heap.size]? = some (.cells #[.int .i64 n, .slice p N cap] 24) := heap_kept hX0 (below_new _ _)
  generalize ((w.alloc (.cells #[.int .i64 n, .slice p N cap] 24)).alloc (.cells (blk nought) 79)) = V at *
  have c1 : V.cell? ⟨w.heap.size, 1, none⟩ = some (.slice p N cap) := Joins.cell_of_block hX1 1
  clear hX0 hX1 HB0
  go_loopw [5] (fun s5 wx => ∃ j : Nat, j ≤ N ∧ s5 = .int .i64 j ∧ wx = V ∧ Hid (atL (l.drop j) k = R)) (fun s5 _ => N - (intOf s5).toNat)
  case atStart => exact ⟨0, by omega, rfl, rfl, HR.out⟩
  case round =>
    clear HR
    obtain ⟨j, hj, rfl, rfl, HR⟩ := hrel
    by_cases hj2 : (j : Int) < N
    · have hnn := HN.out
      have hc : l[j]? = some l[j] := List.getElem?_eq_getElem (by omega)
      have hd : l.drop j = l[j] :: l.drop (j + 1) := List.drop_eq_getElem_cons (by omega)
      obtain ⟨b, off, rfl, hlt, hC⟩ := HI.out (by omega)
      obtain ⟨a0, a1⟩ := hC j _ hc
      generalize l[j] = c at *
      obtain ⟨y, f⟩ := c
      have q0 : wr.cell? ⟨b, off + j * 1025, none⟩ = some (.int .i64 y) := (HB1.out.cell (p := ⟨b, off + j * 1025, none⟩) hlt).trans a0
      have q1 : NumsAt wr .u8 b (off + j * 1025 + 1) f 1024 := a1.later HB1.out hlt
      have hr := HR.out
      rw [hd, atL] at hr
      clear hC a0 a1 hc hd hnn HR
      by_cases hy : y = k
      · rw [if_pos hy] at hr
        have g0 : (y == k) = true := by simp [hy]
        subst hr
        clear hy
        have hx := HX.out
        go_wp2_with (first | (with_reducible refine isLoadR 79 ?_; refine wpList_ldB rfl (.tmp 25) rfl b (off + j * 1025 + 1) f rfl q1 ?_) | (with_reducible refine isStoreR 79 ?_; refine wpList_stB rfl (.tmp 4) (.tmp 26) rfl (w.heap.size + 1) f nought 79 rfl rfl hx ?_))
        exact retB rfl (w.heap.size + 1) f 79 rfl (setRow_heap _ _ _ _ _ _ hx) rfl ⟨rfl, HB1.out.trans ((Fr.setRow wr (w.heap.size + 1) (blk f)).below (fun i hi => by omega) HB1.out.size)⟩
      · rw [if_neg hy] at hr
        have g0 : (y == k) = false := by simp [hy]
        have HR2 : Hid (atL (l.drop (j + 1)) k = R) := hr
        clear hy hr q1
        go_wp2
        exact ⟨⟨j + 1, by omega, by go_num, trivial, HR2.out⟩, by simp [intOf]; omega⟩
    · have hr := HR.out
      rw [List.drop_of_length_le (by rw [HN.out]; omega), atL] at hr
      have HR2 : Hid (nought = R) := hr
      clear hr HR
      have hx := HX.out
      go_wp2_with (first | (with_reducible refine isBuildR 79 ?_; refine wpList_buildB rfl rfl ?_) | (with_reducible refine isStoreR 79 ?_; refine wpList_stB rfl (.tmp 4) (.tmp 27) rfl (w.heap.size + 1) nought nought 79 rfl rfl hx ?_))
      exact retB rfl (w.heap.size + 1) nought 79 rfl (setRow_heap _ _ _ _ _ _ hx) rfl ⟨by rw [HR2.out], HB1.out.trans ((Fr.setRow wr (w.heap.size + 1) (blk nought)).below (fun i hi => by omega) HB1.out.size)⟩
end Go.Proofs.YtlcdpmjdnihocaaGreat
/- The document's disk of an audit in memory; its At, data, number, Up; the head has no targets. -/
namespace Go.Proofs.YtlcdpmjdnihocaaGreat
open Go.RowKit Go.Maps
/-- A layout's nine numbers. -/
structure Lay where
  b : Int
  l : Int
  i : Int
  logAt : Int
  nodeAt : Int
  nodeBlocks : Int
  bitsAt : Int
  bitsBlocks : Int
  dataAt : Int
def layRow (y : Lay) : Array Value := #[.int .i64 y.b, .int .i64 y.l, .int .i64 y.i, .int .i64 y.logAt, .int .i64 y.nodeAt, .int .i64 y.nodeBlocks, .int .i64 y.bitsAt, .int .i64 y.bitsBlocks, .int .i64 y.dataAt]
def dkRow (n : Int) (p : Option Addr) (N cap : Nat) (y : Lay) (hv : Value) : Array Value := #[.int .i64 n, .slice p N cap, .int .i64 y.b, .int .i64 y.l, .int .i64 y.i, .int .i64 y.logAt, .int .i64 y.nodeAt, .int .i64 y.nodeBlocks, .int .i64 y.bitsAt, .int .i64 y.bitsBlocks, .int .i64 y.dataAt, hv]
/-- The audit's disk at g: an image l of n blocks, its layout, a head without targets. -/
structure Aud (w : World) (g : Nat) (n : Int) (l : List Cel) (y : Lay) : Prop where
  row : ∃ p cap q c, w.heap[g]? = some (.cells (dkRow n p l.length cap y (.slice q 0 c)) 106) ∧ ImgAt w p l
  len : l.length < 4611686018427387904
  byt : ∀ c ∈ l, ∀ i, 0 ≤ c.2 i ∧ c.2 i ≤ 255
theorem Aud.later {w W : World} {g : Nat} {n : Int} {l : List Cel} {y : Lay} (h : Aud w g n l y) (hb : Below w.heap.size w W) : Aud W g n l y := by
  obtain ⟨⟨p, cap, q, c, h1, h2⟩, h3, h4⟩ := h
  exact ⟨⟨p, cap, q, c, heap_kept h1 hb, h2.later hb⟩, h3, h4⟩
set_option maxRecDepth 20000 in
set_option maxHeartbeats 1000000 in
theorem at29_any {w : World} {g : Nat} {n : Int} {l : List Cel} {y : Lay} (h : Aud w g n l y) (k : Int) :
    Calls Tryz.prog 90 #[.pointer (some ⟨g, 0, none⟩), .int .i64 k] w fun e w' => e = .returned (.agg (blk (atL l k))) ∧ Below w.heap.size w w' := by
  obtain ⟨⟨p, cap, q, c, hr, hi⟩, hl, _⟩ := h
  have z := zero77
  have hr1 := heap_kept hr (below_new w (.cells (blk nought) 79))
  have hc := at05_any n l p cap k _ hl (hi.later (below_new w (.cells (blk nought) 79)))
  have HX : Hid ((w.alloc (.cells (blk nought) 79)).heap[w.heap.size]? = some (.cells (blk nought) 79)) := heap_alloc_new _ _
  have HB : Hid (Below w.heap.size w (w.alloc (.cells (blk nought) 79))) := below_new _ _
  unfold dkRow at hr1
  obtain ⟨f, hf⟩ : ∃ f, atL l k = f := ⟨_, rfl⟩
  rw [hf] at hc ⊢
  clear hf
  generalize l.length = N at *
  have c0 := Joins.cell_of_block hr1 0
  have c1 := Joins.cell_of_block hr1 1
  have c11 := Joins.cell_of_block hr1 11
  clear hr hi hl hr1
  go_enter Tryz.func90, Tryz.ntmps90
  go_wp2
  go_loopw [5] (fun s5 wx => s5 = .int .i64 0 ∧ wx = w.alloc (.cells (blk nought) 79)) (fun _ _ => 0)
  case atStart => exact ⟨rfl, rfl⟩
  case round =>
    obtain ⟨rfl, rfl⟩ := hrel
    go_wp2_with (first | (go_at_call 76; fail))
    refine hc.mono ?_
    rintro e W ⟨rfl, hb⟩
    have hx := heap_kept HX.out hb
    have HB2 : Hid (Below w.heap.size w W) := below_next HB.out hb
    clear hb hc
    go_wp2_with (first | (with_reducible refine isStoreR 79 ?_; refine wpList_stB rfl (.tmp 4) (.tmp 44) rfl w.heap.size f nought 79 rfl rfl hx ?_))
    exact retB rfl w.heap.size f 79 rfl (setRow_heap _ _ _ _ _ _ hx) rfl ⟨rfl, HB2.out.trans ((Fr.setRow W w.heap.size (blk f)).below (fun i hi => by omega) HB2.out.size)⟩
/-- Is it a data block's number? -/
def dataB (y : Lay) (b : Int) : Bool := decide (y.dataAt ≤ b) && decide (b < y.b)
set_option maxHeartbeats 400000 in
theorem data29_any {w : World} {g : Nat} {n : Int} {l : List Cel} {y : Lay} (h : Aud w g n l y) (k : Int) :
    Calls Tryz.prog 124 #[.pointer (some ⟨g, 0, none⟩), .int .i64 k] w fun e w' => e = .returned (.bool (dataB y k)) ∧ w' = w := by
  obtain ⟨⟨p, cap, q, c, hr, hi⟩, hl, _⟩ := h
  unfold dkRow at hr
  have c2 := Joins.cell_of_block hr 2
  have c10 := Joins.cell_of_block hr 10
  clear hr hi hl
  unfold dataB
  by_cases h1 : y.dataAt ≤ k
  · have g1 : decide (y.dataAt ≤ k) = true := decide_eq_true h1
    rw [g1]
    go_enter Tryz.func124, Tryz.ntmps124
    go_wp2
    go_ret
    exact ⟨by simp, rfl⟩
  · have g1 : decide (y.dataAt ≤ k) = false := decide_eq_false h1
    rw [g1]
    go_enter Tryz.func124, Tryz.ntmps124
    go_wp2
    go_ret
    exact ⟨rfl, rfl⟩
/-- A number of four bytes, the least first. -/
def le4 (f : Nat → Int) (i : Nat) : Int := f (4 * i) + 256 * (f (4 * i + 1) + 256 * (f (4 * i + 2) + 256 * f (4 * i + 3)))
def Byt (f : Nat → Int) : Prop := ∀ i, 0 ≤ f i ∧ f i ≤ 255
theorem atL_byt : ∀ {l : List Cel}, (∀ c ∈ l, ∀ i, 0 ≤ c.2 i ∧ c.2 i ≤ 255) → ∀ k, Byt (atL l k)
  | [], _, _ => fun _ => by show (0 : Int) ≤ 0 ∧ (0 : Int) ≤ 255; omega
  | (i, x) :: t, h, k => by
    unfold atL
    split
    · exact h (i, x) (by simp)
    · exact atL_byt (fun c hc => h c (by simp [hc])) k
theorem Aud.blk {w : World} {g : Nat} {n : Int} {l : List Cel} {y : Lay} (h : Aud w g n l y) (k : Int) : Byt (atL l k) := atL_byt h.byt k
theorem le4_bound {f : Nat → Int} (hf : Byt f) (i : Nat) : 0 ≤ le4 f i ∧ le4 f i < 4294967296 := by
  have h0 := hf (4 * i)
  have h1 := hf (4 * i + 1)
  have h2 := hf (4 * i + 2)
  have h3 := hf (4 * i + 3)
  unfold le4
  omega
set_option maxRecDepth 20000 in
set_option maxHeartbeats 400000 in
theorem number29_any (f : Nat → Int) (i : Nat) (w : World) (hf : Byt f) (hi : i < 256) :
    Calls Tryz.prog 133 #[.agg (blk f), .int .i64 (i : Int)] w fun e w' => e = .returned (.int .i64 (le4 f i)) ∧ Below w.heap.size w w' := by
  have HX : Hid ((w.alloc (.cells (blk f) 79)).heap[w.heap.size]? = some (.cells (blk f) 79)) := heap_alloc_new _ _
  have HB : Hid (Below w.heap.size w (w.alloc (.cells (blk f) 79))) := below_new _ _
  have e0 : IntKind.i64.wrap (4 * (i : Int)) = 4 * (i : Int) := by rw [IntKind.wrap_i64]; omega
  have h0 := hf (4 * i)
  have h1 := hf (4 * i + 1)
  have h2 := hf (4 * i + 2)
  have h3 := hf (4 * i + 3)
  have HL : Hid (le4 f i = f (4 * i) + 256 * (f (4 * i + 1) + 256 * (f (4 * i + 2) + 256 * f (4 * i + 3)))) := rfl
  generalize le4 f i = R at *
  go_enter Tryz.func133, Tryz.ntmps133
  go_wp2
  generalize w.alloc (.cells (blk f) 79) = V at *
  have b0 := cell_rowN (i := 4 * i) HX.out (by omega)
  have b1 := cell_rowN (i := 4 * i + 1) HX.out (by omega)
  have b2 := cell_rowN (i := 4 * i + 2) HX.out (by omega)
  have b3 := cell_rowN (i := 4 * i + 3) HX.out (by omega)
  generalize f (4 * i) = f0 at *
  generalize f (4 * i + 1) = f1 at *
  generalize f (4 * i + 2) = f2 at *
  generalize f (4 * i + 3) = f3 at *
  go_loopw [5, 6] (fun s5 s6 wx => wx = V ∧ ((s6 = .int .i64 3 ∧ s5 = .int .i64 0) ∨ (s6 = .int .i64 2 ∧ s5 = .int .i64 f3) ∨ (s6 = .int .i64 1 ∧ s5 = .int .i64 (256 * f3 + f2)) ∨ (s6 = .int .i64 0 ∧ s5 = .int .i64 (256 * (256 * f3 + f2) + f1)) ∨ (s6 = .int .i64 (-1) ∧ s5 = .int .i64 R))) (fun _ s6 _ => (intOf s6 + 1).toNat)
  case atStart => exact ⟨rfl, .inl ⟨rfl, rfl⟩⟩
  case round =>
    obtain ⟨rfl, hcs⟩ := hrel
    have e1 : IntKind.i64.wrap (256 * f3) = 256 * f3 := by rw [IntKind.wrap_i64]; omega
    have e2 : IntKind.i64.wrap (256 * f3 + f2) = 256 * f3 + f2 := by rw [IntKind.wrap_i64]; omega
    have e3 : IntKind.i64.wrap (256 * (256 * f3 + f2)) = 256 * (256 * f3 + f2) := by rw [IntKind.wrap_i64]; omega
    have e4 : IntKind.i64.wrap (256 * (256 * f3 + f2) + f1) = 256 * (256 * f3 + f2) + f1 := by rw [IntKind.wrap_i64]; omega
    have e5 : IntKind.i64.wrap (256 * (256 * (256 * f3 + f2) + f1)) = 256 * (256 * (256 * f3 + f2) + f1) := by rw [IntKind.wrap_i64]; omega
    have e6 : IntKind.i64.wrap (256 * (256 * (256 * f3 + f2) + f1) + f0) = R := by have := HL.out; rw [IntKind.wrap_i64, this]; omega
    rcases hcs with ⟨rfl, rfl⟩ | ⟨rfl, rfl⟩ | ⟨rfl, rfl⟩ | ⟨rfl, rfl⟩ | ⟨rfl, rfl⟩
    · go_wp2
      exact ⟨⟨trivial, .inr (.inl ⟨rfl, rfl⟩)⟩, by simp only [intOf]; omega⟩
    · go_wp2
      exact ⟨⟨trivial, .inr (.inr (.inl ⟨rfl, rfl⟩))⟩, by simp only [intOf]; omega⟩
    · go_wp2
      exact ⟨⟨trivial, .inr (.inr (.inr (.inl ⟨rfl, rfl⟩)))⟩, by simp only [intOf]; omega⟩
    · go_wp2
      exact ⟨⟨trivial, .inr (.inr (.inr (.inr ⟨rfl, rfl⟩)))⟩, by simp only [intOf]; omega⟩
    · go_wp2
      go_ret
      exact ⟨rfl, HB.out⟩
set_option maxHeartbeats 400000 in
theorem up29_any (n : Int) (w : World) (hn : 0 ≤ n ∧ n ≤ 4294967296) : Calls Tryz.prog 151 #[.int .i64 n] w fun e w' => e = .returned (.int .i64 ((n + 1023) / 1024)) ∧ w' = w := by
  have e1 : IntKind.i64.wrap (n + 1024) = n + 1024 := by rw [IntKind.wrap_i64]; omega
  have e2 : IntKind.i64.wrap (n + 1024 - 1) = n + 1023 := by rw [IntKind.wrap_i64]; omega
  have e3 : (n + 1023).tdiv 1024 = (n + 1023) / 1024 := Int.tdiv_eq_ediv_of_nonneg (by omega)
  have e4 : IntKind.i64.wrap ((n + 1023) / 1024) = (n + 1023) / 1024 := by rw [IntKind.wrap_i64]; omega
  go_enter Tryz.func151, Tryz.ntmps151
  go_wp2
  go_ret
  exact ⟨rfl, rfl⟩
end Go.Proofs.YtlcdpmjdnihocaaGreat
