/- Several texts joined, each with its own remark; no condition. -/
import Derived.Test.YtkcgbhagjkhcmaaGreatK20
import Derived.Test.YtkcgbhagjkhcmaaGreatK15
import Derived.Test.YtkcgbhagjkhcmaaGreatK18
import Derived.BigQuiet
import Derived.Deep.Cut
import Derived.Test.YtkcgbhagjkhcmaaGreatK17
/- A directory as the state has it. -/
namespace Go.Proofs.YtkcgbhagjkhcmaaGreat
open Go.RowKit Go.Maps
def itRow (i k lk s b : Int) (dv sv : Value) : Array Value := #[.int .i64 i, .int .u16 k, .int .i64 lk, .int .i64 s, .int .i64 b, dv, sv]
theorem sizeIt : (Tryz.prog.info? 105).map (·.size) = some 7 := by kernel_rfl
theorem zeroIt : ∀ w, (zeroValue 105).run Tryz.prog w = .ok (.agg (itRow 0 0 0 0 0 (.slice none 0 0) (.slice none 0 0))) w := (zero_of_info (show (Tryz.prog.info? 105).map (fun i => (i.zero, i.size)) = some (some (.agg (itRow 0 0 0 0 0 (.slice none 0 0) (.slice none 0 0))), 7) by kernel_rfl)).1
theorem it_info (i k lk s b : Int) (dv sv : Value) : (Tryz.prog.info? 105).map (·.size) = some (itRow i k lk s b dv sv).size := sizeIt
theorem it_two (i k lk s b : Int) (dv sv : Value) (i' k' lk' s' b' : Int) (dv' sv' : Value) : (itRow i k lk s b dv sv).size = (itRow i' k' lk' s' b' dv' sv').size := rfl
theorem it_one (i k lk s b : Int) (p q : Option Addr) (m n c d : Nat) : (itRow i k lk s b (.slice p m c) (.slice q n d)).all (·.oneCell') = true := by simp [itRow, Value.oneCell']
theorem wpList_buildIt {ops : Array Oper} {rest : List Oper} {o : Oper} {a : Act} {w : World} {Q : Exit → Act → World → Prop} (hw : Region.wanted o (yielded ops a.tmps) = true) (x0 x1 x2 x3 x4 : Operand) (ho : o.op = .build 105 #[(0, x0), (1, x1), (2, x2), (3, x3), (4, x4)]) (i k lk s b : Int)
    (h0 : a.eval x0 = .int .i64 i) (h1 : a.eval x1 = .int .u16 k) (h2 : a.eval x2 = .int .i64 lk) (h3 : a.eval x3 = .int .i64 s) (h4 : a.eval x4 = .int .i64 b)
    (h : wpList Tryz.prog ops Q rest (a.put o.dst (.agg (itRow i k lk s b (.slice none 0 0) (.slice none 0 0)))) w) : wpList Tryz.prog ops Q (o :: rest) a w := by
  unfold wpList
  rw [if_pos hw]
  refine .inl ?_
  have z := zeroIt w
  have e : (execOp a.eval o).run Tryz.prog w = .ok (.value (.agg (itRow i k lk s b (.slice none 0 0) (.slice none 0 0)))) w := by
    unfold itRow at *
    generalize a.eval = E at *
    unfold execOp
    simp only [ho]
    simp [go_sem, h0, h1, h2, h3, h4, z]
  unfold Oper.wp
  rw [e]
  exact h
set_option maxRecDepth 20000 in
set_option maxHeartbeats 4000000 in
theorem item29_dir {w : World} {g : Nat} {n : Int} {l : List Cel} {y : Lay} (ha : Aud w g n l y) (x : Fl) (h : FlOk w x) (hk : x.k = 2) (hlk : 0 ≤ x.lk ∧ x.lk < 65536) (es : List (Int × ByteArray)) (hm : x.s / 16 = es.length) (hes : es.length ≤ 100000) (hok : ∀ k e, es[k]? = some e → EntB (sloP l x.sp k) e) :
    Calls Tryz.prog 79 #[.pointer (some ⟨g, 0, none⟩), .agg (flCells x).toArray] w fun r w' => ∃ v, r = .returned (.agg (itRow x.inum 2 x.lk x.s x.b (.slice none 0 0) v)) ∧ SlS w w' v es := by
  have z := zeroIt
  obtain ⟨A, hA⟩ : ∃ A, A = w.alloc (.cells (flCells x).toArray 157) := ⟨_, rfl⟩
  have hbA := below_new w (.cells (flCells x).toArray 157)
  rw [← hA] at hbA
  have hxA : A.heap[w.heap.size]? = some (.cells (flCells x).toArray 157) := by rw [hA]; exact heap_alloc_new _ _
  have hsA : A.heap.size = w.heap.size + 1 := by rw [hA]; simp
  obtain ⟨B, hB⟩ : ∃ B, B = A.alloc (.cells (itRow 0 0 0 0 0 (.slice none 0 0) (.slice none 0 0)) 105) := ⟨_, rfl⟩
  have hbB := below_new A (.cells (itRow 0 0 0 0 0 (.slice none 0 0) (.slice none 0 0)) 105)
  rw [← hB] at hbB
  have hrB : B.heap[w.heap.size + 1]? = some (.cells (itRow 0 0 0 0 0 (.slice none 0 0) (.slice none 0 0)) 105) := by rw [hB, ← hsA]; exact heap_alloc_new _ _
  have hsB : B.heap.size = w.heap.size + 2 := by rw [hB]; simp; omega
  have hxB := heap_kept hxA hbB
  obtain ⟨C, hC⟩ : ∃ C, C = B.alloc (.cells (itRow x.inum 2 x.lk x.s x.b (.slice none 0 0) (.slice none 0 0)) 105) := ⟨_, rfl⟩
  have hbC := below_new B (.cells (itRow x.inum 2 x.lk x.s x.b (.slice none 0 0) (.slice none 0 0)) 105)
  rw [← hC] at hbC
  have hiC : C.heap[w.heap.size + 2]? = some (.cells (itRow x.inum 2 x.lk x.s x.b (.slice none 0 0) (.slice none 0 0)) 105) := by rw [hC, ← hsB]; exact heap_alloc_new _ _
  have hbwC := below_next hbA (below_next hbB hbC)
  have hsl := slots29_ok (ha.later hbwC) x ⟨h.lie.later hbwC, h.len, h.s, h.b⟩ es hm hes hok
  have c0 : B.cell? ⟨w.heap.size, 0, none⟩ = some (.int .i64 (x.inum : Int)) := Joins.cell_of_block hxB 0
  have c1 : B.cell? ⟨w.heap.size, 1, none⟩ = some (.int .u16 x.k) := Joins.cell_of_block hxB 1
  have c2 : B.cell? ⟨w.heap.size, 2, none⟩ = some (.int .u16 x.lk) := Joins.cell_of_block hxB 2
  have c3 : B.cell? ⟨w.heap.size, 3, none⟩ = some (.int .u32 x.s) := Joins.cell_of_block hxB 3
  have c4 : B.cell? ⟨w.heap.size, 4, none⟩ = some (.int .u32 x.b) := Joins.cell_of_block hxB 4
  rw [hk] at c1
  have hs := h.s
  have hb := h.b
  have e1 : IntKind.i64.wrap x.lk = x.lk := by rw [IntKind.wrap_i64]; omega
  have e2 : IntKind.i64.wrap x.s = x.s := by rw [IntKind.wrap_i64]; omega
  have e3 : IntKind.i64.wrap x.b = x.b := by rw [IntKind.wrap_i64]; omega
  have HxC : Hid _ := heap_kept hxB hbC
  have HrC : Hid _ := heap_kept hrB hbC
  have HiC : Hid _ := hiC
  have HbC : Hid (Below w.heap.size w C) := hbwC
  have HI : Hid _ := fl_info x
  have HA : Hid (A = _) := hA
  have HB : Hid (B = _) := hB
  have HC : Hid (C = _) := hC
  have HsB : Hid (B.heap.size = _) := hsB
  clear ha h hm hok hxA hxB hrB hbB hbA hbC hbwC hs hb hA hB hC hsA hsB hiC
  go_enter Tryz.func79, Tryz.ntmps79
  go_upto_region 1 with fail
  rw [← HA.out, ← HB.out]
  go_upto_region 2 with (first | (with_reducible refine isBuildR 105 ?_; refine wpList_buildIt rfl (.tmp 8) (.tmp 11) (.tmp 15) (.tmp 19) (.tmp 23) rfl x.inum 2 x.lk x.s x.b rfl rfl rfl rfl rfl ?_) | (with_reducible refine isStoreR 105 ?_; refine wpList_stNew 105 rfl (.tmp 5) (.tmp 24) rfl B.heap.size (itRow x.inum 2 x.lk x.s x.b (.slice none 0 0) (.slice none 0 0)) (itRow 0 0 0 0 0 (.slice none 0 0) (.slice none 0 0)) 105 (it_info _ _ _ _ _ _ _) (it_two _ _ _ _ _ _ _ _ _ _ _ _ _ _) (it_one _ _ _ _ _ _ _ _ _ _ _) rfl rfl rfl ?_))
  rw [← HC.out, HsB.out]
  clear c0 c1 c2 c3 c4 HA HB HC HsB e1 e2 e3
  have d1 : C.cell? ⟨w.heap.size + 2, 1, none⟩ = some (.int .u16 2) := Joins.cell_of_block HiC.out 1
  go_wp2_with (first | (with_reducible refine isLoadR 157 ?_; refine wpList_ldR 157 Tryz.underlying157 rfl rfl (.tmp 3) rfl w.heap.size rfl (flCells x).toArray 157 (0, 0) HI.out HxC.out ?_) | (go_at_call 125; fail))
  refine hsl.mono ?_
  rintro r W1 ⟨v, rfl, hs1⟩
  have hi1 := heap_kept HiC.out hs1.bel
  have hr1 := heap_kept HrC.out hs1.bel
  obtain ⟨pe, ce, rfl, _⟩ := OwnG.lie enE_len hs1.own
  have d6 : W1.cell? ⟨w.heap.size + 2, 6, none⟩ = some (.slice none 0 0) := Joins.cell_of_block hi1 6
  have f6 := frozen_row hi1 6
  have hF := Fr.setCell W1 (w.heap.size + 2) 6 (.slice pe es.length ce)
  have hi2 : (W1.setCell ⟨w.heap.size + 2, 6, none⟩ (.slice pe es.length ce)).heap[w.heap.size + 2]? = some (.cells (itRow x.inum 2 x.lk x.s x.b (.slice none 0 0) (.slice pe es.length ce)) 105) := by
    rw [heap_setCell_same _ _ _ _ _ _ hi1]; rfl
  have hr2 := (hF.block _ (Array.getElem?_eq_some_iff.1 hr1).1 (by omega)).trans hr1
  have HSS : Hid (SlS w ((W1.setCell ⟨w.heap.size + 2, 6, none⟩ (.slice pe es.length ce)).setRow (w.heap.size + 1) (itRow x.inum 2 x.lk x.s x.b (.slice none 0 0) (.slice pe es.length ce))) (.slice pe es.length ce) es) := by
    have hsz := hs1.bel.size
    have hszC := HbC.out.size
    have hF2 := Fr.setRow (W1.setCell ⟨w.heap.size + 2, 6, none⟩ (.slice pe es.length ce)) (w.heap.size + 1) (itRow x.inum 2 x.lk x.s x.b (.slice none 0 0) (.slice pe es.length ce))
    have hC2 := (Array.getElem?_eq_some_iff.1 HiC.out).1
    refine ⟨own_frame (own_frame (hs1.own.mono hszC) hF fun b hb hT => ?_) hF2 fun b hb hT => ?_, ?_⟩
    · have := World.ownsRow.lt hs1.own b hb; omega
    · have := World.ownsRow.lt hs1.own b hb; omega
    · exact ((below_next HbC.out hs1.bel).trans (hF.below (fun j q => by omega) (by omega))).trans (hF2.below (fun j q => by omega) (by have := hF.size; omega))
  clear hs1 hsl hF d1
  generalize es.length = M at *
  go_wp2_with (first | (with_reducible refine isLoadR 105 ?_; refine wpList_ldR 105 Tryz.underlying105 rfl rfl (.tmp 5) rfl (w.heap.size + 2) rfl (itRow x.inum 2 x.lk x.s x.b (.slice none 0 0) (.slice pe M ce)) 105 (0, 0) (it_info _ _ _ _ _ _ _) hi2 ?_) | (with_reducible refine isStoreR 105 ?_; refine wpList_stR 105 rfl (.tmp 4) (.tmp 35) rfl (w.heap.size + 1) (itRow x.inum 2 x.lk x.s x.b (.slice none 0 0) (.slice pe M ce)) (itRow 0 0 0 0 0 (.slice none 0 0) (.slice none 0 0)) 105 (it_info _ _ _ _ _ _ _) (it_two _ _ _ _ _ _ _ _ _ _ _ _ _ _) (it_one _ _ _ _ _ _ _ _ _ _ _) rfl rfl hr2 ?_))
  exact retR Tryz.underlying105 rfl rfl (w.heap.size + 1) _ 105 (it_info _ _ _ _ _ _ _) rfl (setRow_heap _ _ _ _ _ _ hr2) rfl ⟨_, rfl, HSS.out⟩
end Go.Proofs.YtkcgbhagjkhcmaaGreat
/- All that may be wrong with a disk, where nothing is. -/
namespace Go.Proofs.YtkcgbhagjkhcmaaGreat
open Go.RowKit Go.Maps
structure FineL (y : Lay) (l : List Cel) (nI nB bB : Nat) (ent : Fl → List (Int × ByteArray)) (L : List Fl) : Prop where
  len2 : ∀ x ∈ L, x.sp.length ≤ 1000000
  sb : ∀ x ∈ L, (0 ≤ x.s ∧ x.s ≤ 4294967295) ∧ (0 ≤ x.b ∧ x.b ≤ 4294967295)
  lk : ∀ x ∈ L, 0 ≤ x.lk ∧ x.lk < 65536
  ptr : ∀ x ∈ L, ∀ s ∈ x.sp, dataB y s.2 = true
  blk : ∀ x ∈ L, ∀ s ∈ x.sp, 0 ≤ s.2 ∧ s.2 < nB
  tot : (allS L).length ≤ 100000000
  one : ∀ b, b < nB → cntS (allS L) b ≤ 1
  fine : ∀ x ∈ L, FineP l x 7 ∧ FineP l x 8 ∧ FineP l x 9 ∧ FineP l x 10 ∧ FineP l x 12
  bits : ∀ k i, k < bB → i < 8192 → hasP (atL l (y.bitsAt + (k : Int))) i = wantB y (allS L) nB (8192 * k + i)
  dirs : ∀ x ∈ L, x.k = 2 → DirAll l L ent x
  names : (namesP ent L).length ≤ 1000000
  nb : ∀ s ∈ namesP ent L, (0 ≤ s.1 ∧ s.1 ≤ nI) ∧ (0 ≤ s.2 ∧ s.2 ≤ nI)
  tree : ∀ x ∈ L, x.k = 2 → ¬ x.lk = 0 → TreeOk (namesP ent L) (ent x) nI x
  link : ∀ x ∈ L, LinkOk L (namesP ent L) x
structure FineA (y : Lay) (l : List Cel) (nI nN nB bB : Nat) (ent : Fl → List (Int × ByteArray)) : Prop where
  nodes : NodesOk y l nI nN
  i1 : 1 ≤ nI
  b : y.b = nB
  b1 : nB ≤ 100000000
  bi : y.bitsBlocks = bB
  bi1 : bB ≤ 1000000
  ba : 0 ≤ y.bitsAt ∧ y.bitsAt ≤ 1000000000
  all : ∀ L : List Fl, L.map Fl.core = filesK y l nI → FineL y l nI nB bB ent L
set_option maxRecDepth 20000 in
set_option maxHeartbeats 8000000 in
theorem wrong29_all {w : World} {g : Nat} {n : Int} {l : List Cel} {y : Lay} (ha : Aud w g n l y) {nI nN nB bB : Nat} {ent : Fl → List (Int × ByteArray)} (hf : FineA y l nI nN nB bB ent) :
    Calls Tryz.prog 77 #[.pointer (some ⟨g, 0, none⟩)] w fun e w' => e = .returned (.slice none 0 0) ∧ Below w.heap.size w w' := by
  have HA : Hid _ := ha
  have HF : Hid _ := hf
  have hc0 := nodes29_ok ha hf.nodes
  clear ha hf
  go_enter Tryz.func77, Tryz.ntmps77
  go_wp2_with (first | (go_at_call 114; fail))
  refine hc0.mono ?_
  rintro e W0 ⟨rfl, hb⟩
  have HB0 : Hid (Below w.heap.size w W0) := hb
  have hc := files29_any (HA.out.later hb) HF.out.nodes.i HF.out.nodes.i1 HF.out.nodes.at'
  clear hb hc0
  go_wp2_with (first | (go_at_call 78; fail))
  refine hc.mono ?_
  rintro e W1 ⟨v, rfl, ⟨L, hfa, hco⟩, hb⟩
  have hfl := HF.out.all L hco
  have hll : L.length ≤ 1000000 := by
    have h1 : L.length = (filesK y l nI).length := by rw [← hco, List.length_map]
    have h2 := filesK_len y l nI
    have h3 := HF.out.nodes.i1
    omega
  obtain ⟨p, c, rfl, hls⟩ := hfa.fls hll hfl.len2
  have HB1 : Hid (Below w.heap.size w W1) := below_next HB0.out hb
  have HL : Hid (FlsAt W1 p L) := hls
  have HFl : Hid _ := hfl
  have HA1 : Hid (Aud W1 g n l y) := HA.out.later HB1.out
  clear hb hc hfl hls hfa hco HB0 HA
  have HW1 : Hid (Below W1.heap.size W1 W1) := Below.refl _ _
  obtain ⟨N, hN⟩ : ∃ N, L.length = N := ⟨_, rfl⟩
  have HN : Hid (L.length = N) := hN
  rw [hN]
  clear hN hll
  have hc := pointers29_ok HA1.out c HL.out HFl.out.ptr
  rw [HN.out] at hc
  go_wp2_with (first | (go_at_call 115; fail))
  refine hc.mono ?_
  rintro e W2 ⟨rfl, hb⟩
  have HW2 : Hid (Below W1.heap.size W1 W2) := below_next HW1.out hb
  clear hc hb
  have hc := twice29_ok (HA1.out.later HW2.out) c (HL.out.later HW2.out) HF.out.b HF.out.b1 HFl.out.blk HFl.out.tot HFl.out.one
  rw [HN.out] at hc
  go_wp2_with (first | (go_at_call 116; fail))
  refine hc.mono ?_
  rintro e W3 ⟨rfl, hb⟩
  have HW3 : Hid (Below W1.heap.size W1 W3) := below_next HW2.out hb
  clear hc hb HW2
  have HWk : Hid (Below W1.heap.size W1 (W3.alloc (.cells #[.int .u8 7, .int .u8 8, .int .u8 9, .int .u8 10] 189))) := below_next HW3.out (below_new _ _)
  have HK : Hid ((W3.alloc (.cells #[.int .u8 7, .int .u8 8, .int .u8 9, .int .u8 10] 189)).heap[W3.heap.size]? = some (.cells #[.int .u8 7, .int .u8 8, .int .u8 9, .int .u8 10] 189)) := heap_alloc_new _ _
  clear HW3
  have zk := (zero_of_info (show (Tryz.prog.info? 189).map (fun i => (i.zero, i.size)) = some (some (.int .u8 0), 1) by kernel_rfl)).1
  go_wp2
  generalize W3.alloc (.cells #[.int .u8 7, .int .u8 8, .int .u8 9, .int .u8 10] 189) = V at *
  generalize W3.heap.size = gk at *
  go_loopw [3, 6] (fun _ s6 wx => ∃ i : Nat, i ≤ 4 ∧ s6 = .int .i64 i ∧ Hid (Below V.heap.size V wx)) (fun _ s6 _ => 4 - (intOf s6).toNat)
  case atStart => exact ⟨0, by omega, rfl, Below.refl _ _⟩
  case round =>
    obtain ⟨i, hi, rfl, HW⟩ := hrel
    have hbw := below_next HWk.out HW.out
    have hkr := heap_kept HK.out HW.out
    by_cases hi2 : (i : Int) < 4
    · obtain ⟨kd, hkd, hck⟩ : ∃ kd : Int, (∀ x ∈ L, FineP l x kd) ∧ wr.cell? ⟨gk, i, none⟩ = some (.int .u8 kd) := by
        have hh := HFl.out.fine
        rcases (show i = 0 ∨ i = 1 ∨ i = 2 ∨ i = 3 by omega) with rfl | rfl | rfl | rfl
        · exact ⟨7, fun x hx => (hh x hx).1, Joins.cell_of_block hkr 0⟩
        · exact ⟨8, fun x hx => (hh x hx).2.1, Joins.cell_of_block hkr 1⟩
        · exact ⟨9, fun x hx => (hh x hx).2.2.1, Joins.cell_of_block hkr 2⟩
        · exact ⟨10, fun x hx => (hh x hx).2.2.2.1, Joins.cell_of_block hkr 3⟩
      have hc := filesF29_ok (HA1.out.later hbw) c (HL.out.later hbw) kd HFl.out.sb hkd
      rw [HN.out] at hc
      have hi4 : i < 4 := by omega
      clear hkd hbw hkr
      go_wp2_with (first | (go_at_call 117; fail))
      refine hc.mono ?_
      rintro e W ⟨rfl, hb⟩
      have HW2 : Hid (Below V.heap.size V W) := below_next HW.out hb
      clear hc hb HW hck
      go_wp2
      exact ⟨⟨i + 1, by omega, by go_num, HW2.out⟩, by simp [intOf]; omega⟩
    · have HW4 : Hid (Below W1.heap.size W1 wr) := hbw
      clear hbw hkr HW
      obtain rfl : i = 4 := by omega
      have hc := bits29_ok (HA1.out.later HW4.out) c (HL.out.later HW4.out) HF.out.b HF.out.b1 HFl.out.blk HFl.out.tot HF.out.bi HF.out.bi1 HF.out.ba HFl.out.bits
      rw [HN.out] at hc
      go_wp2_with (first | (go_at_call 118; fail))
      refine hc.mono ?_
      rintro e W5 ⟨rfl, hb⟩
      have HW5 : Hid (Below W1.heap.size W1 W5) := below_next HW4.out hb
      clear hc hb HW4
      have hc := filesF29_ok (HA1.out.later HW5.out) c (HL.out.later HW5.out) 12 HFl.out.sb (fun x hx => (HFl.out.fine x hx).2.2.2.2)
      rw [HN.out] at hc
      go_wp2_with (first | (go_at_call 117; fail))
      refine hc.mono ?_
      rintro e W6 ⟨rfl, hb⟩
      have HW6 : Hid (Below W1.heap.size W1 W6) := below_next HW5.out hb
      clear hc hb HW5
      have hc := slotsF29_ok (HA1.out.later HW6.out) c (HL.out.later HW6.out) HFl.out.sb ent HFl.out.dirs
      rw [HN.out] at hc
      go_wp2_with (first | (go_at_call 119; fail))
      refine hc.mono ?_
      rintro e W7 ⟨rfl, hb⟩
      have HW7 : Hid (Below W1.heap.size W1 W7) := below_next HW6.out hb
      clear hc hb HW6
      have hc := names29_ok (HA1.out.later HW7.out) c (HL.out.later HW7.out) HFl.out.sb ent (fun x hx h2 _ => (HFl.out.dirs x hx h2).ok) HFl.out.names
      rw [HN.out] at hc
      go_wp2_with (first | (go_at_call 120; fail))
      refine hc.mono ?_
      rintro e W8 ⟨v, rfl, hnm⟩
      have HW8 : Hid (Below W1.heap.size W1 W8) := below_next HW7.out hnm.bel
      obtain ⟨pn, cn, rfl, hlie⟩ := OwnG.lie pc2_len hnm.own
      have HNm : Hid (LieG pc2 2 W8 pn (namesP ent L)) := hlie
      clear hc hnm HW7 hlie
      obtain ⟨M, hM⟩ : ∃ M, (namesP ent L).length = M := ⟨_, rfl⟩
      have HM : Hid ((namesP ent L).length = M) := hM
      rw [hM]
      clear hM
      have hc := tree29_ok (HA1.out.later HW8.out) c cn (HL.out.later HW8.out) HNm.out HFl.out.names HF.out.nodes.i ⟨HF.out.i1, HF.out.nodes.i1⟩ HFl.out.nb HFl.out.sb ent (fun x hx h2 h3 => ⟨(HFl.out.dirs x hx h2).ok, HFl.out.tree x hx h2 h3⟩)
      rw [HN.out, HM.out] at hc
      go_wp2_with (first | (go_at_call 121; fail))
      refine hc.mono ?_
      rintro e W9 ⟨rfl, hb⟩
      have HW9 : Hid (Below W1.heap.size W1 W9) := below_next HW8.out hb
      have hc2 := links29_ok (g := g) c cn (HL.out.later HW9.out) (HNm.out.later hb) HFl.out.names HFl.out.lk HFl.out.link
      rw [HN.out, HM.out] at hc2
      clear hc hb HW8 HNm
      go_wp2_with (first | (go_at_call 122; fail))
      refine hc2.mono ?_
      rintro e W10 ⟨rfl, hb⟩
      have HW10 : Hid (Below w.heap.size w W10) := below_next HB1.out (below_next HW9.out hb)
      clear hc2 hb HW9
      go_wp2
      go_ret
      exact ⟨rfl, HW10.out⟩
end Go.Proofs.YtkcgbhagjkhcmaaGreat
/- The layout of a geometry that may be; the document's own words. -/
namespace Go.Proofs.YtkcgbhagjkhcmaaGreat
open Go.RowKit Go.Maps
structure GeoOk (b l i : Nat) : Prop where
  b1 : 1 ≤ b
  b2 : b ≤ 1048576
  l1 : 32 ≤ l
  l2 : l ≤ 256
  i1 : 1 ≤ i
  i2 : i ≤ 65535
  fit : 1 + l + (i + 16) / 16 + (b + 8191) / 8192 < b
def layOf (b l i : Nat) : Lay := ⟨b, l, i, 1, ((1 + l : Nat) : Int), (((i + 16) / 16 : Nat) : Int), ((1 + l + (i + 16) / 16 : Nat) : Int), (((b + 8191) / 8192 : Nat) : Int), ((1 + l + (i + 16) / 16 + (b + 8191) / 8192 : Nat) : Int)⟩
def lay0 : Lay := ⟨0, 0, 0, 0, 0, 0, 0, 0, 0⟩
theorem sizeLay : (Tryz.prog.info? 49).map (·.size) = some 9 := by kernel_rfl
theorem zeroLay : ∀ w, (zeroValue 49).run Tryz.prog w = .ok (.agg (layRow lay0)) w := (zero_of_info (show (Tryz.prog.info? 49).map (fun i => (i.zero, i.size)) = some (some (.agg (layRow lay0)), 9) by kernel_rfl)).1
theorem lay_info (y : Lay) : (Tryz.prog.info? 49).map (·.size) = some (layRow y).size := sizeLay
theorem lay_two (y z : Lay) : (layRow y).size = (layRow z).size := rfl
theorem lay_one (y : Lay) : (layRow y).all (·.oneCell') = true := by simp [layRow, Value.oneCell']
def geoRow (b l i : Int) : Array Value := #[.int .i64 b, .int .i64 l, .int .i64 i]
theorem geo_info (b l i : Int) : (Tryz.prog.info? 26).map (·.size) = some (geoRow b l i).size := by show _ = some 3; kernel_rfl
/-- The number in a cell. -/
def numAt (w : World) (g j : Nat) : Int := match w.cell? ⟨g, j, none⟩ with
  | some (.int _ x) => x
  | _ => 0
theorem numAt_eq {w : World} {g j : Nat} {k : IntKind} {x : Int} (h : w.cell? ⟨g, j, none⟩ = some (.int k x)) : numAt w g j = x := by unfold numAt; rw [h]
structure OfS (w W : World) (b l i : Int) (y : Lay) : Prop where
  geo : W.heap[w.heap.size]? = some (.cells (geoRow b l i) 26)
  res : W.heap[w.heap.size + 1]? = some (.cells (layRow lay0) 49)
  lay : W.heap[w.heap.size + 2]? = some (.cells (layRow y) 49)
  bel : Below w.heap.size w W
theorem OfS.set {w W : World} {b l i : Int} {y : Lay} (h : OfS w W b l i y) (j : Nat) (x : Int) (z : Lay) (hz : (layRow y).setIfInBounds j (.int .i64 x) = layRow z) : OfS w (W.setCell ⟨w.heap.size + 2, j, none⟩ (.int .i64 x)) b l i z := by
  have hF := Fr.setCell W (w.heap.size + 2) j (.int .i64 x)
  refine ⟨(hF.block _ (Array.getElem?_eq_some_iff.1 h.geo).1 (by omega)).trans h.geo, (hF.block _ (Array.getElem?_eq_some_iff.1 h.res).1 (by omega)).trans h.res, ?_, h.bel.trans (hF.below (fun j q => by omega) h.bel.size)⟩
  rw [heap_setCell_same _ _ _ _ _ _ h.lay, hz]
theorem wpList_buildLay {ops : Array Oper} {rest : List Oper} {o : Oper} {a : Act} {w : World} {Q : Exit → Act → World → Prop} (hw : Region.wanted o (yielded ops a.tmps) = true) (x0 x2 : Operand) (ho : o.op = .build 49 #[(0, x0), (1, .const (.int .i64 1)), (2, x2)]) (b l i q : Int)
    (h0 : a.eval x0 = .agg (geoRow b l i)) (h2 : a.eval x2 = .int .i64 q)
    (h : wpList Tryz.prog ops Q rest (a.put o.dst (.agg (layRow ⟨b, l, i, 1, q, 0, 0, 0, 0⟩))) w) : wpList Tryz.prog ops Q (o :: rest) a w := by
  unfold wpList
  rw [if_pos hw]
  refine .inl ?_
  have z := zeroLay w
  have hc : a.eval (.const (.int .i64 1)) = .int .i64 1 := rfl
  have e : (execOp a.eval o).run Tryz.prog w = .ok (.value (.agg (layRow ⟨b, l, i, 1, q, 0, 0, 0, 0⟩))) w := by
    unfold layRow lay0 at z
    unfold layRow
    unfold geoRow at h0
    generalize a.eval = E at *
    unfold execOp
    simp only [ho]
    simp [go_sem, h0, h2, hc, z]
  unfold Oper.wp
  rw [e]
  exact h
set_option maxRecDepth 20000 in
set_option maxHeartbeats 4000000 in
theorem of03_ok {b l i : Nat} (h : GeoOk b l i) (w : World) :
    Calls Tryz.prog 17 #[.agg (geoRow b l i)] w fun e w' => e = .returned (.tuple #[.agg (layRow (layOf b l i)), .int .i64 0]) ∧ Below w.heap.size w w' := by
  have z := zeroLay
  obtain ⟨h1, h2, h3, h4, h5, h6, h7⟩ := h
  obtain ⟨A, hA⟩ : ∃ A, A = (w.alloc (.cells (geoRow b l i) 26)).alloc (.cells (layRow lay0) 49) := ⟨_, rfl⟩
  have hbA : Below w.heap.size w A := by rw [hA]; exact below_next (below_new _ _) (below_new _ _)
  have hgA : A.heap[w.heap.size]? = some (.cells (geoRow b l i) 26) := by rw [hA]; exact heap_kept (heap_alloc_new _ _) (below_new _ _)
  have hrA : A.heap[w.heap.size + 1]? = some (.cells (layRow lay0) 49) := by rw [hA]; exact heap_two _ _ _
  have hsA : A.heap.size = w.heap.size + 2 := by rw [hA]; simp
  have c0 : A.cell? ⟨w.heap.size, 0, none⟩ = some (.int .i64 (b : Int)) := Joins.cell_of_block hgA 0
  have c1 : A.cell? ⟨w.heap.size, 1, none⟩ = some (.int .i64 (l : Int)) := Joins.cell_of_block hgA 1
  have c2 : A.cell? ⟨w.heap.size, 2, none⟩ = some (.int .i64 (i : Int)) := Joins.cell_of_block hgA 2
  have e1 : IntKind.i64.wrap (1 + (l : Int)) = ((1 + l : Nat) : Int) := by rw [IntKind.wrap_i64]; omega
  have HOf : Hid (OfS w (A.alloc (.cells (layRow ⟨b, l, i, 1, ((1 + l : Nat) : Int), 0, 0, 0, 0⟩) 49)) b l i ⟨b, l, i, 1, ((1 + l : Nat) : Int), ((0 : Nat) : Int), 0, ((0 : Nat) : Int), 0⟩) :=
    ⟨heap_kept hgA (below_new _ _), heap_kept hrA (below_new _ _), by rw [← hsA]; exact heap_alloc_new _ _, below_next hbA (below_new _ _)⟩
  have HA : Hid (A = _) := hA
  have HsA : Hid (A.heap.size = _) := hsA
  have HgA : Hid _ := hgA
  clear hA hsA hgA hrA hbA
  have t1 : decide ((l : Int) < 32) = false := decide_eq_false (by omega)
  have t2 : decide ((256 : Int) < (l : Int)) = false := decide_eq_false (by omega)
  have t3 : decide ((i : Int) < 1) = false := decide_eq_false (by omega)
  have t4 : decide ((65535 : Int) < (i : Int)) = false := decide_eq_false (by omega)
  have t5 : decide ((1048576 : Int) < (b : Int)) = false := decide_eq_false (by omega)
  have t6 : decide ((b : Int) < 1) = false := decide_eq_false (by omega)
  have t1' : decide (l < 32) = false := decide_eq_false (by omega)
  have t2' : decide (256 < l) = false := decide_eq_false (by omega)
  have t3' : decide (i < 1) = false := decide_eq_false (by omega)
  have t4' : decide (65535 < i) = false := decide_eq_false (by omega)
  have t5' : decide (1048576 < b) = false := decide_eq_false (by omega)
  have t6' : decide (b < 1) = false := decide_eq_false (by omega)
  go_enter Tryz.func17, Tryz.ntmps17
  go_upto_region 1 with fail
  rw [← HA.out]
  go_wp2_with (first | (with_reducible refine isLoadR 26 ?_; refine wpList_ldR 26 Tryz.underlying26 rfl rfl (.tmp 1) rfl w.heap.size rfl (geoRow b l i) 26 (0, 0) (geo_info _ _ _) HgA.out ?_) | (with_reducible refine isBuildR 49 ?_; refine wpList_buildLay rfl (.tmp 34) (.tmp 37) rfl b l i ((1 + l : Nat) : Int) rfl rfl ?_) | (with_reducible refine isStoreR 49 ?_; refine wpList_stNew 49 rfl (.tmp 4) (.tmp 38) rfl A.heap.size (layRow ⟨b, l, i, 1, ((1 + l : Nat) : Int), 0, 0, 0, 0⟩) (layRow lay0) 49 (lay_info _) (lay_two _ _) (lay_one _) rfl rfl rfl ?_))
  rw [HsA.out]
  generalize A.alloc (.cells (layRow ⟨b, l, i, 1, ((1 + l : Nat) : Int), 0, 0, 0, 0⟩) 49) = V at *
  clear HA HsA HgA t1 t2 t3 t4 t5 t6 t1' t2' t3' t4' t5' t6' c0 c1 c2 e1
  simp only [Act.put]
  go_loopw [45] (fun _ wx => ∃ k : Nat, k ≤ (i + 16) / 16 ∧ Hid (OfS w wx b l i ⟨b, l, i, 1, ((1 + l : Nat) : Int), (k : Int), 0, ((0 : Nat) : Int), 0⟩)) (fun _ wx => (i + 16) / 16 - (numAt wx (w.heap.size + 2) 5).toNat)
  case atStart => exact ⟨0, by omega, HOf.out⟩
  case round =>
    clear HOf
    obtain ⟨k, hk, HOf⟩ := hrel
    have d2 : wr.cell? ⟨w.heap.size, 2, none⟩ = some (.int .i64 (i : Int)) := Joins.cell_of_block HOf.out.geo 2
    have d5 : wr.cell? ⟨w.heap.size + 2, 5, none⟩ = some (.int .i64 (k : Int)) := Joins.cell_of_block HOf.out.lay 5
    have e2 : IntKind.i64.wrap (16 * (k : Int)) = 16 * (k : Int) := by rw [IntKind.wrap_i64]; omega
    have e3 : IntKind.i64.wrap ((i : Int) + 1) = (i : Int) + 1 := by rw [IntKind.wrap_i64]; omega
    by_cases hkl : 16 * (k : Int) < (i : Int) + 1
    · have f5 := frozen_row HOf.out.lay 5
      have e4 : IntKind.i64.wrap ((k : Int) + 1) = ((k + 1 : Nat) : Int) := by rw [IntKind.wrap_i64]; omega
      have HO2 : Hid (OfS w (wr.setCell ⟨w.heap.size + 2, 5, none⟩ (.int .i64 ((k + 1 : Nat) : Int))) b l i ⟨b, l, i, 1, ((1 + l : Nat) : Int), ((k + 1 : Nat) : Int), 0, ((0 : Nat) : Int), 0⟩) := HOf.out.set 5 _ _ rfl
      have HM1 : Hid (numAt wr (w.heap.size + 2) 5 = (k : Int)) := numAt_eq d5
      have HM2 : Hid (numAt (wr.setCell ⟨w.heap.size + 2, 5, none⟩ (.int .i64 ((k + 1 : Nat) : Int))) (w.heap.size + 2) 5 = ((k + 1 : Nat) : Int)) := numAt_eq (Joins.cell_of_block HO2.out.lay 5)
      have g1 : decide (16 * (k : Int) < (i : Int) + 1) = true := decide_eq_true hkl
      have e5 : (k : Int) + 1 = ((k + 1 : Nat) : Int) := by omega
      clear HOf
      generalize hkk : k + 1 = k' at *
      go_wp2
      exact ⟨⟨k', by omega, HO2.out⟩, by rw [HM1.out, HM2.out]; omega⟩
    · have g1 : decide (16 * (k : Int) < (i : Int) + 1) = false := decide_eq_false hkl
      obtain rfl : k = (i + 16) / 16 := by omega
      obtain ⟨nb, hnb⟩ : ∃ nb, (i + 16) / 16 = nb := ⟨_, rfl⟩
      have HNb : Hid ((i + 16) / 16 = nb) := hnb
      rw [hnb] at d5 e2 g1 HOf hkl h7
      have hnb1 : nb ≤ 5000 := by omega
      clear hk hnb
      have d4 : wr.cell? ⟨w.heap.size + 2, 4, none⟩ = some (.int .i64 ((1 + l : Nat) : Int)) := Joins.cell_of_block HOf.out.lay 4
      have d6 : wr.cell? ⟨w.heap.size + 2, 6, none⟩ = some (.int .i64 0) := Joins.cell_of_block HOf.out.lay 6
      have f6 := frozen_row HOf.out.lay 6
      have e6 : IntKind.i64.wrap (((1 + l : Nat) : Int) + (nb : Int)) = ((1 + l + nb : Nat) : Int) := by rw [IntKind.wrap_i64]; omega
      have e6' : ((1 + l : Nat) : Int) + (nb : Int) = ((1 + l + nb : Nat) : Int) := by omega
      have HO2 : Hid (OfS w (wr.setCell ⟨w.heap.size + 2, 6, none⟩ (.int .i64 ((1 + l + nb : Nat) : Int))) b l i ⟨b, l, i, 1, ((1 + l : Nat) : Int), (nb : Int), ((1 + l + nb : Nat) : Int), ((0 : Nat) : Int), 0⟩) := HOf.out.set 6 _ _ rfl
      clear HOf
      obtain ⟨ba, hba⟩ : ∃ ba, 1 + l + nb = ba := ⟨_, rfl⟩
      obtain ⟨na, hna⟩ : ∃ na, 1 + l = na := ⟨_, rfl⟩
      have HBa : Hid (1 + l + nb = ba) := hba
      have HNa : Hid (1 + l = na) := hna
      rw [hba] at e6 e6' HO2 h7
      rw [hna] at e6 e6' HO2 d4
      clear hba hna
      go_wp2
      generalize wr.setCell ⟨w.heap.size + 2, 6, none⟩ (.int .i64 (ba : Int)) = V2 at *
      clear d2 d5 d4 d6 f6 e6 e6' e2 e3 g1
      go_loopw [61] (fun _ wx => ∃ k : Nat, k ≤ (b + 8191) / 8192 ∧ Hid (OfS w wx b l i ⟨b, l, i, 1, (na : Int), (nb : Int), (ba : Int), (k : Int), 0⟩)) (fun _ wx => (b + 8191) / 8192 - (numAt wx (w.heap.size + 2) 7).toNat)
      case atStart => exact ⟨0, by omega, HO2.out⟩
      case round =>
        clear HO2
        obtain ⟨k, hk, HOf⟩ := hrel
        have d0 : wr.cell? ⟨w.heap.size, 0, none⟩ = some (.int .i64 (b : Int)) := Joins.cell_of_block HOf.out.geo 0
        have d7 : wr.cell? ⟨w.heap.size + 2, 7, none⟩ = some (.int .i64 (k : Int)) := Joins.cell_of_block HOf.out.lay 7
        have e2 : IntKind.i64.wrap (8192 * (k : Int)) = 8192 * (k : Int) := by rw [IntKind.wrap_i64]; omega
        by_cases hkb : 8192 * (k : Int) < (b : Int)
        · have f7 := frozen_row HOf.out.lay 7
          have e4 : IntKind.i64.wrap ((k : Int) + 1) = ((k + 1 : Nat) : Int) := by rw [IntKind.wrap_i64]; omega
          have e5 : (k : Int) + 1 = ((k + 1 : Nat) : Int) := by omega
          have HO2 : Hid (OfS w (wr.setCell ⟨w.heap.size + 2, 7, none⟩ (.int .i64 ((k + 1 : Nat) : Int))) b l i ⟨b, l, i, 1, (na : Int), (nb : Int), (ba : Int), ((k + 1 : Nat) : Int), 0⟩) := HOf.out.set 7 _ _ rfl
          have HM1 : Hid (numAt wr (w.heap.size + 2) 7 = (k : Int)) := numAt_eq d7
          have HM2 : Hid (numAt (wr.setCell ⟨w.heap.size + 2, 7, none⟩ (.int .i64 ((k + 1 : Nat) : Int))) (w.heap.size + 2) 7 = ((k + 1 : Nat) : Int)) := numAt_eq (Joins.cell_of_block HO2.out.lay 7)
          have g1 : decide (8192 * (k : Int) < (b : Int)) = true := decide_eq_true hkb
          clear HOf
          generalize hkk : k + 1 = k' at *
          go_wp2
          exact ⟨⟨k', by omega, HO2.out⟩, by rw [HM1.out, HM2.out]; omega⟩
        · have g1 : decide (8192 * (k : Int) < (b : Int)) = false := decide_eq_false hkb
          obtain rfl : k = (b + 8191) / 8192 := by omega
          obtain ⟨bb, hbb⟩ : ∃ bb, (b + 8191) / 8192 = bb := ⟨_, rfl⟩
          have HBb : Hid ((b + 8191) / 8192 = bb) := hbb
          rw [hbb] at d7 e2 g1 HOf hkb h7
          have hbb1 : bb ≤ 5000 := by omega
          clear hk hbb
          have d6 : wr.cell? ⟨w.heap.size + 2, 6, none⟩ = some (.int .i64 (ba : Int)) := Joins.cell_of_block HOf.out.lay 6
          have d8 : wr.cell? ⟨w.heap.size + 2, 8, none⟩ = some (.int .i64 0) := Joins.cell_of_block HOf.out.lay 8
          have f8 := frozen_row HOf.out.lay 8
          have e6 : IntKind.i64.wrap ((ba : Int) + (bb : Int)) = ((ba + bb : Nat) : Int) := by rw [IntKind.wrap_i64]; omega
          have e6' : (ba : Int) + (bb : Int) = ((ba + bb : Nat) : Int) := by omega
          have HO2 : Hid (OfS w (wr.setCell ⟨w.heap.size + 2, 8, none⟩ (.int .i64 ((ba + bb : Nat) : Int))) b l i ⟨b, l, i, 1, (na : Int), (nb : Int), (ba : Int), (bb : Int), ((ba + bb : Nat) : Int)⟩) := HOf.out.set 8 _ _ rfl
          have HY : Hid (layOf b l i = ⟨b, l, i, 1, (na : Int), (nb : Int), (ba : Int), (bb : Int), ((ba + bb : Nat) : Int)⟩) := by
            show _ = _
            unfold layOf
            rw [HNb.out, HBb.out, HBa.out, HNa.out]
          have hda : ba + bb < b := by have := HBa.out; omega
          clear HOf h7
          generalize ba + bb = da at *
          have g2 : decide ((b : Int) ≤ (da : Int)) = false := decide_eq_false (by omega)
          have g2' : decide (b ≤ da) = false := decide_eq_false (by omega)
          go_upto_region 10 with fail
          generalize wr.setCell ⟨w.heap.size + 2, 8, none⟩ (.int .i64 (da : Int)) = V3 at *
          clear d0 d7 e2 g1 d6 d8 f8 e6 e6'
          have d0 : V3.cell? ⟨w.heap.size, 0, none⟩ = some (.int .i64 (b : Int)) := Joins.cell_of_block HO2.out.geo 0
          have d8 : V3.cell? ⟨w.heap.size + 2, 8, none⟩ = some (.int .i64 (da : Int)) := Joins.cell_of_block HO2.out.lay 8
          have HOl : Hid _ := HO2.out.lay
          have HOr : Hid _ := HO2.out.res
          go_wp2_with (first | (with_reducible refine isLoadR 49 ?_; refine wpList_ldR 49 Tryz.underlying49 rfl rfl (.tmp 4) rfl (w.heap.size + 2) rfl (layRow ⟨b, l, i, 1, (na : Int), (nb : Int), (ba : Int), (bb : Int), (da : Int)⟩) 49 (0, 0) (lay_info _) HOl.out ?_) | (with_reducible refine isStoreR 49 ?_; refine wpList_stR 49 rfl (.tmp 2) (.tmp 78) rfl (w.heap.size + 1) (layRow ⟨b, l, i, 1, (na : Int), (nb : Int), (ba : Int), (bb : Int), (da : Int)⟩) (layRow lay0) 49 (lay_info _) (lay_two _ _) (lay_one _) rfl rfl HOr.out ?_))
          rw [HY.out]
          exact retCT Tryz.underlying49 rfl rfl (w.heap.size + 1) _ 49 (lay_info _) rfl (setRow_heap _ _ _ _ _ _ HOr.out) rfl ⟨rfl, HO2.out.bel.trans ((Fr.setRow V3 (w.heap.size + 1) _).below (fun j q => by omega) HO2.out.bel.size)⟩
end Go.Proofs.YtkcgbhagjkhcmaaGreat
/- A layout that fits; its superblock; the document's own words. -/
namespace Go.Proofs.YtkcgbhagjkhcmaaGreat
open Go.RowKit Go.Maps
set_option maxRecDepth 20000 in
theorem eqLay (y : Lay) : ∀ w, (Op.equalIn 10000 49 (.agg (layRow y)) (.agg (layRow y))).run Tryz.prog w = .ok true w := by
  intro w
  unfold layRow
  simp [go_sem]
set_option maxRecDepth 20000 in
set_option maxHeartbeats 1000000 in
theorem fits03_ok {b l i : Nat} (h : GeoOk b l i) (w : World) :
    Calls Tryz.prog 84 #[.agg (layRow (layOf b l i))] w fun e w' => e = .returned (.bool true) ∧ Below w.heap.size w w' := by
  have z := zeroLay
  have hX := heap_alloc_new w (.cells (layRow (layOf b l i)) 49)
  have HB : Hid _ := below_new w (.cells (layRow (layOf b l i)) 49)
  have hof := of03_ok h (w.alloc (.cells (layRow (layOf b l i)) 49))
  have HE : Hid _ := eqLay (layOf b l i)
  have c0 : (w.alloc (.cells (layRow (layOf b l i)) 49)).cell? ⟨w.heap.size, 0, none⟩ = some (.int .i64 (b : Int)) := Joins.cell_of_block hX 0
  have c1 : (w.alloc (.cells (layRow (layOf b l i)) 49)).cell? ⟨w.heap.size, 1, none⟩ = some (.int .i64 (l : Int)) := Joins.cell_of_block hX 1
  have c2 : (w.alloc (.cells (layRow (layOf b l i)) 49)).cell? ⟨w.heap.size, 2, none⟩ = some (.int .i64 (i : Int)) := Joins.cell_of_block hX 2
  have HX : Hid _ := hX
  clear hX h
  generalize layOf b l i = y at *
  unfold geoRow at hof
  go_enter Tryz.func84, Tryz.ntmps84
  go_upto_region 1 with fail
  generalize w.alloc (.cells (layRow y) 49) = V at *
  go_wp2_with (first | (go_at_call 17; fail))
  refine hof.mono ?_
  rintro e W1 ⟨rfl, hb⟩
  have HX1 : Hid _ := heap_kept (heap_kept HX.out hb) (below_new W1 (.cells (layRow y) 49))
  have HX2 : Hid _ := heap_alloc_new W1 (.cells (layRow y) 49)
  have HB1 : Hid (Below w.heap.size w (W1.alloc (.cells (layRow y) 49))) := below_next (below_next HB.out hb) (below_new _ _)
  clear hof hb HX HB c0 c1 c2
  go_upto_region 2 with (first | (with_reducible refine isStoreR 49 ?_; refine wpList_stNew 49 rfl (.tmp 3) (.tmp 9) rfl W1.heap.size (layRow y) (layRow lay0) 49 (lay_info _) (lay_two _ _) (lay_one _) rfl rfl rfl ?_))
  generalize W1.alloc (.cells (layRow y) 49) = X at *
  generalize W1.heap.size = gx at *
  have heq := HE.out
  go_wp2_with (first | (with_reducible refine isLoadR 49 ?_; refine wpList_ldR 49 Tryz.underlying49 rfl rfl (.tmp 3) rfl gx rfl (layRow y) 49 (0, 0) (lay_info _) HX2.out ?_) | (with_reducible refine isLoadR 49 ?_; refine wpList_ldR 49 Tryz.underlying49 rfl rfl (.tmp 1) rfl w.heap.size rfl (layRow y) 49 (0, 0) (lay_info _) HX1.out ?_))
  go_ret
  exact ⟨rfl, HB1.out⟩
end Go.Proofs.YtkcgbhagjkhcmaaGreat
/- A layout's superblock, written; the document's own words. -/
namespace Go.Proofs.YtkcgbhagjkhcmaaGreat
open Go.RowKit Go.Maps
theorem sizeN9 : (Tryz.prog.info? 164).map (·.size) = some 9 := by kernel_rfl
theorem zeroN9 : ∀ w, (zeroValue 164).run Tryz.prog w = .ok (.agg (layRow lay0)) w := (zero_of_info (show (Tryz.prog.info? 164).map (fun i => (i.zero, i.size)) = some (some (.agg (layRow lay0)), 9) by kernel_rfl)).1
theorem n9_info (y : Lay) : (Tryz.prog.info? 164).map (·.size) = some (layRow y).size := sizeN9
set_option maxRecDepth 20000 in
set_option maxHeartbeats 1000000 in
theorem numbers03_any (y : Lay) (w : World) : Calls Tryz.prog 85 #[.agg (layRow y)] w fun e w' => e = .returned (.agg (layRow y)) ∧ Below w.heap.size w w' := by
  have z := zeroN9
  obtain ⟨A, hA⟩ : ∃ A, A = (w.alloc (.cells (layRow y) 49)).alloc (.cells (layRow lay0) 164) := ⟨_, rfl⟩
  have hx : A.heap[w.heap.size]? = some (.cells (layRow y) 49) := by rw [hA]; exact heap_kept (heap_alloc_new _ _) (below_new _ _)
  have HR : Hid (A.heap[w.heap.size + 1]? = some (.cells (layRow lay0) 164)) := by rw [hA]; exact heap_two _ _ _
  have HB : Hid (Below w.heap.size w A) := by rw [hA]; exact below_next (below_new _ _) (below_new _ _)
  have c0 : A.cell? ⟨w.heap.size, 0, none⟩ = some (.int .i64 y.b) := Joins.cell_of_block hx 0
  have c1 : A.cell? ⟨w.heap.size, 1, none⟩ = some (.int .i64 y.l) := Joins.cell_of_block hx 1
  have c2 : A.cell? ⟨w.heap.size, 2, none⟩ = some (.int .i64 y.i) := Joins.cell_of_block hx 2
  have c3 : A.cell? ⟨w.heap.size, 3, none⟩ = some (.int .i64 y.logAt) := Joins.cell_of_block hx 3
  have c4 : A.cell? ⟨w.heap.size, 4, none⟩ = some (.int .i64 y.nodeAt) := Joins.cell_of_block hx 4
  have c5 : A.cell? ⟨w.heap.size, 5, none⟩ = some (.int .i64 y.nodeBlocks) := Joins.cell_of_block hx 5
  have c6 : A.cell? ⟨w.heap.size, 6, none⟩ = some (.int .i64 y.bitsAt) := Joins.cell_of_block hx 6
  have c7 : A.cell? ⟨w.heap.size, 7, none⟩ = some (.int .i64 y.bitsBlocks) := Joins.cell_of_block hx 7
  have c8 : A.cell? ⟨w.heap.size, 8, none⟩ = some (.int .i64 y.dataAt) := Joins.cell_of_block hx 8
  have HA : Hid (A = _) := hA
  clear hA hx
  have HbR : Hid (∀ (E : Operand → Value) (u : World), (Instr.build 164 #[(0, .int .i64 y.b), (1, .int .i64 y.l), (2, .int .i64 y.i), (3, .int .i64 y.logAt), (4, .int .i64 y.nodeAt), (5, .int .i64 y.nodeBlocks), (6, .int .i64 y.bitsAt), (7, .int .i64 y.bitsBlocks), (8, .int .i64 y.dataAt)]).run Tryz.prog u = .ok (.agg (layRow y)) u) := fun _ u => by
    have z1 := zeroN9 u
    unfold layRow lay0 at z1
    unfold layRow
    simp [go_sem, z1]
  go_enter Tryz.func85, Tryz.ntmps85
  go_upto_region 1 with fail
  rw [← HA.out]
  clear HA
  have hbr := HbR.out (fun _ => undef)
  have HOr := HR.out
  clear HbR HR z
  go_wp2_with (first | (with_reducible refine isStoreR 164 ?_; refine wpList_stR 164 rfl (.tmp 2) (.tmp 24) rfl (w.heap.size + 1) (layRow y) (layRow lay0) 164 (n9_info _) (lay_two _ _) (lay_one _) rfl rfl HOr ?_))
  exact retR Tryz.underlying164 rfl rfl (w.heap.size + 1) (layRow y) 164 (n9_info _) rfl (setRow_heap _ _ _ _ _ _ HOr) rfl ⟨rfl, HB.out.trans ((Fr.setRow A (w.heap.size + 1) _).below (fun j q => by omega) HB.out.size)⟩
/-- A layout's numbers in their order. -/
def numL (y : Lay) : Nat → Int
  | 0 => y.b
  | 1 => y.l
  | 2 => y.i
  | 3 => y.logAt
  | 4 => y.nodeAt
  | 5 => y.nodeBlocks
  | 6 => y.bitsAt
  | 7 => y.bitsBlocks
  | 8 => y.dataAt
  | _ => 0
theorem layRow_get (y : Lay) (i : Nat) (h : i < 9) : (layRow y)[i]? = some (.int .i64 (numL y i)) := by
  rcases (show i = 0 ∨ i = 1 ∨ i = 2 ∨ i = 3 ∨ i = 4 ∨ i = 5 ∨ i = 6 ∨ i = 7 ∨ i = 8 by omega) with rfl | rfl | rfl | rfl | rfl | rfl | rfl | rfl | rfl <;> rfl
def magicB : Nat → Int
  | 0 => 99
  | 1 => 114
  | 2 => 111
  | 3 => 102
  | 4 => 116
  | 5 => 102
  | 6 => 115
  | 7 => 49
  | _ => 0
/-- The bytes of a superblock. -/
def supP (y : Lay) : Nat → Int := fun j => if j < 8 then magicB j else if j < 44 then numL y ((j - 8) / 4) / 256 ^ ((j - 8) % 4) % 256 else 0
def supK (y : Lay) (m : Nat) : Nat → Int := fun j => if j < m then supP y j else 0
theorem supK_zero (y : Lay) : supK y 0 = nought := by funext j; unfold supK; rw [if_neg (by omega)]; rfl
theorem supK_step (y : Lay) (m : Nat) : updN (supK y m) m (supP y m) = supK y (m + 1) := by
  funext j
  unfold updN supK
  by_cases e : j = m
  · rw [if_pos e, if_pos (by omega), e]
  · rw [if_neg e]
    by_cases h : j < m
    · rw [if_pos h, if_pos (by omega)]
    · rw [if_neg h, if_neg (by omega)]
theorem supK_end (y : Lay) : supK y 44 = supP y := by
  funext j
  unfold supK
  split
  · rfl
  · unfold supP
    rw [if_neg (by omega), if_neg (by omega)]
theorem supP_num (y : Lay) (i k : Nat) (hi : i < 9) (hk : k < 4) : supP y (8 + 4 * i + k) = numL y i / 256 ^ k % 256 := by
  unfold supP
  rw [if_neg (by omega), if_pos (by omega), show (8 + 4 * i + k - 8) / 4 = i by omega, show (8 + 4 * i + k - 8) % 4 = k by omega]
theorem supP_mag (y : Lay) (i : Nat) (hi : i < 8) : supP y i = magicB i := by unfold supP; rw [if_pos hi]
structure EnS (w W : World) (y : Lay) (gb : Nat) (m : Nat) : Prop where
  lay : W.heap[w.heap.size]? = some (.cells (layRow y) 49)
  res : W.heap[w.heap.size + 1]? = some (.cells (blk nought) 76)
  row : W.heap[gb]? = some (.cells (blk (supK y m)) 76)
  far : w.heap.size + 1 < gb
  bel : Below w.heap.size w W
theorem EnS.call {w W W' : World} {y : Lay} {gb m : Nat} (h : EnS w W y gb m) (hb : Below W.heap.size W W') : EnS w W' y gb m := ⟨heap_kept h.lay hb, heap_kept h.res hb, heap_kept h.row hb, h.far, below_next h.bel hb⟩
theorem EnS.step {w W : World} {y : Lay} {gb m : Nat} (h : EnS w W y gb m) : EnS w (W.setCell ⟨gb, m, none⟩ (.int .u8 (supP y m))) y gb (m + 1) := by
  have hF := Fr.setCell W gb m (.int .u8 (supP y m))
  refine ⟨(hF.block _ (Array.getElem?_eq_some_iff.1 h.lay).1 (by have := h.far; omega)).trans h.lay, (hF.block _ (Array.getElem?_eq_some_iff.1 h.res).1 (by have := h.far; omega)).trans h.res, ?_, h.far, h.bel.trans (hF.below (fun j q => by have := h.far; omega) h.bel.size)⟩
  have := setCell_rowN (m := 1024) h.row m (supP y m)
  rwa [supK_step] at this
structure EnN (w W : World) (y : Lay) (gb gn : Nat) (m : Nat) : Prop where
  en : EnS w W y gb m
  num : W.heap[gn]? = some (.cells (layRow y) 164)
  ne : gb < gn
theorem EnN.step {w W : World} {y : Lay} {gb gn m : Nat} (h : EnN w W y gb gn m) : EnN w (W.setCell ⟨gb, m, none⟩ (.int .u8 (supP y m))) y gb gn (m + 1) :=
  ⟨h.en.step, ((Fr.setCell W gb m (.int .u8 (supP y m))).block _ (Array.getElem?_eq_some_iff.1 h.num).1 (by have := h.ne; omega)).trans h.num, h.ne⟩
set_option maxRecDepth 20000 in
set_option maxHeartbeats 4000000 in
theorem enc03_ok {b l i : Nat} (h : GeoOk b l i) (w : World) :
    Calls Tryz.prog 43 #[.agg (layRow (layOf b l i))] w fun e w' => e = .returned (.tuple #[.agg (blk (supP (layOf b l i))), .int .i64 0]) ∧ Below w.heap.size w w' := by
  have z := zero77
  have z9 := zeroN9
  obtain ⟨y, hy⟩ : ∃ y, layOf b l i = y := ⟨_, rfl⟩
  have hbd : ∀ j, 0 ≤ numL y j ∧ numL y j ≤ 9223372036854775807 := fun j => by
    rw [← hy]
    obtain ⟨h1, h2, h3, h4, h5, h6, h7⟩ := h
    match j with
    | 0 => show 0 ≤ (b : Int) ∧ (b : Int) ≤ _; omega
    | 1 => show 0 ≤ (l : Int) ∧ (l : Int) ≤ _; omega
    | 2 => show 0 ≤ (i : Int) ∧ (i : Int) ≤ _; omega
    | 3 => show 0 ≤ (1 : Int) ∧ (1 : Int) ≤ _; omega
    | 4 => show 0 ≤ ((1 + l : Nat) : Int) ∧ ((1 + l : Nat) : Int) ≤ _; omega
    | 5 => show 0 ≤ (((i + 16) / 16 : Nat) : Int) ∧ (((i + 16) / 16 : Nat) : Int) ≤ _; omega
    | 6 => show 0 ≤ ((1 + l + (i + 16) / 16 : Nat) : Int) ∧ ((1 + l + (i + 16) / 16 : Nat) : Int) ≤ _; omega
    | 7 => show 0 ≤ (((b + 8191) / 8192 : Nat) : Int) ∧ (((b + 8191) / 8192 : Nat) : Int) ≤ _; omega
    | 8 => show 0 ≤ ((1 + l + (i + 16) / 16 + (b + 8191) / 8192 : Nat) : Int) ∧ ((1 + l + (i + 16) / 16 + (b + 8191) / 8192 : Nat) : Int) ≤ _; omega
    | _ + 9 => show 0 ≤ (0 : Int) ∧ (0 : Int) ≤ _; omega
  have HBd : Hid _ := hbd
  obtain ⟨A, hA⟩ : ∃ A, A = (w.alloc (.cells (layRow y) 49)).alloc (.cells (blk nought) 76) := ⟨_, rfl⟩
  have HX : Hid (A.heap[w.heap.size]? = some (.cells (layRow y) 49)) := by rw [hA]; exact heap_kept (heap_alloc_new _ _) (below_new _ _)
  have HR : Hid (A.heap[w.heap.size + 1]? = some (.cells (blk nought) 76)) := by rw [hA]; exact heap_two _ _ _
  have HB : Hid (Below w.heap.size w A) := by rw [hA]; exact below_next (below_new _ _) (below_new _ _)
  have HsA : Hid (A.heap.size = w.heap.size + 2) := by rw [hA]; show _ = _; simp
  have hfit := fits03_ok h A
  rw [hy] at hfit ⊢
  have HA : Hid (A = _) := hA
  clear hA h hy hbd
  go_enter Tryz.func43, Tryz.ntmps43
  go_upto_region 1 with fail
  rw [← HA.out]
  clear HA
  go_wp2_with (first | (with_reducible refine isLoadR 49 ?_; refine wpList_ldR 49 Tryz.underlying49 rfl rfl (.tmp 1) rfl w.heap.size rfl (layRow y) 49 (0, 0) (lay_info _) HX.out ?_) | (go_at_call 84; fail))
  refine hfit.mono ?_
  rintro e W1 ⟨rfl, hb⟩
  have HE0 : Hid (EnS w (W1.alloc (.cells (blk nought) 76)) y W1.heap.size 0) := by
    have hs := hb.size
    have hs2 := HsA.out
    refine ⟨heap_kept (heap_kept HX.out hb) (below_new _ _), heap_kept (heap_kept HR.out hb) (below_new _ _), ?_, by omega, below_next (below_next HB.out hb) (below_new _ _)⟩
    rw [supK_zero]
    exact heap_alloc_new _ _
  clear hfit hb HX HR HB HsA
  go_wp2
  generalize W1.alloc (.cells (blk nought) 76) = V at *
  generalize W1.heap.size = gb at *
  go_loopw [7] (fun s7 wx => ∃ j : Nat, j ≤ 8 ∧ s7 = .int .i64 j ∧ Hid (EnS w wx y gb j)) (fun s7 _ => 8 - (intOf s7).toNat)
  case atStart => exact ⟨0, by omega, rfl, HE0.out⟩
  case round =>
    clear HE0
    obtain ⟨j, hj, rfl, HE⟩ := hrel
    by_cases hj2 : (j : Int) < 8
    · have cb := cell_rowN (i := j) (m := 1024) HE.out.row (by omega)
      have fb := frozen_row HE.out.row j
      have HE2 : Hid _ := HE.out.step
      rw [supP_mag y j (by omega)] at HE2
      have hr : ∀ u : World, (Instr.index 9 (.string ⟨#[99, 114, 111, 102, 116, 102, 115, 49]⟩) (.int .i64 (j : Int))).run Tryz.prog u = .ok (.int .u8 (magicB j)) u := fun u => by
        rw [run_index_string (P := Tryz.prog) u 9 _ .i64 (j : Int) Tryz.underlying9]
        split
        · rcases (show j = 0 ∨ j = 1 ∨ j = 2 ∨ j = 3 ∨ j = 4 ∨ j = 5 ∨ j = 6 ∨ j = 7 by omega) with rfl | rfl | rfl | rfl | rfl | rfl | rfl | rfl <;> rfl
        · rename_i hn
          exact absurd ⟨by omega, hj2⟩ hn
      generalize supK y j j = old at *
      generalize magicB j = mb at *
      have hj3 : j < 1024 := by omega
      clear HE
      go_wp2
      exact ⟨⟨j + 1, by omega, by go_num, HE2.out⟩, by simp [intOf]; omega⟩
    · obtain rfl : j = 8 := by omega
      have hnum := numbers03_any y wr
      go_wp2_with (first | (with_reducible refine isLoadR 49 ?_; refine wpList_ldR 49 Tryz.underlying49 rfl rfl (.tmp 1) rfl w.heap.size rfl (layRow y) 49 (0, 0) (lay_info _) HE.out.lay ?_) | (go_at_call 85; fail))
      refine hnum.mono ?_
      rintro e W2 ⟨rfl, hb⟩
      have hgb : gb < wr.heap.size := (Array.getElem?_eq_some_iff.1 HE.out.row).1
      have HN0 : Hid (EnN w (W2.alloc (.cells (layRow y) 164)) y gb W2.heap.size (8 + 4 * 0 + 0)) := ⟨(HE.out.call hb).call (below_new _ _), heap_alloc_new _ _, by have := hb.size; omega⟩
      clear hnum hb HE hgb
      go_wp2_with (first | (with_reducible refine isStoreR 164 ?_; refine wpList_stNew 164 rfl (.tmp 8) (.tmp 29) rfl W2.heap.size (layRow y) (layRow lay0) 164 (n9_info _) (lay_two _ _) (lay_one _) rfl rfl rfl ?_))
      generalize W2.alloc (.cells (layRow y) 164) = V2 at *
      generalize W2.heap.size = gn at *
      go_loopw [9, 10, 11] (fun s9 _ _ wx => ∃ i : Nat, i ≤ 9 ∧ s9 = .int .i64 i ∧ Hid (EnN w wx y gb gn (8 + 4 * i + 0))) (fun s9 _ _ _ => 9 - (intOf s9).toNat)
      case atStart => exact ⟨0, by omega, rfl, HN0.out⟩
      case round =>
        clear HN0
        obtain ⟨i, hi, rfl, HN⟩ := hrel
        by_cases hi2 : (i : Int) < 9
        · have cn : wr.cell? ⟨gn, i, none⟩ = some (.int .i64 (numL y i)) := (cell_of_row _ _ i _ _ _ HN.out.num).trans (layRow_get y i (by omega))
          have hi9 : i < 9 := by omega
          have HBi : Hid (0 ≤ numL y i) := (HBd.out i).1
          have HBj : Hid (numL y i ≤ 9223372036854775807) := (HBd.out i).2
          have HSp : Hid (∀ k, k < 4 → supP y (8 + 4 * i + k) = numL y i / 256 ^ k % 256) := fun k hk => supP_num y i k hi9 hk
          generalize hv : numL y i = v at *
          go_wp2
          go_loopw [10, 11] (fun s10 s11 wx => ∃ k : Nat, k ≤ 4 ∧ s11 = .int .i64 k ∧ s10 = .int .i64 (v / 256 ^ k) ∧ Hid (EnN w wx y gb gn (8 + 4 * i + k))) (fun _ s11 _ => 4 - (intOf s11).toNat)
          case atStart => exact ⟨0, by omega, rfl, by simp, HN.out⟩
          case round =>
            clear HN cn
            obtain ⟨k, hk, rfl, rfl, HN⟩ := hrel
            by_cases hk2 : (k : Int) < 4
            · have hk4 : k < 4 := by omega
              have hv0 : 0 ≤ v / 256 ^ k := Int.ediv_nonneg HBi.out (Int.le_of_lt (Int.pow_pos (by decide)))
              have HV : Hid (v / 256 ^ k / 256 = v / 256 ^ (k + 1)) := by
                show _ = _
                rw [Int.ediv_ediv_of_nonneg (Int.le_of_lt (Int.pow_pos (by decide))), Int.pow_succ]
              have HSk : Hid (supP y (8 + 4 * i + k) = v / 256 ^ k % 256) := HSp.out k hk4
              have cb := cell_rowN (i := 8 + 4 * i + k) (m := 1024) HN.out.en.row (by omega)
              have fb := frozen_row HN.out.en.row (8 + 4 * i + k)
              have HN2 : Hid (EnN w (wr.setCell ⟨gb, 8 + 4 * i + k, none⟩ (.int .u8 (supP y (8 + 4 * i + k)))) y gb gn (8 + 4 * i + (k + 1))) := HN.out.step
              rw [HSk.out] at HN2
              have HQ : Hid (v / 256 ^ k ≤ 9223372036854775807) := Int.le_trans (Int.ediv_le_self _ HBi.out) HBj.out
              generalize hq : v / 256 ^ k = q at *
              have e1 : q.tmod 256 = q % 256 := Int.tmod_eq_emod_of_nonneg hv0
              have e2 : IntKind.i64.wrap (q % 256) = q % 256 := by rw [IntKind.wrap_i64]; omega
              have e3 : IntKind.u8.wrap (q % 256) = q % 256 := by rw [IntKind.wrap_u8]; omega
              have e4 : q.tdiv 256 = q / 256 := Int.tdiv_eq_ediv_of_nonneg hv0
              have hqb : q ≤ 9223372036854775807 := HQ.out
              have e8 : IntKind.i64.wrap (q / 256) = q / 256 := by rw [IntKind.wrap_i64]; omega
              have e5 : IntKind.i64.wrap (4 * (i : Int)) = 4 * (i : Int) := by rw [IntKind.wrap_i64]; omega
              have e6 : IntKind.i64.wrap (8 + 4 * (i : Int)) = 8 + 4 * (i : Int) := by rw [IntKind.wrap_i64]; omega
              have e7 : IntKind.i64.wrap (8 + 4 * (i : Int) + (k : Int)) = ((8 + 4 * i + k : Nat) : Int) := by rw [IntKind.wrap_i64]; omega
              have e7' : 8 + 4 * (i : Int) + (k : Int) = ((8 + 4 * i + k : Nat) : Int) := by omega
              have hm : 8 + 4 * i + k < 1024 := by omega
              have HNe : Hid (8 + 4 * i + (k + 1) = 8 + 4 * i + k + 1) := by show _ = _; omega
              rw [HNe.out] at HN2
              clear HN HSk HSp
              generalize hmm : 8 + 4 * i + k = m at *
              generalize supK y m m = old at *
              go_wp2
              exact ⟨⟨k + 1, by omega, by go_num, by rw [HV.out], by rw [HNe.out]; exact HN2.out⟩, by simp [intOf]; omega⟩
            · obtain rfl : k = 4 := by omega
              have HN2 : Hid (EnN w wr y gb gn (8 + 4 * (i + 1) + 0)) := by
                have := HN.out
                rwa [show 8 + 4 * i + 4 = 8 + 4 * (i + 1) + 0 by omega] at this
              clear HN HSp
              generalize v / 256 ^ 4 = q at *
              go_wp2
              exact ⟨⟨i + 1, by omega, by go_num, HN2.out⟩, by simp [intOf]; omega⟩
        · obtain rfl : i = 9 := by omega
          have hrow := HN.out.en.row
          rw [show 8 + 4 * 9 + 0 = 44 from rfl, supK_end] at hrow
          have hres := HN.out.en.res
          have HBe : Hid _ := HN.out.en.bel
          have hx0 := blk_at hrow
          clear HN
          go_wp2_with (first | (with_reducible refine isLoadR 76 ?_; refine wpList_ldB rfl (.tmp 5) rfl gb 0 (supP y) rfl hx0 ?_) | (with_reducible refine isStoreR 76 ?_; refine wpList_stB rfl (.tmp 2) (.tmp 52) rfl (w.heap.size + 1) (supP y) nought 76 rfl rfl hres ?_))
          exact retCT Tryz.underlying76 rfl rfl (w.heap.size + 1) (blk (supP y)) 76 (by rw [blk_size]; exact size77) rfl (setRow_heap _ _ _ _ _ _ hres) rfl ⟨rfl, HBe.out.trans ((Fr.setRow wr (w.heap.size + 1) _).below (fun j q => by omega) HBe.out.size)⟩
end Go.Proofs.YtkcgbhagjkhcmaaGreat
/- A superblock, read; the document's own words. -/
namespace Go.Proofs.YtkcgbhagjkhcmaaGreat
open Go.RowKit Go.Maps
theorem zero3i : ∀ w, (zeroValue 232).run Tryz.prog w = .ok (.agg (rowN .i64 nought 3)) w := (zero_of_info (show (Tryz.prog.info? 232).map (fun i => (i.zero, i.size)) = some (some (.agg (rowN .i64 nought 3)), 3) by kernel_rfl)).1
structure DeS (w W : World) (y : Lay) (f : Nat → Int) : Prop where
  blk : W.heap[w.heap.size]? = some (.cells (blk (supP y)) 76)
  res : W.heap[w.heap.size + 1]? = some (.cells (layRow lay0) 49)
  row : W.heap[w.heap.size + 2]? = some (.cells (rowN .i64 f 3) 232)
  bel : Below w.heap.size w W
theorem DeS.call {w W W' : World} {y : Lay} {f : Nat → Int} (h : DeS w W y f) (hb : Below W.heap.size W W') : DeS w W' y f := ⟨heap_kept h.blk hb, heap_kept h.res hb, heap_kept h.row hb, below_next h.bel hb⟩
theorem DeS.set {w W : World} {y : Lay} {f : Nat → Int} (h : DeS w W y f) (i : Nat) (x : Int) : DeS w (W.setCell ⟨w.heap.size + 2, i, none⟩ (.int .i64 x)) y (updN f i x) := by
  have hF := Fr.setCell W (w.heap.size + 2) i (.int .i64 x)
  exact ⟨(hF.block _ (Array.getElem?_eq_some_iff.1 h.blk).1 (by omega)).trans h.blk, (hF.block _ (Array.getElem?_eq_some_iff.1 h.res).1 (by omega)).trans h.res, setCell_rowN h.row i x, h.bel.trans (hF.below (fun j q => by omega) h.bel.size)⟩
theorem four_step {v : Int} (m : Nat) : 256 * (v / 256 ^ (m + 1)) + v / 256 ^ m % 256 = v / 256 ^ m := by
  have : v / 256 ^ (m + 1) = v / 256 ^ m / 256 := by rw [Int.ediv_ediv_of_nonneg (Int.le_of_lt (Int.pow_pos (by decide))), Int.pow_succ]
  rw [this]
  omega
theorem exec_st3 {o : Oper} {a : Act} {W : World} {x y : Operand} {g i : Nat} {v : Int} {old : Value} (ho : o.op = .store 3 x y) (hx : a.eval x = .pointer (some ⟨g, i, none⟩)) (hy : a.eval y = .int .i64 v) (hc : W.cell? ⟨g, i, none⟩ = some old) (hf : W.frozen? ⟨g, i, none⟩ = false) : (execOp a.eval o).run Tryz.prog W = .ok .skip (W.setCell ⟨g, i, none⟩ (.int .i64 v)) := by
  obtain ⟨i0, hi0, hz1⟩ : ∃ i0, Tryz.prog.info? 3 = some i0 ∧ i0.size = 1 := by
    have h : (Tryz.prog.info? 3).map (·.size) = some 1 := by kernel_rfl
    cases hq : Tryz.prog.info? 3 with
    | none => rw [hq] at h; cases h
    | some i => rw [hq] at h; exact ⟨i, rfl, by simpa using h⟩
  generalize a.eval = E at *
  unfold execOp
  simp only [ho]
  simp [hx, hy, Instr.storeAt, Instr.sureAddr, storeVar, sizeOf, typeInfo, hi0, hz1, storeCells, go_sem, hc, hf]
set_option maxRecDepth 20000 in
set_option maxHeartbeats 4000000 in
theorem dec03_ok {b l i : Nat} (h : GeoOk b l i) (n : Int) (hn : (b : Int) ≤ n) (w : World) :
    Calls Tryz.prog 112 #[.agg (blk (supP (layOf b l i))), .int .i64 n] w fun e w' => e = .returned (.tuple #[.agg (layRow (layOf b l i)), .int .i64 0]) ∧ Below w.heap.size w w' := by
  have z := zeroLay
  have z3 := zero3i
  have z76 := zero77
  obtain ⟨y, hy⟩ : ∃ y, layOf b l i = y := ⟨_, rfl⟩
  have HBd : Hid (∀ j, j < 3 → 0 ≤ numL y j ∧ numL y j < 4294967296) := fun j hj => by
    rw [← hy]
    obtain ⟨h1, h2, h3, h4, h5, h6, h7⟩ := h
    rcases (show j = 0 ∨ j = 1 ∨ j = 2 by omega) with rfl | rfl | rfl
    · show 0 ≤ (b : Int) ∧ (b : Int) < _; omega
    · show 0 ≤ (l : Int) ∧ (l : Int) < _; omega
    · show 0 ≤ (i : Int) ∧ (i : Int) < _; omega
  have HNm : Hid (numL y 0 = b ∧ numL y 1 = l ∧ numL y 2 = i) := by rw [← hy]; exact ⟨rfl, rfl, rfl⟩
  obtain ⟨A, hA⟩ : ∃ A, A = ((w.alloc (.cells (blk (supP y)) 76)).alloc (.cells (layRow lay0) 49)).alloc (.cells (rowN .i64 nought 3) 232) := ⟨_, rfl⟩
  have HD : Hid (DeS w A y nought) := by
    rw [hA]
    refine ⟨heap_kept (heap_kept (heap_alloc_new _ _) (below_new _ _)) (below_new _ _), heap_kept (heap_two _ _ _) (below_new _ _), ?_, below_next (below_next (below_new _ _) (below_new _ _)) (below_new _ _)⟩
    have := heap_alloc_new ((w.alloc (.cells (blk (supP y)) 76)).alloc (.cells (layRow lay0) 49)) (.cells (rowN .i64 nought 3) 232)
    simpa using this
  have HG : Hid (GeoOk b l i) := h
  have HY : Hid (layOf b l i = y) := hy
  rw [hy]
  have HA : Hid (A = _) := hA
  clear hA h hy
  go_enter Tryz.func112, Tryz.ntmps112
  go_wp2
  rw [← HA.out]
  clear HA
  go_loopw [7, 8] (fun s7 _ wx => ∃ (j : Nat) (f : Nat → Int), j ≤ 3 ∧ s7 = .int .i64 j ∧ Hid ((∀ q, q < j → f q = numL y q) ∧ ∀ q, j ≤ q → f q = 0) ∧ Hid (DeS w wx y f)) (fun s7 _ _ => 3 - (intOf s7).toNat)
  case atStart => exact ⟨0, nought, by omega, rfl, ⟨fun q hq => absurd hq (by omega), fun _ _ => rfl⟩, HD.out⟩
  case round =>
    clear HD
    obtain ⟨j, f, hj, rfl, HF, HD⟩ := hrel
    by_cases hj2 : (j : Int) < 3
    · have hj3 : j < 3 := by omega
      have hbd := HBd.out j hj3
      have HSp : Hid (∀ k, k < 4 → supP y (8 + 4 * j + k) = numL y j / 256 ^ k % 256) := fun k hk => supP_num y j k (by omega) hk
      have HF0 : Hid (f j = numL y j / 256 ^ 4) := by show _ = _; rw [HF.out.2 j (Nat.le_refl _)]; omega
      generalize hv : numL y j = v at *
      go_wp2
      go_loopw [8] (fun s8 wx => ∃ (m : Nat) (f' : Nat → Int), m ≤ 4 ∧ s8 = .int .i64 ((m : Int) - 1) ∧ Hid (f' j = v / 256 ^ m ∧ ∀ q, ¬ q = j → f' q = f q) ∧ Hid (DeS w wx y f')) (fun s8 _ => (intOf s8 + 1).toNat)
      case atStart => exact ⟨4, f, by omega, rfl, ⟨HF0.out, fun _ _ => rfl⟩, HD.out⟩
      case round =>
        clear HD HF0
        obtain ⟨m, f', hm, rfl, HF', HD⟩ := hrel
        by_cases hm0 : m = 0
        · subst hm0
          have HFj : Hid ((∀ q, q < j + 1 → f' q = numL y q) ∧ ∀ q, j + 1 ≤ q → f' q = 0) := by
            refine ⟨fun q hq => ?_, fun q hq => ?_⟩
            · by_cases e : q = j
              · rw [e, HF'.out.1, hv]; simp
              · rw [HF'.out.2 q e]; exact HF.out.1 q (by omega)
            · rw [HF'.out.2 q (by omega)]; exact HF.out.2 q (by omega)
          clear HF' HF
          go_wp2
          exact ⟨⟨j + 1, f', by omega, by go_num, HFj.out, HD.out⟩, by simp [intOf]; omega⟩
        · obtain ⟨k, rfl⟩ : ∃ k, m = k + 1 := ⟨m - 1, by omega⟩
          have hk : (((k + 1 : Nat) : Int) - 1) = (k : Int) := by omega
          have hfj := HF'.out.1
          have hbs : supP y (8 + 4 * j + k) = v / 256 ^ k % 256 := HSp.out k (by omega)
          have hst := four_step (v := v) k
          have hbb : v / 256 ^ (k + 1) ≤ v := Int.ediv_le_self _ hbd.1
          have hbc : v / 256 ^ k ≤ v := Int.ediv_le_self _ hbd.1
          have hb0 : 0 ≤ v / 256 ^ (k + 1) := Int.ediv_nonneg hbd.1 (Int.le_of_lt (Int.pow_pos (by decide)))
          have hc0 : 0 ≤ v / 256 ^ k := Int.ediv_nonneg hbd.1 (Int.le_of_lt (Int.pow_pos (by decide)))
          have cb := cell_rowN (i := 8 + 4 * j + k) (m := 1024) HD.out.blk (by omega)
          rw [hbs] at cb
          have cj := cell_rowN (i := j) HD.out.row hj3
          rw [hfj] at cj
          have fj := frozen_row HD.out.row j
          have HDd : Hid (DeS w wr.drew y f') := HD.out.call (Below.refl _ _).drew
          have HD2 : Hid (DeS w (wr.drew.setCell ⟨w.heap.size + 2, j, none⟩ (.int .i64 (v / 256 ^ k))) y (updN f' j (v / 256 ^ k))) := HDd.out.set j _
          have HFn : Hid (updN f' j (v / 256 ^ k) j = v / 256 ^ k ∧ ∀ q, ¬ q = j → updN f' j (v / 256 ^ k) q = f q) := ⟨by simp [updN], fun q hq => by unfold updN; rw [if_neg hq]; exact HF'.out.2 q hq⟩
          rw [hk]
          generalize v / 256 ^ (k + 1) = p at *
          generalize hr : v / 256 ^ k = r at *
          have HRv : Hid (v / 256 ^ k = r) := hr
          clear hr
          have e1 : IntKind.i64.wrap (256 * p) = 256 * p := by rw [IntKind.wrap_i64]; omega
          have e2 : IntKind.i64.wrap (r % 256) = r % 256 := by rw [IntKind.wrap_i64]; omega
          have e3 : IntKind.i64.wrap (256 * p + r % 256) = r := by rw [hst, IntKind.wrap_i64]; omega
          have e5 : IntKind.i64.wrap (4 * (j : Int)) = 4 * (j : Int) := by rw [IntKind.wrap_i64]; omega
          have e6 : IntKind.i64.wrap (8 + 4 * (j : Int)) = 8 + 4 * (j : Int) := by rw [IntKind.wrap_i64]; omega
          have e7 : IntKind.i64.wrap (8 + 4 * (j : Int) + (k : Int)) = ((8 + 4 * j + k : Nat) : Int) := by rw [IntKind.wrap_i64]; omega
          have e7' : 8 + 4 * (j : Int) + (k : Int) = ((8 + 4 * j + k : Nat) : Int) := by omega
          have hml : 8 + 4 * j + k < 1024 := by omega
          have HSb : Hid ((wr.drew.setCell ⟨w.heap.size + 2, j, none⟩ (.int .i64 r)).cell? ⟨w.heap.size, 8 + 4 * j + k, none⟩ = some (.int .u8 (r % 256))) := by
            have := cell_rowN (i := 8 + 4 * j + k) (m := 1024) HD2.out.blk (by omega)
            rwa [hbs] at this
          clear hbs hfj HF' HD HDd hbb hk
          generalize hmm : 8 + 4 * j + k = mm at *
          have e8 : IntKind.i64.wrap (mm : Int) = (mm : Int) := by rw [IntKind.wrap_i64]; omega
          have hmI : (mm : Int) < 1024 := by omega
          have e9 : IntKind.i64.wrap r = r := by rw [IntKind.wrap_i64]; omega
          go_upto_region 8 with fail
          refine wp_region_ord (S := fun u => u.cell? ⟨w.heap.size, mm, none⟩ = some (.int .u8 (r % 256))) [(0, true), (1, true), (2, true), (5, true), (6, true), (7, true), (8, true), (9, true), (10, true), (11, true), (12, true), (3, false), (4, true), (13, true), (14, true), (15, false)] (by kernel_rfl) rfl (by kernel_rfl) (fun d _ _ _ _ h => by cases d <;> exact h) cb ?_
          have cjd : wr.drew.cell? ⟨w.heap.size + 2, j, none⟩ = some (.int .i64 p) := cj
          have fjd : wr.drew.frozen? ⟨w.heap.size + 2, j, none⟩ = false := fj
          simp only [inOrd, List.getElem?_cons_zero, List.getElem?_cons_succ]
          refine wpOrd_yield (v := .int .i64 (j : Int)) rfl (fun u _ => exec_mv rfl rfl) ?_
          simp only [Act.put, List.setIfInBounds_toArray, List.set_cons_succ, List.set_cons_zero]
          refine wpOrd_yield (v := .int .i64 (j : Int)) rfl (fun u _ => exec_mv rfl rfl) ?_
          simp only [Act.put, List.setIfInBounds_toArray, List.set_cons_succ, List.set_cons_zero]
          refine wpOrd_yield (v := .pointer (some ⟨w.heap.size + 2, j, none⟩)) rfl (fun u _ => by go_simp) ?_
          simp only [Act.put, List.setIfInBounds_toArray, List.set_cons_succ, List.set_cons_zero]
          refine wpOrd_yield (v := .int .i64 (j : Int)) rfl (fun u _ => exec_mv rfl rfl) ?_
          simp only [Act.put, List.setIfInBounds_toArray, List.set_cons_succ, List.set_cons_zero]
          refine wpOrd_yield (v := .int .i64 (4 * (j : Int))) rfl (fun u _ => by go_simp) ?_
          simp only [Act.put, List.setIfInBounds_toArray, List.set_cons_succ, List.set_cons_zero]
          refine wpOrd_yield (v := .int .i64 (8 + 4 * (j : Int))) rfl (fun u _ => by go_simp) ?_
          simp only [Act.put, List.setIfInBounds_toArray, List.set_cons_succ, List.set_cons_zero]
          refine wpOrd_yield (v := .int .i64 (k : Int)) rfl (fun u _ => exec_mv rfl rfl) ?_
          simp only [Act.put, List.setIfInBounds_toArray, List.set_cons_succ, List.set_cons_zero]
          refine wpOrd_yield (v := .int .i64 (mm : Int)) rfl (fun u _ => by go_simp) ?_
          simp only [Act.put, List.setIfInBounds_toArray, List.set_cons_succ, List.set_cons_zero]
          refine wpOrd_yield (v := .pointer (some ⟨w.heap.size, mm, none⟩)) rfl (fun u _ => by go_simp) ?_
          simp only [Act.put, List.setIfInBounds_toArray, List.set_cons_succ, List.set_cons_zero]
          refine wpOrd_yield (v := .int .u8 (r % 256)) rfl (fun u hu => by have := hu; go_simp) ?_
          simp only [Act.put, List.setIfInBounds_toArray, List.set_cons_succ, List.set_cons_zero]
          refine wpOrd_yield (v := .int .i64 (r % 256)) rfl (fun u _ => by go_simp) ?_
          simp only [Act.put, List.setIfInBounds_toArray, List.set_cons_succ, List.set_cons_zero]
          refine wpOrd_act (W' := wr.drew) (v := .int .i64 p) rfl (by go_simp) cb ?_
          simp only [Act.put, List.setIfInBounds_toArray, List.set_cons_succ, List.set_cons_zero]
          refine wpOrd_yield (v := .int .i64 (256 * p)) rfl (fun u _ => by go_simp) ?_
          simp only [Act.put, List.setIfInBounds_toArray, List.set_cons_succ, List.set_cons_zero]
          refine wpOrd_yield (v := .int .i64 r) rfl (fun u _ => by go_simp) ?_
          simp only [Act.put, List.setIfInBounds_toArray, List.set_cons_succ, List.set_cons_zero]
          refine wpOrd_yield (v := .pointer (some ⟨w.heap.size + 2, j, none⟩)) rfl (fun u _ => by go_simp) ?_
          simp only [Act.put, List.setIfInBounds_toArray, List.set_cons_succ, List.set_cons_zero]
          refine wpOrd_do rfl (exec_st3 rfl rfl rfl cjd fjd) HSb.out ?_
          simp only [Act.put]
          refine wpOrd_nil ?_
          clear cj fj cjd fjd cb e1 e2 e3 e5 e6 e7 e7' e8 e9 hst
          generalize wr.drew.setCell ⟨w.heap.size + 2, j, none⟩ (.int .i64 r) = X at *
          go_wp2
          exact ⟨⟨k, _, by omega, by go_num, by rw [HRv.out]; exact HFn.out, HD2.out⟩, by simp [intOf]⟩
    · obtain rfl : j = 3 := by omega
      obtain ⟨n0, n1, n2⟩ := HNm.out
      have q0 := cell_rowN (i := 0) HD.out.row (by omega)
      have q1 := cell_rowN (i := 1) HD.out.row (by omega)
      have q2 := cell_rowN (i := 2) HD.out.row (by omega)
      rw [HF.out.1 0 (by omega), n0] at q0
      rw [HF.out.1 1 (by omega), n1] at q1
      rw [HF.out.1 2 (by omega), n2] at q2
      have hof := of03_ok HG.out wr
      rw [HY.out] at hof
      unfold geoRow at hof
      have HF0 : Hid (f 0 = (b : Int)) := by show _ = _; rw [HF.out.1 0 (by omega), n0]
      clear n0 n1 n2 HF
      go_wp2_with (first | (go_at_call 17; fail))
      refine hof.mono ?_
      rintro e W1 ⟨rfl, hb⟩
      have HD1 : Hid (DeS w (W1.alloc (.cells (layRow y) 49)) y f) := (HD.out.call hb).call (below_new _ _)
      have HY1 : Hid ((W1.alloc (.cells (layRow y) 49)).heap[W1.heap.size]? = some (.cells (layRow y) 49)) := heap_alloc_new _ _
      clear hof hb HD
      have henc := enc03_ok HG.out (W1.alloc (.cells (layRow y) 49))
      rw [HY.out] at henc
      clear q1 q2
      go_upto_region 10 with (first | (with_reducible refine isStoreR 49 ?_; refine wpList_stNew 49 rfl (.tmp 9) (.tmp 45) rfl W1.heap.size (layRow y) (layRow lay0) 49 (lay_info _) (lay_two _ _) (lay_one _) rfl rfl rfl ?_))
      generalize W1.alloc (.cells (layRow y) 49) = X1 at *
      generalize W1.heap.size = gy at *
      go_wp2_with (first | (with_reducible refine isLoadR 49 ?_; refine wpList_ldR 49 Tryz.underlying49 rfl rfl (.tmp 9) rfl gy rfl (layRow y) 49 (0, 0) (lay_info _) HY1.out ?_) | (go_at_call 43; fail))
      refine henc.mono ?_
      rintro e W2 ⟨rfl, hb⟩
      have HD2 : Hid (DeS w (W2.alloc (.cells (blk (supP y)) 76)) y f) := (HD1.out.call hb).call (below_new _ _)
      have HY2 : Hid _ := heap_kept (heap_kept HY1.out hb) (below_new W2 (.cells (blk (supP y)) 76))
      have HB2 : Hid ((W2.alloc (.cells (blk (supP y)) 76)).heap[W2.heap.size]? = some (.cells (blk (supP y)) 76)) := heap_alloc_new _ _
      clear henc hb HD1 HY1 q0
      go_upto_region 11 with (first | (with_reducible refine isStoreR 76 ?_; refine wpList_stBn rfl (.tmp 11) (.tmp 50) rfl W2.heap.size (supP y) nought 76 rfl rfl rfl ?_))
      generalize W2.alloc (.cells (blk (supP y)) 76) = X2 at *
      generalize W2.heap.size = gc at *
      have q0 := cell_rowN (i := 0) HD2.out.row (by omega)
      rw [HF0.out] at q0
      have hc0 := blk_at HB2.out
      have hb0 := blk_at HD2.out.blk
      have g1 : decide (n < (b : Int)) = false := decide_eq_false (by omega)
      have hsame := sameN_self 1024 (supP y)
      have HOr := HD2.out.res
      have HBe : Hid _ := HD2.out.bel
      clear HD2 HB2
      generalize supP y = fs at *
      go_wp2_with (first | (with_reducible refine isLoadR 76 ?_; refine wpList_ldB rfl (.tmp 11) rfl gc 0 fs rfl hc0 ?_) | (with_reducible refine isLoadR 76 ?_; refine wpList_ldB rfl (.tmp 2) rfl w.heap.size 0 fs rfl hb0 ?_) | (with_reducible refine isEqR 76 76 ?_; refine wpList_neN Tryz.underlying76 eg77 rfl (.tmp 59) (.tmp 60) rfl fs fs true rfl rfl hsame ?_) | (with_reducible refine isLoadR 49 ?_; refine wpList_ldR 49 Tryz.underlying49 rfl rfl (.tmp 9) rfl gy rfl (layRow y) 49 (0, 0) (lay_info _) HY2.out ?_) | (with_reducible refine isStoreR 49 ?_; refine wpList_stR 49 rfl (.tmp 4) (.tmp 70) rfl (w.heap.size + 1) (layRow y) (layRow lay0) 49 (lay_info _) (lay_two _ _) (lay_one _) rfl rfl HOr ?_))
      exact retCT Tryz.underlying49 rfl rfl (w.heap.size + 1) _ 49 (lay_info _) rfl (setRow_heap _ _ _ _ _ _ HOr) rfl ⟨rfl, HBe.out.trans ((Fr.setRow X2 (w.heap.size + 1) _).below (fun j q => by omega) HBe.out.size)⟩
end Go.Proofs.YtkcgbhagjkhcmaaGreat
