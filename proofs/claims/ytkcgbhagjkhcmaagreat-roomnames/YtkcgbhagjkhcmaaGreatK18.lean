/- Several texts joined, each with its own remark; no condition. -/
import Derived.Test.YtkcgbhagjkhcmaaGreatK17
import Derived.Test.YtkcgbhagjkhcmaaGreatK15
import Derived.Test.YtkcgbhagjkhcmaaGreatK16
import Derived.Laws.ResultCell
import Derived.Laws.IdiomStrings
import Derived.Deep.Cut
/- A mark of a block; the marks of all blocks are right. -/
namespace Go.Proofs.YtkcgbhagjkhcmaaGreat
open Go.RowKit Go.Maps
/-- The bit i of a block. -/
def hasP (f : Nat → Int) (i : Nat) : Bool := f (i / 8) / 2 ^ (i % 8) % 2 == 1
theorem half (a : Int) (k : Nat) : a / 2 ^ k / 2 = a / 2 ^ (k + 1) := by
  have h : (0 : Int) < 2 ^ k := Int.pow_pos (by decide)
  rw [Int.pow_succ, Int.ediv_ediv, if_neg (by omega), Int.sub_zero]
set_option maxRecDepth 20000 in
set_option maxHeartbeats 1000000 in
theorem has02_any (f : Nat → Int) (i : Nat) (w : World) (hf : Byt f) (hi : i < 8192) :
    Calls Tryz.prog 86 #[.agg (blk f), .int .i64 (i : Int)] w fun e w' => e = .returned (.bool (hasP f i)) ∧ Below w.heap.size w w' := by
  have hx := heap_alloc_new w (.cells (blk f) 76)
  have cb := cell_rowN (i := i / 8) (m := 1024) hx (by omega)
  have HB : Hid _ := below_new w (.cells (blk f) 76)
  have hb := hf (i / 8)
  unfold hasP
  generalize f (i / 8) = v at *
  have e1 : (i : Int).tdiv 8 = ((i / 8 : Nat) : Int) := by rw [Int.tdiv_eq_ediv_of_nonneg (by omega)]; omega
  have e2 : (i : Int).tmod 8 = ((i % 8 : Nat) : Int) := by rw [Int.tmod_eq_emod_of_nonneg (by omega)]; omega
  have e3 : IntKind.i64.wrap ((i / 8 : Nat) : Int) = ((i / 8 : Nat) : Int) := by rw [IntKind.wrap_i64]; omega
  have e4 : IntKind.i64.wrap ((i % 8 : Nat) : Int) = ((i % 8 : Nat) : Int) := by rw [IntKind.wrap_i64]; omega
  have e5 : IntKind.i64.wrap v = v := by rw [IntKind.wrap_i64]; omega
  have h8 : i / 8 < 1024 := by omega
  have hm8 : i % 8 < 8 := by omega
  have g1 : decide ((i : Int) < 0) = false := decide_eq_false (by omega)
  have g2 : decide (8192 ≤ (i : Int)) = false := decide_eq_false (by omega)
  clear hx hf
  generalize blk f = F at *
  generalize i / 8 = q at *
  generalize i % 8 = r at *
  go_enter Tryz.func86, Tryz.ntmps86
  go_wp2
  generalize w.alloc (.cells F 76) = V at *
  go_loopw [5, 6] (fun s5 s6 wx => wx = V ∧ ∃ k : Nat, k ≤ r ∧ s6 = .int .i64 k ∧ s5 = .int .i64 (v / 2 ^ k)) (fun _ s6 _ => r - (intOf s6).toNat)
  case atStart => exact ⟨rfl, 0, by omega, rfl, by simp⟩
  case round =>
    obtain ⟨rfl, k, hk, rfl, rfl⟩ := hrel
    have h1 : 0 ≤ v / 2 ^ k := Int.ediv_nonneg hb.1 (Int.le_of_lt (Int.pow_pos (by decide)))
    have h2 : v / 2 ^ k ≤ v := Int.ediv_le_self _ hb.1
    have h3 := half v k
    by_cases hk2 : (k : Int) < (r : Int)
    · generalize v / 2 ^ k = u at *
      have t1 : u.tdiv 2 = u / 2 := Int.tdiv_eq_ediv_of_nonneg h1
      have t2 : IntKind.i64.wrap (u / 2) = u / 2 := by rw [IntKind.wrap_i64]; omega
      have H3 : Hid _ := h3
      clear h3
      go_wp2
      exact ⟨⟨trivial, k + 1, by omega, by go_num, by rw [H3.out]⟩, by simp [intOf]; omega⟩
    · obtain rfl : k = r := by omega
      clear h3
      obtain ⟨u, hu⟩ : ∃ u, v / 2 ^ k = u := ⟨_, rfl⟩
      rw [hu] at h1 h2 ⊢
      have HU : Hid _ := hu
      clear hu
      have t1 : u.tmod 2 = u % 2 := Int.tmod_eq_emod_of_nonneg h1
      have t2 : IntKind.i64.wrap (u % 2) = u % 2 := by rw [IntKind.wrap_i64]; omega
      go_wp2
      go_ret
      exact ⟨by rw [HU.out]; rfl, HB.out⟩
/-- Should the block be marked? -/
def wantB (y : Lay) (S : List (Int × Int)) (nB k : Nat) : Bool := decide ((k : Int) < y.dataAt) || (decide (k < nB) && decide (0 < cntS S k))
set_option maxRecDepth 20000 in
set_option maxHeartbeats 4000000 in
theorem bits29_ok {w : World} {g : Nat} {n : Int} {l : List Cel} {y : Lay} (h : Aud w g n l y) {p : Option Addr} {L : List Fl} (c : Nat) (hL : FlsAt w p L) {nB bB : Nat} (hb : y.b = nB) (hb1 : nB ≤ 100000000) (hok : ∀ x ∈ L, ∀ s ∈ x.sp, 0 ≤ s.2 ∧ s.2 < nB) (htot : (allS L).length ≤ 100000000)
    (hy : y.bitsBlocks = bB) (hy1 : bB ≤ 1000000) (hy2 : 0 ≤ y.bitsAt ∧ y.bitsAt ≤ 1000000000) (hm : ∀ k i, k < bB → i < 8192 → hasP (atL l (y.bitsAt + (k : Int))) i = wantB y (allS L) nB (8192 * k + i)) :
    Calls Tryz.prog 118 #[.pointer (some ⟨g, 0, none⟩), .slice p L.length c] w fun e w' => e = .returned (.slice none 0 0) ∧ Below w.heap.size w w' := by
  have z := zero77
  have hown := owned29_any h c hL hb hb1 hok htot
  have HA : Hid _ := h
  have HM : Hid _ := hm
  have HC : Hid (∀ W, Aud W g n l y → W.cell? ⟨g, 8, none⟩ = some (.int .i64 y.bitsAt) ∧ W.cell? ⟨g, 9, none⟩ = some (.int .i64 bB) ∧ W.cell? ⟨g, 10, none⟩ = some (.int .i64 y.dataAt)) := fun W hW => by
    obtain ⟨⟨p, cap, q, c, hr, _⟩, _, _⟩ := hW
    have c8 := Joins.cell_of_block hr 8
    have c9 := Joins.cell_of_block hr 9
    have c10 := Joins.cell_of_block hr 10
    unfold dkRow at c8 c9 c10
    rw [hy] at c9
    exact ⟨c8, c9, c10⟩
  clear h hL hok hb htot hm hy
  generalize allS L = S at *
  go_enter Tryz.func118, Tryz.ntmps118
  go_wp2_with (first | (go_at_call 156; fail))
  refine hown.mono ?_
  rintro e W1 ⟨gr, rfl, hc⟩
  obtain ⟨⟨f, hr, hf⟩, _, hbel⟩ := hc
  have HR : Hid _ := hr
  have HF : Hid _ := hf
  have HB : Hid (Below w.heap.size w W1) := hbel
  clear hown hr hf hbel
  go_wp2
  go_loopw [5, 7, 8, 9, 10, 11] (fun s5 s7 _ _ _ _ wx => ∃ k : Nat, k ≤ bB ∧ s5 = .slice none 0 0 ∧ s7 = .int .i64 k ∧ Hid (Below W1.heap.size W1 wx)) (fun _ s7 _ _ _ _ _ => bB - (intOf s7).toNat)
  case atStart => exact ⟨0, by omega, rfl, rfl, Below.refl _ _⟩
  case round =>
    obtain ⟨k, hk, rfl, rfl, HW⟩ := hrel
    have hA := HA.out.later (below_next HB.out HW.out)
    obtain ⟨c8, c9, c10⟩ := HC.out _ hA
    by_cases hk2 : (k : Int) < (bB : Int)
    · have hat := at29_any hA (y.bitsAt + (k : Int))
      have HBt : Hid _ := hA.blk (y.bitsAt + (k : Int))
      have HMk : Hid _ := fun i => HM.out k i (by omega)
      have e1 : IntKind.i64.wrap (y.bitsAt + (k : Int)) = y.bitsAt + (k : Int) := by rw [IntKind.wrap_i64]; omega
      generalize atL l (y.bitsAt + (k : Int)) = fb at *
      go_wp2_with (first | (go_at_call 126; fail))
      refine hat.mono ?_
      rintro e X1 ⟨rfl, hb2⟩
      have HX : Hid ((X1.alloc (.cells (blk fb) 76)).heap[X1.heap.size]? = some (.cells (blk fb) 76)) := heap_alloc_new _ _
      have HW2 : Hid (Below W1.heap.size W1 (X1.alloc (.cells (blk fb) 76))) := below_next (below_next HW.out hb2) (below_new _ _)
      clear hat hb2 HW c8 c9 c10 hA e1
      go_wp2_with (first | (with_reducible refine isStoreR 76 ?_; refine wpList_stBn rfl (.tmp 8) (.tmp 32) rfl X1.heap.size fb nought 76 rfl rfl rfl ?_))
      generalize X1.alloc (.cells (blk fb) 76) = V at *
      generalize X1.heap.size = gb at *
      go_loopw [5, 9, 10, 11] (fun s5 s9 _ _ wx => ∃ i : Nat, i ≤ 8192 ∧ s5 = .slice none 0 0 ∧ s9 = .int .i64 i ∧ Hid (Below V.heap.size V wx)) (fun _ s9 _ _ _ => 8192 - (intOf s9).toNat)
      case atStart => exact ⟨0, by omega, rfl, rfl, Below.refl _ _⟩
      case round =>
        obtain ⟨i, hi, rfl, rfl, HI⟩ := hrel
        by_cases hi2 : (i : Int) < 8192
        · have hbW := below_next HW2.out HI.out
          have hA2 := HA.out.later (below_next HB.out hbW)
          obtain ⟨c8, c9, c10⟩ := HC.out _ hA2
          have hx0 := blk_at (heap_kept HX.out HI.out)
          have hhas := has02_any fb i wr HBt.out (by omega)
          have hmk := HMk.out i (by omega)
          rw [hmk] at hhas
          have a1 : IntKind.i64.wrap (8192 * (k : Int)) = 8192 * (k : Int) := by rw [IntKind.wrap_i64]; omega
          have a2 : IntKind.i64.wrap (8192 * (k : Int) + (i : Int)) = ((8192 * k + i : Nat) : Int) := by rw [IntKind.wrap_i64]; omega
          have a3 : 8192 * (k : Int) + (i : Int) = ((8192 * k + i : Nat) : Int) := by omega
          have hrow := heap_kept HR.out hbW
          unfold wantB at hhas
          have HFa := HF.out (8192 * k + i)
          have HI2 : Hid _ := HI.out
          clear hA2 hmk c8 c9 HI
          generalize 8192 * k + i = K at *
          generalize y.dataAt = da at *
          by_cases hd : (K : Int) < da
          · have g1 : decide ((K : Int) < da) = true := decide_eq_true hd
            rw [g1, Bool.true_or] at hhas
            clear HFa hrow
            go_wp2_with (first | (with_reducible refine isLoadR 76 ?_; refine wpList_ldB rfl (.tmp 8) rfl gb 0 fb rfl hx0 ?_) | (go_at_call 86; fail))
            refine hhas.mono ?_
            rintro e X2 ⟨rfl, hb3⟩
            have HI3 : Hid (Below V.heap.size V X2) := below_next HI2.out hb3
            clear hhas hb3 HI2 hbW hx0 c10
            go_wp2
            exact ⟨⟨i + 1, by omega, rfl, by go_num, HI3.out⟩, by simp [intOf]; omega⟩
          · have g1 : decide ((K : Int) < da) = false := decide_eq_false hd
            rw [g1, Bool.false_or] at hhas
            by_cases hn : K < nB
            · have g2 : decide (K < nB) = true := decide_eq_true hn
              have g3 : decide ((K : Int) < (nB : Int)) = true := decide_eq_true (by omega)
              rw [g2, Bool.true_and] at hhas
              have cK := cell_rowN (i := K) hrow hn
              rw [HFa hn] at cK
              generalize cntS S K = q at *
              clear HFa hrow
              obtain ⟨r, hr⟩ : ∃ r, decide (0 < q) = r := ⟨_, rfl⟩
              rw [hr] at hhas
              go_wp2_with (first | (with_reducible refine isLoadR 76 ?_; refine wpList_ldB rfl (.tmp 8) rfl gb 0 fb rfl hx0 ?_) | (go_at_call 86; fail))
              refine hhas.mono ?_
              rintro e X2 ⟨rfl, hb3⟩
              have HI3 : Hid (Below V.heap.size V X2) := below_next HI2.out hb3
              clear hhas hb3 HI2 hbW hx0 c10 cK
              go_wp2
              exact ⟨⟨i + 1, by omega, rfl, by go_num, HI3.out⟩, by simp [intOf]; omega⟩
            · have g2 : decide (K < nB) = false := decide_eq_false hn
              have g3 : decide ((K : Int) < (nB : Int)) = false := decide_eq_false (by omega)
              rw [g2, Bool.false_and] at hhas
              clear HFa hrow
              go_wp2_with (first | (with_reducible refine isLoadR 76 ?_; refine wpList_ldB rfl (.tmp 8) rfl gb 0 fb rfl hx0 ?_) | (go_at_call 86; fail))
              refine hhas.mono ?_
              rintro e X2 ⟨rfl, hb3⟩
              have HI3 : Hid (Below V.heap.size V X2) := below_next HI2.out hb3
              clear hhas hb3 HI2 hbW hx0 c10
              go_wp2
              exact ⟨⟨i + 1, by omega, rfl, by go_num, HI3.out⟩, by simp [intOf]; omega⟩
        · obtain rfl : i = 8192 := by omega
          have HW3 : Hid (Below W1.heap.size W1 wr) := below_next HW2.out HI.out
          clear HI
          go_wp2
          exact ⟨⟨k + 1, by omega, rfl, by go_num, HW3.out⟩, by simp [intOf]; omega⟩
    · have HR2 : Hid (Below w.heap.size w wr) := below_next HB.out HW.out
      clear hA c8 c10 HW
      go_wp2
      go_ret
      exact ⟨rfl, HR2.out⟩
end Go.Proofs.YtkcgbhagjkhcmaaGreat
/- Names of entries that may be. -/
namespace Go.Proofs.YtkcgbhagjkhcmaaGreat
open Go.RowKit Go.Maps
/-- A name that may be. -/
structure NmOk (s : ByteArray) : Prop where
  pos : 0 < s.size
  len : s.size ≤ 14
  byt : ∀ i (h : i < s.size), ¬ ((s[i].toNat : Nat) : Int) = 0 ∧ ¬ ((s[i].toNat : Nat) : Int) = 47
theorem nm_list {s : ByteArray} (h : 0 < s.size) : s.toList.isEmpty = false := by
  rw [ByteArray.toList_eq]
  have : s.data.toList.length = s.size := by cases s; rfl
  cases hq : s.data.toList with
  | nil => rw [hq] at this; simp at this; omega
  | cons a t => rfl
set_option maxRecDepth 20000 in
set_option maxHeartbeats 1000000 in
theorem name18_ok (s : ByteArray) (w : World) (h : NmOk s) :
    Calls Tryz.prog 167 #[.string s] w fun e w' => e = .returned (.int .i64 0) ∧ w' = w := by
  obtain ⟨h1, h2, hb⟩ := h
  have h3 := nm_list h1
  have HB : Hid (∀ i (h : i < s.size), ¬ ((s[i].toNat : Nat) : Int) = 0 ∧ ¬ ((s[i].toNat : Nat) : Int) = 47) := hb
  clear hb
  go_enter Tryz.func167, Tryz.ntmps167
  go_wp2
  go_loopw [3] (fun s3 wx => wx = w ∧ ∃ i : Nat, i ≤ s.size ∧ s3 = .int .i64 i) (fun s3 _ => s.size - (intOf s3).toNat)
  case atStart => exact ⟨rfl, 0, by omega, rfl⟩
  case round =>
    obtain ⟨rfl, i, hi, rfl⟩ := hrel
    by_cases hi2 : (i : Int) < (s.size : Int)
    · obtain ⟨b0, b47⟩ := HB.out i (by omega)
      have hr : ∀ u : World, (Instr.index 9 (.string s) (.int .i64 (i : Int))).run Tryz.prog u = .ok (.int .u8 ((s[i]'(by omega)).toNat : Nat)) u := fun u => by
        rw [run_index_string (P := Tryz.prog) u 9 s .i64 (i : Int) Tryz.underlying9, dif_pos (by omega)]
        simp
      generalize (s[i]'(by omega)).toNat = q at *
      have g1 : ((q : Int) == 0) = false := beq_eq_false_iff_ne.2 b0
      have g2 : ((q : Int) == 47) = false := beq_eq_false_iff_ne.2 b47
      generalize (q : Int) = q' at *
      go_wp2
      exact ⟨⟨trivial, i + 1, by omega, by go_num⟩, by simp [intOf]; omega⟩
    · have g1 : decide ((14 : Int) < (s.size : Int)) = false := decide_eq_false (by omega)
      go_wp2
      go_ret
      exact ⟨rfl, rfl⟩
end Go.Proofs.YtkcgbhagjkhcmaaGreat
/- An entry's sixteen bytes, where the entry may be. -/
namespace Go.Proofs.YtkcgbhagjkhcmaaGreat
open Go.RowKit Go.Maps
theorem size204 : (Tryz.prog.info? 207).map (·.size) = some 16 := by kernel_rfl
theorem zero204 : ∀ w, (zeroValue 207).run Tryz.prog w = .ok (.agg (rowN .u8 nought 16)) w := (zero_of_info (show (Tryz.prog.info? 207).map (fun i => (i.zero, i.size)) = some (some (.agg (rowN .u8 nought 16)), 16) by kernel_rfl)).1
theorem retCT {fn : Func} {p u : Tmp} {ty : TypeId} {R : Ending → World → Prop} {a : Act} {w : World} {d : TypeDesc} (hu : Tryz.prog.underlying ty = some d) (hd : d.isRow = true) (h : fn.results = #[.cell p ty, .tmp u]) (g : Nat) (cs : Array Value) (t : TypeId) (hi : (Tryz.prog.info? ty).map (·.size) = some cs.size)
    (hp : a.tmps.getD p undef = .pointer (some ⟨g, 0, none⟩)) (hg : w.heap[g]? = some (.cells cs t))
    (hdf : a.defers = []) (hR : R (.returned (.tuple #[.agg cs, a.tmps.getD u undef])) w) : bodyPost Tryz.prog fn R .ret a w := by
  have hl : (loadVar ty ⟨g, 0, none⟩).run Tryz.prog w = .ok (.agg cs) w := run_loadVar_row w g t ty cs (0, 0) d hg hu (by cases d <;> first | rfl | cases hd) hi
  refine bodyPost_ret ?_ hdf hR
  rw [results_cell_tmp h]
  rw [hp]
  simp [asAddr, hl]
/-- The bytes of an entry. -/
def encP (i : Int) (s : ByteArray) : Nat → Int := fun j => if j = 0 then i % 256 else if j = 1 then i / 256 else if h : j - 2 < s.size then (s[j - 2].toNat : Nat) else 0
structure En3 (w W : World) (i : Int) (s : ByteArray) (e : Nat → Int) : Prop where
  ent : W.heap[w.heap.size]? = some (.cells #[.int .u16 i, .string s] 133)
  res : W.heap[w.heap.size + 1]? = some (.cells (rowN .u8 nought 16) 207)
  row : W.heap[w.heap.size + 2]? = some (.cells (rowN .u8 e 16) 207)
  bel : Below w.heap.size w W
theorem En3.set {w W : World} {i : Int} {s : ByteArray} {e : Nat → Int} (h : En3 w W i s e) (j : Nat) (x : Int) : En3 w (W.setCell ⟨w.heap.size + 2, j, none⟩ (.int .u8 x)) i s (updN e j x) := by
  have hF := Fr.setCell W (w.heap.size + 2) j (.int .u8 x)
  exact ⟨(hF.block _ (Array.getElem?_eq_some_iff.1 h.ent).1 (by omega)).trans h.ent, (hF.block _ (Array.getElem?_eq_some_iff.1 h.res).1 (by omega)).trans h.res, setCell_rowN h.row j x, h.bel.trans (hF.below (fun j q => by omega) h.bel.size)⟩
theorem En3.start (w : World) (i : Int) (s : ByteArray) : En3 w (((w.alloc (.cells #[.int .u16 i, .string s] 133)).alloc (.cells (rowN .u8 nought 16) 207)).alloc (.cells (rowN .u8 nought 16) 207)) i s nought := by
  refine ⟨heap_kept (heap_kept (heap_alloc_new _ _) (below_new _ _)) (below_new _ _), heap_kept (heap_two _ _ _) (below_new _ _), ?_, bel_al (bel_al (below_new _ _) _) _⟩
  have := heap_alloc_new ((w.alloc (.cells #[.int .u16 i, .string s] 133)).alloc (.cells (rowN .u8 nought 16) 207)) (.cells (rowN .u8 nought 16) 207)
  simpa using this
theorem En3.start2 (w : World) (i : Int) (s : ByteArray) (x y : Int) : En3 w (((w.alloc (.cells #[.int .u16 i, .string s] 133)).alloc (.cells (rowN .u8 nought 16) 207)).alloc (.cells (((rowN .u8 nought 16).setIfInBounds 0 (.int .u8 x)).setIfInBounds 1 (.int .u8 y)) 207)) i s (updN (updN nought 0 x) 1 y) := by
  rw [rowN_set, rowN_set]
  refine ⟨heap_kept (heap_kept (heap_alloc_new _ _) (below_new _ _)) (below_new _ _), heap_kept (heap_two _ _ _) (below_new _ _), ?_, bel_al (bel_al (below_new _ _) _) _⟩
  have := heap_alloc_new ((w.alloc (.cells #[.int .u16 i, .string s] 133)).alloc (.cells (rowN .u8 nought 16) 207)) (.cells (rowN .u8 (updN (updN nought 0 x) 1 y) 16) 207)
  simpa using this
set_option maxRecDepth 20000 in
set_option maxHeartbeats 1000000 in
theorem enc18_free (w : World) :
    Calls Tryz.prog 129 #[.agg #[.int .u16 0, .string ⟨#[]⟩]] w fun e w' => e = .returned (.tuple #[.agg (rowN .u8 nought 16), .int .i64 0]) ∧ Below w.heap.size w w' := by
  have z := zero204
  have HE := En3.start w 0 ⟨#[]⟩
  have c0 := Joins.cell_of_block HE.ent 0
  have c1 := Joins.cell_of_block HE.ent 1
  have hr := HE.res
  have hrw := HE.row
  have HB : Hid _ := HE.bel
  clear HE
  go_enter Tryz.func129, Tryz.ntmps129
  go_wp2_with (first | (with_reducible refine isLoadR 207 ?_; refine wpList_ldR 207 Tryz.underlying207 rfl rfl _ rfl (w.heap.size + 2) rfl (rowN .u8 nought 16) 207 (0, 0) (by rw [rowN_size]; exact size204) hrw ?_) | (with_reducible refine isStoreR 207 ?_; refine wpList_stR 207 rfl _ _ rfl (w.heap.size + 1) (rowN .u8 nought 16) (rowN .u8 nought 16) 207 (by rw [rowN_size]; exact size204) rfl (rowN_one _ _ _) rfl rfl hr ?_))
  exact retCT Tryz.underlying207 rfl rfl (w.heap.size + 1) (rowN .u8 nought 16) 207 (by rw [rowN_size]; exact size204) rfl (setRow_heap _ _ _ _ _ _ hr) rfl ⟨rfl, below_setRow HB.out (by omega) _⟩
set_option maxRecDepth 20000 in
set_option maxHeartbeats 2000000 in
theorem enc18_name (w : World) (i : Int) (hi : 0 < i ∧ i < 65536) (s : ByteArray) (hs : NmOk s) :
    Calls Tryz.prog 129 #[.agg #[.int .u16 i, .string s]] w fun e w' => e = .returned (.tuple #[.agg (rowN .u8 (encP i s) 16), .int .i64 0]) ∧ Below w.heap.size w w' := by
  have z := zero204
  have hE := En3.start w i s
  have hnm := name18_ok s (((w.alloc (.cells #[.int .u16 i, .string s] 133)).alloc (.cells (rowN .u8 nought 16) 207)).alloc (.cells (rowN .u8 nought 16) 207)) hs
  have c0 := Joins.cell_of_block hE.ent 0
  have c1 := Joins.cell_of_block hE.ent 1
  have g1 : (i == 0) = false := beq_eq_false_iff_ne.2 (by omega)
  have hlen := hs.len
  have HS : Hid _ := En3.start2 w i s (i % 256) (i / 256)
  have HE1 := hE.set 0 (i % 256)
  have r0 := cell_rowN (i := 0) hE.row (by omega)
  have f0 := frozen_row hE.row 0
  have r1 := cell_rowN (i := 1) HE1.row (by omega)
  have f1 := frozen_row HE1.row 1
  have d0 := Joins.cell_of_block HE1.ent 0
  clear hE HE1
  have t1 : i.tmod 256 = i % 256 := Int.tmod_eq_emod_of_nonneg (by omega)
  have t2 : i.tdiv 256 = i / 256 := Int.tdiv_eq_ediv_of_nonneg (by omega)
  have t3 : IntKind.u16.wrap (i % 256) = i % 256 := by rw [wrap_u16]; omega
  have t4 : IntKind.u16.wrap (i / 256) = i / 256 := by rw [wrap_u16]; omega
  have t5 : IntKind.u8.wrap (i % 256) = i % 256 := by rw [IntKind.wrap_u8]; omega
  have t6 : IntKind.u8.wrap (i / 256) = i / 256 := by rw [IntKind.wrap_u8]; omega
  go_enter Tryz.func129, Tryz.ntmps129
  go_wp2_with (first | (go_at_call 167; fail))
  refine hnm.mono ?_
  rintro e W ⟨rfl, rfl⟩
  clear hnm
  go_wp2
  generalize (((w.alloc (.cells #[.int .u16 i, .string s] 133)).alloc (.cells (rowN .u8 nought 16) 207)).alloc (.cells (((rowN .u8 nought 16).setIfInBounds 0 (.int .u8 (i % 256))).setIfInBounds 1 (.int .u8 (i / 256))) 207)) = V at *
  clear c0 c1 r0 f0 r1 f1 d0 t1 t2 t3 t4 t5 t6 g1
  have HP : Hid (∀ k (h : k < s.size), encP i s (2 + k) = (s[k].toNat : Nat)) := fun k h => by
    unfold encP
    rw [if_neg (by omega), if_neg (by omega), dif_pos (by omega)]
    simp
  go_loopw [6] (fun s6 wx => ∃ (k : Nat) (e : Nat → Int), k ≤ s.size ∧ s6 = .int .i64 k ∧ Hid (∀ j, j < 2 + k ∨ 2 + s.size ≤ j → e j = encP i s j) ∧ Hid (En3 w wx i s e)) (fun s6 _ => s.size - (intOf s6).toNat)
  case atStart =>
    refine ⟨0, _, by omega, rfl, ?_, HS.out⟩
    intro j hj
    unfold updN encP nought
    by_cases h1 : j = 1
    · rw [if_pos h1, if_neg (by omega), if_pos h1]
    · rw [if_neg h1]
      by_cases h0 : j = 0
      · rw [if_pos h0, if_pos h0]
      · rw [if_neg h0, if_neg h0, if_neg h1, dif_neg (by omega)]
  case round =>
    obtain ⟨k, e, hk, rfl, HE, HT⟩ := hrel
    have c1 := Joins.cell_of_block HT.out.ent 1
    by_cases hk2 : (k : Int) < (s.size : Int)
    · have hr : ∀ u : World, (Instr.index 9 (.string s) (.int .i64 (k : Int))).run Tryz.prog u = .ok (.int .u8 ((s[k]'(by omega)).toNat : Nat)) u := fun u => by
        rw [run_index_string (P := Tryz.prog) u 9 s .i64 (k : Int) Tryz.underlying9, dif_pos (by omega)]
        simp
      have HPk : Hid _ := HP.out k (by omega)
      have rk := cell_rowN (i := 2 + k) HT.out.row (by omega)
      have fk := frozen_row HT.out.row (2 + k)
      have HT2 : Hid _ := HT.out.set (2 + k) ((s[k]'(by omega)).toNat : Nat)
      have HE2 : Hid (∀ j, j < 2 + (k + 1) ∨ 2 + s.size ≤ j → updN e (2 + k) ((s[k]'(by omega)).toNat : Nat) j = encP i s j) := fun j hj => by
        unfold updN
        split
        · rename_i q; rw [q, HPk.out]
        · exact HE.out j (by omega)
      have e1 : IntKind.i64.wrap (2 + (k : Int)) = ((2 + k : Nat) : Int) := by rw [IntKind.wrap_i64]; omega
      have e2 : 2 + (k : Int) = ((2 + k : Nat) : Int) := by omega
      have hlt : 2 + k < 16 := by omega
      have hks : k < s.size := by omega
      generalize ((s[k]'(by omega)).toNat : Nat) = q at *
      generalize (q : Int) = x at *
      clear HT HE HPk
      generalize hm : 2 + k = m at *
      have HM : Hid _ := hm
      clear hm
      go_wp2
      refine ⟨⟨k + 1, _, by omega, by go_num, HE2.out, HT2.out⟩, by simp [intOf]; omega⟩
    · obtain rfl : k = s.size := by omega
      have hrow := HT.out.row
      rw [show rowN .u8 e 16 = rowN .u8 (encP i s) 16 from rowN_congr fun j _ => HE.out j (by omega)] at hrow
      have hres := HT.out.res
      have HB2 : Hid (Below w.heap.size w (wr.setRow (w.heap.size + 1) (rowN .u8 (encP i s) 16))) := below_setRow HT.out.bel (by omega) _
      clear HT HE HP
      obtain ⟨F, hF⟩ : ∃ F, encP i s = F := ⟨_, rfl⟩
      rw [hF] at hrow HB2
      have HF : Hid _ := hF
      clear hF
      go_wp2_with (first | (with_reducible refine isLoadR 207 ?_; refine wpList_ldR 207 Tryz.underlying207 rfl rfl _ rfl (w.heap.size + 2) rfl (rowN .u8 F 16) 207 (0, 0) (by rw [rowN_size]; exact size204) hrow ?_) | (with_reducible refine isStoreR 207 ?_; refine wpList_stR 207 rfl _ _ rfl (w.heap.size + 1) (rowN .u8 F 16) (rowN .u8 nought 16) 207 (by rw [rowN_size]; exact size204) (by rw [rowN_size, rowN_size]) (rowN_one _ _ _) rfl rfl hres ?_))
      exact retCT Tryz.underlying207 rfl rfl (w.heap.size + 1) (rowN .u8 F 16) 207 (by rw [rowN_size]; exact size204) rfl (setRow_heap _ _ _ _ _ _ hres) rfl ⟨by rw [HF.out]; rfl, HB2.out⟩
end Go.Proofs.YtkcgbhagjkhcmaaGreat
/- An entry read from its sixteen bytes, where the entry may be. -/
namespace Go.Proofs.YtkcgbhagjkhcmaaGreat
open Go.RowKit Go.Maps
def pre (s : ByteArray) (k : Nat) : ByteArray := ⟨(s.data.toList.take k).toArray⟩
theorem pre_size (s : ByteArray) (k : Nat) (h : k ≤ s.size) : (pre s k).size = k := by
  have : s.data.toList.length = s.size := by cases s; rfl
  show (s.data.toList.take k).toArray.size = k
  simp [List.length_take]
  have : s.data.size = s.size := by cases s; rfl
  omega
theorem pre_all (s : ByteArray) : pre s s.size = s := by
  have : s.data.toList.length = s.size := by cases s; rfl
  unfold pre
  rw [← this, List.take_length]
theorem pre_step (s : ByteArray) (k : Nat) (h : k < s.size) : pre s k ++ ⟨[s[k]].toArray⟩ = pre s (k + 1) := by
  have h2 : k < s.data.toList.length := by cases s; exact h
  apply ByteArray.ext
  rw [ByteArray.data_append]
  unfold pre
  rw [List.take_add_one, List.getElem?_eq_getElem h2]
  simp
  rfl
theorem zero132 : ∀ w, (zeroValue 133).run Tryz.prog w = .ok (.agg #[.int .u16 0, .string ⟨#[]⟩]) w := (zero_of_info (show (Tryz.prog.info? 133).map (fun i => (i.zero, i.size)) = some (some (.agg #[.int .u16 0, .string ⟨#[]⟩]), 2) by kernel_rfl)).1
theorem size132 : (Tryz.prog.info? 133).map (·.size) = some 2 := by kernel_rfl
theorem ent_info (i : Int) (s : ByteArray) : (Tryz.prog.info? 133).map (·.size) = some (#[Value.int .u16 i, .string s] : Array Value).size := size132
theorem ent_two (i i' : Int) (s s' : ByteArray) : (#[Value.int .u16 i, .string s] : Array Value).size = (#[Value.int .u16 i', .string s'] : Array Value).size := rfl
theorem ent_one (i : Int) (s : ByteArray) : (#[Value.int .u16 i, .string s] : Array Value).all (·.oneCell') = true := by simp [Value.oneCell']
structure De3 (w W : World) (f : Nat → Int) (i : Int) (s : ByteArray) : Prop where
  row : W.heap[w.heap.size]? = some (.cells (rowN .u8 f 16) 207)
  res : W.heap[w.heap.size + 1]? = some (.cells #[.int .u16 0, .string ⟨#[]⟩] 133)
  ent : W.heap[w.heap.size + 1 + 1]? = some (.cells #[.int .u16 i, .string s] 133)
  bel : Below w.heap.size w W
theorem De3.start (w : World) (f : Nat → Int) (i : Int) : De3 w (((w.alloc (.cells (rowN .u8 f 16) 207)).alloc (.cells #[.int .u16 0, .string ⟨#[]⟩] 133)).alloc (.cells #[.int .u16 i, .string ⟨#[]⟩] 133)) f i ⟨#[]⟩ := by
  refine ⟨heap_kept (heap_kept (heap_alloc_new _ _) (below_new _ _)) (below_new _ _), heap_kept (heap_two _ _ _) (below_new _ _), ?_, bel_al (bel_al (below_new _ _) _) _⟩
  have := heap_alloc_new ((w.alloc (.cells (rowN .u8 f 16) 207)).alloc (.cells #[.int .u16 0, .string ⟨#[]⟩] 133)) (.cells #[.int .u16 i, .string ⟨#[]⟩] 133)
  simpa using this
theorem De3.call {w W W' : World} {f : Nat → Int} {i : Int} {s : ByteArray} (h : De3 w W f i s) (hb : Below W.heap.size W W') : De3 w W' f i s := ⟨heap_kept h.row hb, heap_kept h.res hb, heap_kept h.ent hb, below_next h.bel hb⟩
theorem De3.set {w W : World} {f : Nat → Int} {i : Int} {s : ByteArray} (h : De3 w W f i s) (s' : ByteArray) : De3 w (W.setCell ⟨w.heap.size + 1 + 1, 1, none⟩ (.string s')) f i s' := by
  have hF := Fr.setCell W (w.heap.size + 1 + 1) 1 (.string s')
  refine ⟨(hF.block _ (Array.getElem?_eq_some_iff.1 h.row).1 (by omega)).trans h.row, (hF.block _ (Array.getElem?_eq_some_iff.1 h.res).1 (by omega)).trans h.res, ?_, h.bel.trans (hF.below (fun j q => by omega) h.bel.size)⟩
  rw [heap_setCell_same _ _ _ _ _ _ h.ent]
  rfl
section
variable {o : Oper} {a : Act} {W W' : World}
theorem exec_conv {src dst : TypeId} {x : Operand} {v r : Value} (ho : o.op = .convert src dst x) (hx : a.eval x = v) (hr : (convert src dst v).run Tryz.prog W = .ok r W) : (execOp a.eval o).run Tryz.prog W = .ok (.value r) W := by
  generalize a.eval = E at *
  unfold execOp
  simp only [ho, hx, Sem.run_bind, hr, Result.andThen_ok, Sem.run_pure]
theorem exec_sadd {x y : Operand} {p q : ByteArray} (ho : o.op = .binOp .add 9 x y 9) (hx : a.eval x = .string p) (hy : a.eval y = .string q) (hl : p.size + q.size ≤ 1000000) : (execOp a.eval o).run Tryz.prog W = .ok (.value (.string (p ++ q))) W := by
  have hm : ¬ (((p.size + q.size : Nat) : Int) > IntKind.i64.max) := by
    have : IntKind.i64.max = 9223372036854775807 := by decide
    omega
  generalize a.eval = E at *
  unfold execOp
  simp only [ho, hx, hy, binOp_string_add, Op.stringOp, if_neg hm]
  simp [eqGuard]
theorem wpOrd_do {ops : Array Oper} {Q : Exit → Act → World → Prop} {S : World → Prop} {r : List (Bool × Oper)} (hw : Region.wanted o (yielded ops a.tmps) = true) (hr : (execOp a.eval o).run Tryz.prog W = .ok .skip W') (hS : S W') (h : wpOrd Tryz.prog ops Q S r (a.put o.dst undef) W') : wpOrd Tryz.prog ops Q S ((false, o) :: r) a W := by
  simp only [wpOrd, hw, if_true]
  unfold Oper.wp
  rw [hr]
  exact ⟨hS, h⟩
theorem exec_st9 {x y : Operand} {g i : Nat} {p : ByteArray} {old : Value} (ho : o.op = .store 9 x y) (hx : a.eval x = .pointer (some ⟨g, i, none⟩)) (hy : a.eval y = .string p) (hc : W.cell? ⟨g, i, none⟩ = some old) (hf : W.frozen? ⟨g, i, none⟩ = false) : (execOp a.eval o).run Tryz.prog W = .ok .skip (W.setCell ⟨g, i, none⟩ (.string p)) := by
  generalize a.eval = E at *
  unfold execOp
  simp only [ho, hx, hy]
  simp [go_sem, hc, hf]
end
set_option maxRecDepth 20000 in
set_option maxHeartbeats 2000000 in
theorem dec18_name (w : World) (f : Nat → Int) (i : Int) (hi : 0 < i ∧ i < 65536) (s : ByteArray) (hs : NmOk s) (hf : ∀ j, j < 16 → f j = encP i s j) :
    Calls Tryz.prog 166 #[.agg (rowN .u8 f 16)] w fun e w' => e = .returned (.tuple #[.agg #[.int .u16 i, .string s], .int .i64 0]) ∧ Below w.heap.size w w' := by
  have z := zero132
  have z2 := zero204
  have f0 : f 0 = i % 256 := by rw [hf 0 (by omega)]; rfl
  have f1 : f 1 = i / 256 := by rw [hf 1 (by omega)]; rfl
  have HD : Hid _ := De3.start w f i
  have hr1 := heap_kept (heap_alloc_new w (.cells (rowN .u8 f 16) 207)) (below_new (w.alloc (.cells (rowN .u8 f 16) 207)) (.cells #[.int .u16 0, .string ⟨#[]⟩] 133))
  have r0 := cell_rowN (i := 0) hr1 (by omega)
  have r1 := cell_rowN (i := 1) hr1 (by omega)
  rw [f0] at r0
  rw [f1] at r1
  clear hr1
  have w0 : IntKind.u16.wrap (i % 256) = i % 256 := by rw [wrap_u16]; omega
  have w1 : IntKind.u16.wrap (i / 256) = i / 256 := by rw [wrap_u16]; omega
  have w2 : IntKind.u16.wrap (256 * (i / 256)) = 256 * (i / 256) := by rw [wrap_u16]; omega
  have w3 : IntKind.u16.wrap (i % 256 + 256 * (i / 256)) = i := by rw [wrap_u16]; omega
  have HF : Hid _ := hf
  clear hf f0 f1
  go_enter Tryz.func166, Tryz.ntmps166
  go_wp2
  generalize ((w.alloc (.cells (rowN .u8 f 16) 207)).alloc (.cells #[.int .u16 0, .string ⟨#[]⟩] 133)).alloc (.cells #[.int .u16 i, .string ⟨#[]⟩] 133) = V at *
  clear r0 r1 w0 w1 w2 w3
  have hlen := hs.len
  have HP : Hid (∀ k (h : k < s.size), f (2 + k) = (s[k].toNat : Nat)) := fun k h => by
    rw [HF.out (2 + k) (by omega)]
    unfold encP
    rw [if_neg (by omega), if_neg (by omega), dif_pos (by omega)]
    simp
  have HQ : Hid (∀ k, k = s.size → k < 14 → f (2 + k) = 0) := fun k h hk => by
    rw [HF.out (2 + k) (by omega)]
    unfold encP
    rw [if_neg (by omega), if_neg (by omega), dif_neg (by omega)]
  have HN : Hid _ := hs
  clear hs
  go_loopw [5] (fun s5 wx => ∃ k : Nat, k ≤ s.size ∧ s5 = .int .i64 ((2 + k : Nat) : Int) ∧ Hid (De3 w wx f i (pre s k))) (fun s5 _ => 2 + s.size - (intOf s5).toNat)
  case atStart => exact ⟨0, by omega, rfl, HD.out⟩
  case round =>
    obtain ⟨k, hk, rfl, HT⟩ := hrel
    by_cases hk2 : k < s.size
    · have hb := HN.out.byt k hk2
      have rk := cell_rowN (i := 2 + k) HT.out.row (by omega)
      rw [HP.out k hk2] at rk
      have HPk : Hid _ := HP.out k hk2
      have hstep := pre_step s k hk2
      have hpsz := pre_size s k hk
      have hcv : ∀ u : World, u.cell? ⟨w.heap.size, 2 + k, none⟩ = some (.int .u8 ((s[k].toNat : Nat) : Int)) → ∀ c, (convert 259 9 (.slice (some ⟨w.heap.size, 2 + k, none⟩) 1 c)).run Tryz.prog u = .ok (.string ⟨[s[k]].toArray⟩) u := fun u hu c => by
        refine run_convert_bytes_back (P := Tryz.prog) u 259 9 5 ⟨w.heap.size, 2 + k, none⟩ c [s[k]] Tryz.underlying259 Tryz.underlying5 Tryz.underlying9 fun j hj => ?_
        obtain rfl : j = 0 := by simp at hj; omega
        rw [Go.WideShapes.add_plain, Nat.add_zero]
        exact hu
      have hent := HT.out.ent
      have HT2 : Hid _ := HT.out.set (pre s (k + 1))
      have g0 : (((s[k].toNat : Nat) : Int) == 0) = false := beq_eq_false_iff_ne.2 hb.1
      have g1 : (((s[k].toNat : Nat) : Int) != 0) = true := by rw [bne, g0]; rfl
      have hm16 : 2 + k < 16 := by omega
      have hmi : ((2 + k : Nat) : Int) < 16 := by omega
      generalize ((s[k].toNat : Nat) : Int) = q at *
      have hb1 : (⟨[s[k]].toArray⟩ : ByteArray).size = 1 := rfl
      generalize (⟨[s[k]].toArray⟩ : ByteArray) = b1 at *
      go_upto_region 5 with fail
      have c1 : wr.cell? ⟨w.heap.size + 1 + 1, 1, none⟩ = some (.string (pre s k)) := Joins.cell_of_block hent 1
      refine wp_region_ord (S := fun u => u.cell? ⟨w.heap.size, 2 + k, none⟩ = some (.int .u8 q)) [(0, true), (2, true), (3, true), (4, true), (5, true), (6, true), (1, false), (7, true), (8, true), (9, false)] (by kernel_rfl) rfl (by kernel_rfl) (fun d _ _ _ _ h => by cases d <;> exact h) rk ?_
      simp only [inOrd, List.getElem?_cons_zero, List.getElem?_cons_succ]
      refine wpOrd_yield (v := .pointer (some ⟨w.heap.size + 1 + 1, 1, none⟩)) rfl (fun u _ => by go_simp) ?_
      simp only [Act.put, List.setIfInBounds_toArray, List.set_cons_succ, List.set_cons_zero]
      refine wpOrd_yield (v := .int .i64 (2 + (k : Int))) rfl (fun u _ => exec_mv rfl rfl) ?_
      simp only [Act.put, List.setIfInBounds_toArray, List.set_cons_succ, List.set_cons_zero]
      refine wpOrd_yield (v := .int .i64 (2 + (k : Int))) rfl (fun u _ => exec_mv rfl rfl) ?_
      simp only [Act.put, List.setIfInBounds_toArray, List.set_cons_succ, List.set_cons_zero]
      refine wpOrd_yield (v := .int .i64 (2 + (k : Int) + 1)) rfl (fun u _ => by have e : IntKind.i64.wrap (2 + (k : Int) + 1) = 2 + (k : Int) + 1 := (by rw [IntKind.wrap_i64]; omega); go_simp) ?_
      simp only [Act.put, List.setIfInBounds_toArray, List.set_cons_succ, List.set_cons_zero]
      refine wpOrd_yield (v := .slice (some ⟨w.heap.size, 2 + k, none⟩) 1 (16 - (2 + k))) rfl (fun u _ => by
        have t1 : (2 + (k : Int)).toNat = 2 + k := by omega
        have t2 : (2 + (k : Int) + 1).toNat = 2 + k + 1 := by omega
        have t3 : 2 + k + 1 - (2 + k) = 1 := by omega
        have t4 : 0 ≤ 2 + (k : Int) + 1 ∧ 2 + (k : Int) + 1 ≤ 16 := by omega
        have t5 : 0 ≤ 2 + (k : Int) ∧ 2 + (k : Int) ≤ 2 + (k : Int) + 1 := by omega
        go_simp
        omega) ?_
      simp only [Act.put, List.setIfInBounds_toArray, List.set_cons_succ, List.set_cons_zero]
      refine wpOrd_yield (v := .string b1) rfl (fun u hu => exec_conv rfl rfl (hcv u hu (16 - (2 + k)))) ?_
      simp only [Act.put, List.setIfInBounds_toArray, List.set_cons_succ, List.set_cons_zero]
      have c1d : wr.drew.cell? ⟨w.heap.size + 1 + 1, 1, none⟩ = some (.string (pre s k)) := c1
      have rkd : wr.drew.cell? ⟨w.heap.size, 2 + k, none⟩ = some (.int .u8 q) := rk
      refine wpOrd_act (v := .string (pre s k)) (W' := wr.drew) rfl (by go_simp) rkd ?_
      simp only [Act.put, List.setIfInBounds_toArray, List.set_cons_succ, List.set_cons_zero]
      refine wpOrd_yield (v := .string (pre s k ++ b1)) rfl (fun u _ => exec_sadd rfl rfl rfl (by omega)) ?_
      simp only [Act.put, List.setIfInBounds_toArray, List.set_cons_succ, List.set_cons_zero]
      refine wpOrd_yield (v := .pointer (some ⟨w.heap.size + 1 + 1, 1, none⟩)) rfl (fun u _ => by go_simp) ?_
      simp only [Act.put, List.setIfInBounds_toArray, List.set_cons_succ, List.set_cons_zero]
      rw [hstep]
      have HTd : Hid (De3 w (wr.drew.setCell ⟨w.heap.size + 1 + 1, 1, none⟩ (.string (pre s (k + 1)))) f i (pre s (k + 1))) := De3.set (W := wr.drew) ⟨HT.out.row, HT.out.res, HT.out.ent, HT.out.bel.drew⟩ _
      refine wpOrd_do (W' := wr.drew.setCell ⟨w.heap.size + 1 + 1, 1, none⟩ (.string (pre s (k + 1)))) rfl (exec_st9 rfl rfl rfl c1d (frozen_row hent 1)) ?_ ?_
      · have hrw := HTd.out.row
        have := cell_rowN (i := 2 + k) hrw (by omega)
        rw [this, HPk.out]
      refine wpOrd_nil ?_
      clear HT HT2 hent c1 c1d rk rkd hcv hstep HPk
      generalize wr.drew.setCell ⟨w.heap.size + 1 + 1, 1, none⟩ (.string (pre s (k + 1))) = X at *
      simp only [Act.put]
      go_wp2
      exact ⟨⟨k + 1, by omega, by go_num, HTd.out⟩, by simp [intOf]; omega⟩
    · obtain rfl : k = s.size := by omega
      have hT := HT.out
      rw [pre_all s] at hT
      clear HT
      have hent := hT.ent
      have c0 : wr.cell? ⟨w.heap.size + 1 + 1, 0, none⟩ = some (.int .u16 i) := Joins.cell_of_block hent 0
      have c1 : wr.cell? ⟨w.heap.size + 1 + 1, 1, none⟩ = some (.string s) := Joins.cell_of_block hent 1
      have HT : Hid _ := hT
      have henc := enc18_name wr i hi s HN.out
      have hcut : ∀ R : Prop, (((2 + s.size : Nat) : Int) < 16 → wr.cell? ⟨w.heap.size, 2 + s.size, none⟩ = some (.int .u8 0) → R) → (¬ ((2 + s.size : Nat) : Int) < 16 → R) → R := fun R h1 h2 => by
        by_cases hq : ((2 + s.size : Nat) : Int) < 16
        · refine h1 hq ?_
          have := cell_rowN (i := 2 + s.size) hT.row (by omega)
          rw [HQ.out s.size rfl (by omega)] at this
          exact this
        · exact h2 hq
      have HSame : Hid (sameN 16 (encP i s) f = true) := (sameN_iff 16 _ _).2 fun j hj => (HF.out j hj).symm
      clear hT hent HP HQ HN
      have HF2 : Hid _ := HF.out
      clear HF
      refine hcut _ (fun hq rk0 => ?_) (fun hq => ?_)
      all_goals
        clear hcut
        go_wp2_with (first | (go_at_call 129; fail))
        refine henc.mono ?_
        rintro e W ⟨rfl, hb⟩
        have HT2 : Hid (De3 w (W.alloc (.cells (rowN .u8 (encP i s) 16) 207)) f i s) := (HT.out.call hb).call (below_new _ _)
        have hE : (W.alloc (.cells (rowN .u8 (encP i s) 16) 207)).heap[W.heap.size]? = some (.cells (rowN .u8 (encP i s) 16) 207) := heap_alloc_new _ _
        have hR := HT2.out.row
        have d0 : (W.alloc (.cells (rowN .u8 (encP i s) 16) 207)).cell? ⟨w.heap.size + 1 + 1, 0, none⟩ = some (.int .u16 i) := Joins.cell_of_block HT2.out.ent 0
        have d1 : (W.alloc (.cells (rowN .u8 (encP i s) 16) 207)).cell? ⟨w.heap.size + 1 + 1, 1, none⟩ = some (.string s) := Joins.cell_of_block HT2.out.ent 1
        have hres := HT2.out.res
        have HB2 : Hid (Below w.heap.size w ((W.alloc (.cells (rowN .u8 (encP i s) 16) 207)).setRow (w.heap.size + 1) #[.int .u16 i, .string s])) := below_setRow HT2.out.bel (by omega) _
        have hsame := HSame.out
        clear hb henc c0 c1
        generalize encP i s = F at *
        go_wp2_with (first | (with_reducible refine isStoreR 207 ?_; refine wpList_stNew 207 rfl (.tmp 6) (.tmp 39) rfl W.heap.size (rowN .u8 F 16) (rowN .u8 nought 16) 207 (by rw [rowN_size]; exact size204) (by rw [rowN_size, rowN_size]) (rowN_one _ _ _) rfl rfl rfl ?_) | (with_reducible refine isLoadR 207 ?_; refine wpList_ldR 207 Tryz.underlying207 rfl rfl _ rfl W.heap.size rfl (rowN .u8 F 16) 207 (0, 0) (by rw [rowN_size]; exact size204) hE ?_) | (with_reducible refine isLoadR 207 ?_; refine wpList_ldR 207 Tryz.underlying207 rfl rfl _ rfl w.heap.size rfl (rowN .u8 f 16) 207 (0, 0) (by rw [rowN_size]; exact size204) hR ?_) | (with_reducible refine isEqR 207 207 ?_; refine wpList_neN Tryz.underlying207 (by kernel_rfl) rfl _ _ rfl F f true rfl rfl hsame ?_) | (with_reducible refine isStoreR 133 ?_; refine wpList_stR 133 rfl _ _ rfl (w.heap.size + 1) #[.int .u16 i, .string s] #[.int .u16 0, .string ⟨#[]⟩] 133 (ent_info i s) (ent_two 0 i ⟨#[]⟩ s) (ent_one i s) rfl rfl hres ?_))
        exact retCT Tryz.underlying133 rfl rfl (w.heap.size + 1) #[.int .u16 i, .string s] 133 size132 rfl (setRow_heap _ _ _ _ _ _ hres) rfl ⟨rfl, HB2.out⟩
set_option maxRecDepth 20000 in
set_option maxHeartbeats 2000000 in
theorem dec18_free (w : World) (f : Nat → Int) (hf : ∀ j, j < 16 → f j = 0) :
    Calls Tryz.prog 166 #[.agg (rowN .u8 f 16)] w fun e w' => e = .returned (.tuple #[.agg #[.int .u16 0, .string ⟨#[]⟩], .int .i64 0]) ∧ Below w.heap.size w w' := by
  have z := zero132
  have z2 := zero204
  have HD : Hid _ := De3.start w f 0
  have hr1 := heap_kept (heap_alloc_new w (.cells (rowN .u8 f 16) 207)) (below_new (w.alloc (.cells (rowN .u8 f 16) 207)) (.cells #[.int .u16 0, .string ⟨#[]⟩] 133))
  have r0 := cell_rowN (i := 0) hr1 (by omega)
  have r1 := cell_rowN (i := 1) hr1 (by omega)
  rw [hf 0 (by omega)] at r0
  rw [hf 1 (by omega)] at r1
  have HSame : Hid (sameN 16 nought f = true) := (sameN_iff 16 _ _).2 fun j hj => (hf j hj).symm
  have hf2 := hf 2 (by omega)
  clear hr1 hf
  go_enter Tryz.func166, Tryz.ntmps166
  go_wp2
  generalize ((w.alloc (.cells (rowN .u8 f 16) 207)).alloc (.cells #[.int .u16 0, .string ⟨#[]⟩] 133)).alloc (.cells #[.int .u16 0, .string ⟨#[]⟩] 133) = V at *
  clear r0 r1
  go_loopw [5] (fun s5 wx => s5 = .int .i64 2 ∧ wx = V) (fun _ _ => 0)
  case atStart => exact ⟨rfl, rfl⟩
  case round =>
    obtain ⟨rfl, rfl⟩ := hrel
    have hent := HD.out.ent
    have c0 : wr.cell? ⟨w.heap.size + 1 + 1, 0, none⟩ = some (.int .u16 0) := Joins.cell_of_block hent 0
    have c1 : wr.cell? ⟨w.heap.size + 1 + 1, 1, none⟩ = some (.string ⟨#[]⟩) := Joins.cell_of_block hent 1
    have r2 := cell_rowN (i := 2) HD.out.row (by omega)
    rw [hf2] at r2
    have henc := enc18_free wr
    clear hent
    go_wp2_with (first | (go_at_call 129; fail))
    refine henc.mono ?_
    rintro e W ⟨rfl, hb⟩
    have HT2 : Hid (De3 w (W.alloc (.cells (rowN .u8 nought 16) 207)) f 0 ⟨#[]⟩) := (HD.out.call hb).call (below_new _ _)
    have hE : (W.alloc (.cells (rowN .u8 nought 16) 207)).heap[W.heap.size]? = some (.cells (rowN .u8 nought 16) 207) := heap_alloc_new _ _
    have hR := HT2.out.row
    have d0 : (W.alloc (.cells (rowN .u8 nought 16) 207)).cell? ⟨w.heap.size + 1 + 1, 0, none⟩ = some (.int .u16 0) := Joins.cell_of_block HT2.out.ent 0
    have d1 : (W.alloc (.cells (rowN .u8 nought 16) 207)).cell? ⟨w.heap.size + 1 + 1, 1, none⟩ = some (.string ⟨#[]⟩) := Joins.cell_of_block HT2.out.ent 1
    have hres := HT2.out.res
    have HB2 : Hid (Below w.heap.size w ((W.alloc (.cells (rowN .u8 nought 16) 207)).setRow (w.heap.size + 1) #[.int .u16 0, .string ⟨#[]⟩])) := below_setRow HT2.out.bel (by omega) _
    have hsame := HSame.out
    clear hb henc c0 c1 r2 HD
    go_wp2_with (first | (with_reducible refine isStoreR 207 ?_; refine wpList_stNew 207 rfl (.tmp 6) (.tmp 39) rfl W.heap.size (rowN .u8 nought 16) (rowN .u8 nought 16) 207 (by rw [rowN_size]; exact size204) rfl (rowN_one _ _ _) rfl rfl rfl ?_) | (with_reducible refine isLoadR 207 ?_; refine wpList_ldR 207 Tryz.underlying207 rfl rfl _ rfl W.heap.size rfl (rowN .u8 nought 16) 207 (0, 0) (by rw [rowN_size]; exact size204) hE ?_) | (with_reducible refine isLoadR 207 ?_; refine wpList_ldR 207 Tryz.underlying207 rfl rfl _ rfl w.heap.size rfl (rowN .u8 f 16) 207 (0, 0) (by rw [rowN_size]; exact size204) hR ?_) | (with_reducible refine isEqR 207 207 ?_; refine wpList_neN Tryz.underlying207 (by kernel_rfl) rfl _ _ rfl nought f true rfl rfl hsame ?_) | (with_reducible refine isStoreR 133 ?_; refine wpList_stR 133 rfl _ _ rfl (w.heap.size + 1) #[.int .u16 0, .string ⟨#[]⟩] #[.int .u16 0, .string ⟨#[]⟩] 133 (ent_info 0 ⟨#[]⟩) rfl (ent_one 0 ⟨#[]⟩) rfl rfl hres ?_))
    exact retCT Tryz.underlying133 rfl rfl (w.heap.size + 1) #[.int .u16 0, .string ⟨#[]⟩] 133 size132 rfl (setRow_heap _ _ _ _ _ _ hres) rfl ⟨rfl, HB2.out⟩
end Go.Proofs.YtkcgbhagjkhcmaaGreat
/- The entries of a directory, where each may be. -/
namespace Go.Proofs.YtkcgbhagjkhcmaaGreat
open Go.RowKit Go.Maps
def enE (x : Int × ByteArray) : List Value := [.int .u16 x.1, .string x.2]
theorem enE_len (x : Int × ByteArray) : (enE x).length = 2 := rfl
theorem enE_one (x : Int × ByteArray) : ∀ u ∈ enE x, u.oneCell' = true := fun u hu => by
  simp only [enE, List.mem_cons, List.not_mem_nil, or_false] at hu
  rcases hu with rfl | rfl <;> rfl
theorem info132 : (Tryz.prog.info? 133).map (fun i => (i.zero, i.size, i.bytes)) = some (some (.agg #[.int .u16 0, .string ⟨#[]⟩]), 2, 24) := by kernel_rfl
abbrev OwnE (w : World) (B : Nat) (v : Value) (l : List (Int × ByteArray)) : Prop := OwnG enE 133 2 w B v l
/-- Sixteen bytes say an entry. -/
def EntB (f : Nat → Int) (e : Int × ByteArray) : Prop := (e = (0, ⟨#[]⟩) ∧ ∀ j, j < 16 → f j = 0) ∨ ((0 < e.1 ∧ e.1 < 65536) ∧ NmOk e.2 ∧ ∀ j, j < 16 → f j = encP e.1 e.2 j)
theorem dec18_ok (w : World) (f : Nat → Int) (e : Int × ByteArray) (h : EntB f e) :
    Calls Tryz.prog 166 #[.agg (rowN .u8 f 16)] w fun r w' => r = .returned (.tuple #[.agg #[.int .u16 e.1, .string e.2], .int .i64 0]) ∧ Below w.heap.size w w' := by
  rcases h with ⟨rfl, h⟩ | ⟨h1, h2, h3⟩
  · exact dec18_free w f h
  · exact dec18_name w f e.1 h1 e.2 h2 h3
/-- The bytes of the slot k. -/
def sloP (l : List Cel) (sp : List (Int × Int)) (k : Nat) : Nat → Int := fun j => atL l (mapP sp ((k * 16 / 1024 : Nat) : Int)) (k * 16 % 1024 + j)
structure SlSt (V W : World) (gb gy : Nat) (f e : Nat → Int) (v : Value) (l : List (Int × ByteArray)) : Prop where
  own : OwnE W V.heap.size v l
  blk : W.heap[gb]? = some (.cells (blk f) 76)
  row : W.heap[gy]? = some (.cells (rowN .u8 e 16) 207)
  b1 : V.heap.size ≤ gb
  b2 : gb < gy
  bel : Below V.heap.size V W
structure SlS (V W : World) (v : Value) (l : List (Int × ByteArray)) : Prop where
  own : OwnE W V.heap.size v l
  bel : Below V.heap.size V W
theorem SlS.call {V W W' : World} {v : Value} {l : List (Int × ByteArray)} (h : SlS V W v l) (hb : Below W.heap.size W W') : SlS V W' v l := ⟨h.own.later hb, below_next h.bel hb⟩
theorem SlS.push {V W : World} {v : Value} {l : List (Int × ByteArray)} (h : SlS V W v l) (hn : l.length ≤ 10000000) (x : Int × ByteArray) (ty : TypeId) :
    ∃ v' w', (Builtin.append_ #[103, 103] ty #[v, .slice (some ⟨W.heap.size, 0, none⟩) 1 1]).run Tryz.prog (W.alloc (.cells #[.int .u16 x.1, .string x.2] 133)) = .ok v' w' ∧ Hid (SlS V w' v' (l ++ [x])) := by
  obtain ⟨i0, hi0, hz0, hz1, hz2⟩ := info_parts info132
  obtain ⟨v', w', h1, h2, h3, h4⟩ := own_pushF enE_len enE_one Tryz.underlying103 hi0 hz0 hz1 hz2 rfl (by omega) (by omega) h.own h.bel.size hn x ty
  exact ⟨v', w', h1, h2, h.bel.trans h3⟩
theorem SlSt.set {V W : World} {gb gy : Nat} {f e : Nat → Int} {v : Value} {l : List (Int × ByteArray)} (h : SlSt V W gb gy f e v l) (j : Nat) (x : Int) : SlSt V (W.setCell ⟨gy, j, none⟩ (.int .u8 x)) gb gy f (updN e j x) v l := by
  have hF := Fr.setCell W gy j (.int .u8 x)
  exact ⟨own_frame h.own hF fun b hb hT => own_ne h.own h.row (by decide) (hT ▸ hb), (hF.block _ (Array.getElem?_eq_some_iff.1 h.blk).1 (by have := h.b2; omega)).trans h.blk, setCell_rowN h.row j x, h.b1, h.b2, h.bel.trans (hF.below (fun j q => by have := h.b1; have := h.b2; omega) h.bel.size)⟩
set_option maxRecDepth 20000 in
set_option maxHeartbeats 4000000 in
theorem slots29_ok {w : World} {g : Nat} {n : Int} {l : List Cel} {y : Lay} (ha : Aud w g n l y) (x : Fl) (h : FlOk w x) (es : List (Int × ByteArray)) (hm : x.s / 16 = es.length) (hes : es.length ≤ 100000) (hok : ∀ k e, es[k]? = some e → EntB (sloP l x.sp k) e) :
    Calls Tryz.prog 125 #[.pointer (some ⟨g, 0, none⟩), .agg (flCells x).toArray] w fun r w' => ∃ v, r = .returned (.tuple #[v, .bool true]) ∧ SlS w w' v es := by
  have z := zero77
  have z1 := zero204
  have z2 := zero132
  have hx := heap_alloc_new w (.cells (flCells x).toArray 157)
  have HX : Hid _ := hx
  have HB : Hid _ := below_new w (.cells (flCells x).toArray 157)
  have HA : Hid (Aud (w.alloc (.cells (flCells x).toArray 157)) g n l y) := ha.later (below_new _ _)
  have HL : Hid (LieG pc2 2 (w.alloc (.cells (flCells x).toArray 157)) x.p x.sp) := h.lie.keep _
  obtain ⟨_, hl, hs, _⟩ := h
  have e1 : IntKind.i64.wrap x.s = x.s := by rw [IntKind.wrap_i64]; omega
  have e2 : x.s.tdiv 16 = (es.length : Int) := by rw [Int.tdiv_eq_ediv_of_nonneg (by omega)]; exact hm
  have e3 : IntKind.i64.wrap (es.length : Int) = (es.length : Int) := by rw [IntKind.wrap_i64]; omega
  have HO : Hid _ := hok
  have HC : Hid (∀ W, Below (w.alloc (.cells (flCells x).toArray 157)).heap.size (w.alloc (.cells (flCells x).toArray 157)) W → W.cell? ⟨w.heap.size, 3, none⟩ = some (.int .u32 x.s) ∧ W.cell? ⟨w.heap.size, 17, none⟩ = some (.slice x.p x.sp.length x.c)) := fun W hW => by
    obtain ⟨_, c3, _, c17⟩ := fl_cell (heap_kept HX.out hW)
    exact ⟨c3, c17⟩
  clear hx hok ha hm
  go_enter Tryz.func125, Tryz.ntmps125
  go_wp2
  generalize w.alloc (.cells (flCells x).toArray 157) = V at *
  go_loopw [6, 7, 8, 9, 10, 11, 12, 13] (fun s6 s7 s8 _ _ _ _ _ wx => ∃ k : Nat, k ≤ es.length ∧ s7 = .bool true ∧ s8 = .int .i64 k ∧ Hid (SlS V wx s6 (es.take k))) (fun _ _ s8 _ _ _ _ _ _ => es.length - (intOf s8).toNat)
  case atStart => exact ⟨0, by omega, rfl, rfl, OwnG.nil _ _, Below.refl _ _⟩
  case round =>
    obtain ⟨k, hk, rfl, rfl, HT⟩ := hrel
    obtain ⟨c3, c17⟩ := HC.out wr HT.out.bel
    by_cases hk2 : (k : Int) < (es.length : Int)
    · have hmp := mapped29_any x.c (HL.out.later HT.out.bel) hl ((k * 16 / 1024 : Nat) : Int)
      have hat := at29_any (HA.out.later HT.out.bel) (mapP x.sp ((k * 16 / 1024 : Nat) : Int))
      have hek : es[k]? = some es[k] := List.getElem?_eq_getElem (by omega)
      have HEn : Hid _ := HO.out k es[k] hek
      have HTk : Hid (es.take (k + 1) = es.take k ++ [es[k]]) := take_snoc hek
      have t1 : IntKind.i64.wrap ((k : Int) * 16) = (k : Int) * 16 := by rw [IntKind.wrap_i64]; omega
      have t2 : ((k : Int) * 16).tdiv 1024 = ((k * 16 / 1024 : Nat) : Int) := by rw [Int.tdiv_eq_ediv_of_nonneg (by omega)]; omega
      have t3 : IntKind.i64.wrap ((k * 16 / 1024 : Nat) : Int) = ((k * 16 / 1024 : Nat) : Int) := by rw [IntKind.wrap_i64]; omega
      have t4 : ((k : Int) * 16).tmod 1024 = ((k * 16 % 1024 : Nat) : Int) := by rw [Int.tmod_eq_emod_of_nonneg (by omega)]; omega
      have t5 : IntKind.i64.wrap ((k * 16 % 1024 : Nat) : Int) = ((k * 16 % 1024 : Nat) : Int) := by rw [IntKind.wrap_i64]; omega
      have hrm : k * 16 % 1024 + 16 ≤ 1024 := by omega
      have HSl : Hid (∀ j, atL l (mapP x.sp ((k * 16 / 1024 : Nat) : Int)) (k * 16 % 1024 + j) = sloP l x.sp k j) := fun j => rfl
      have hlt : (es.take k).length ≤ 100000 := by rw [List.length_take]; omega
      generalize sloP l x.sp k = fs at *
      generalize mapP x.sp ((k * 16 / 1024 : Nat) : Int) = at' at *
      generalize es[k] = en at *
      generalize k * 16 / 1024 = kq at *
      generalize k * 16 % 1024 = kr at *
      clear hek
      go_wp2_with (first | (go_at_call 165; fail))
      refine hmp.mono ?_
      rintro e W0 ⟨rfl, rfl⟩
      clear hmp
      go_wp2_with (first | (go_at_call 126; fail))
      refine hat.mono ?_
      rintro e W1 ⟨rfl, hb1⟩
      generalize atL l at' = fb at *
      have hs1 := hb1.size
      have hT1 := HT.out.call hb1
      have HSt : Hid (SlSt V ((W1.alloc (.cells (blk fb) 76)).alloc (.cells (rowN .u8 nought 16) 207)) W1.heap.size (W1.heap.size + 1) fb nought u6 (es.take k)) := by
        have h2 := (hT1.call (below_new _ (.cells (blk fb) 76))).call (below_new _ (.cells (rowN .u8 nought 16) 207))
        exact ⟨h2.own, heap_kept (heap_alloc_new _ _) (below_new _ _), heap_two _ _ _, hT1.bel.size, by omega, h2.bel⟩
      clear hat hb1 hs1 hT1 HT c3 c17
      go_wp2_with (first | (with_reducible refine isStoreR 76 ?_; refine wpList_stBn rfl (.tmp 9) (.tmp 30) rfl W1.heap.size fb nought 76 rfl rfl rfl ?_))
      generalize (W1.alloc (.cells (blk fb) 76)).alloc (.cells (rowN .u8 nought 16) 207) = X at *
      generalize W1.heap.size = gb at *
      go_loopw [11] (fun s11 wx => ∃ (j : Nat) (e : Nat → Int), j ≤ 16 ∧ s11 = .int .i64 j ∧ Hid (∀ i, i < j → e i = fs i) ∧ Hid (SlSt V wx gb (gb + 1) fb e u6 (es.take k))) (fun s11 _ => 16 - (intOf s11).toNat)
      case atStart => exact ⟨0, nought, by omega, rfl, fun i hi => absurd hi (by omega), HSt.out⟩
      case round =>
        obtain ⟨j, e, hj, rfl, HE, HJ⟩ := hrel
        by_cases hj2 : (j : Int) < 16
        · have cb := cell_rowN (i := kr + j) (m := 1024) HJ.out.blk (by omega)
          have cy := cell_rowN (i := j) HJ.out.row (by omega)
          have fy := frozen_row HJ.out.row j
          have HJ2 : Hid _ := HJ.out.set j (fb (kr + j))
          have HE2 : Hid (∀ i, i < j + 1 → updN e j (fb (kr + j)) i = fs i) := fun i hi => by
            unfold updN
            split
            · rename_i q; rw [q]; exact HSl.out j
            · exact HE.out i (by omega)
          have e6 : IntKind.i64.wrap ((kr : Int) + (j : Int)) = ((kr + j : Nat) : Int) := by rw [IntKind.wrap_i64]; omega
          have e7 : (kr : Int) + (j : Int) = ((kr + j : Nat) : Int) := by omega
          have hltm : kr + j < 1024 := by omega
          generalize fb (kr + j) = q at *
          generalize kr + j = m at *
          clear HJ HE
          go_wp2
          exact ⟨⟨j + 1, _, by omega, by go_num, HE2.out, HJ2.out⟩, by simp [intOf]; omega⟩
        · obtain rfl : j = 16 := by omega
          have hrow := HJ.out.row
          rw [show rowN .u8 e 16 = rowN .u8 fs 16 from rowN_congr HE.out] at hrow
          have hdec := dec18_ok wr fs en HEn.out
          have HS1 : Hid (SlS V wr u6 (es.take k)) := ⟨HJ.out.own, HJ.out.bel⟩
          clear HJ HE
          go_wp2_with (first | (with_reducible refine isLoadR 207 ?_; refine wpList_ldR 207 Tryz.underlying207 rfl rfl _ rfl (gb + 1) rfl (rowN .u8 fs 16) 207 (0, 0) (by rw [rowN_size]; exact size204) hrow ?_) | (go_at_call 166; fail))
          refine hdec.mono ?_
          rintro r W2 ⟨rfl, hb2⟩
          have HS2 : Hid (SlS V (W2.alloc (.cells #[.int .u16 en.1, .string en.2] 133)) u6 (es.take k)) := (HS1.out.call hb2).call (below_new _ _)
          obtain ⟨v', W3, R1, HS3⟩ := HS2.out.push (by omega) en 103
          clear hb2 hdec hrow HS1
          have he3 : (W2.alloc (.cells #[.int .u16 en.1, .string en.2] 133)).heap[W2.heap.size]? = some (.cells #[.int .u16 en.1, .string en.2] 133) := heap_alloc_new _ _
          have q0 : (W2.alloc (.cells #[.int .u16 en.1, .string en.2] 133)).cell? ⟨W2.heap.size, 0, none⟩ = some (.int .u16 en.1) := Joins.cell_of_block he3 0
          have q1 : (W2.alloc (.cells #[.int .u16 en.1, .string en.2] 133)).cell? ⟨W2.heap.size, 1, none⟩ = some (.string en.2) := Joins.cell_of_block he3 1
          clear he3 HS2
          go_upto_region 14 with fail
          generalize W2.alloc (.cells #[.int .u16 en.1, .string en.2] 133) = X2 at *
          generalize W2.heap.size = g2 at *
          have HS4 : Hid (SlS V W3 v' (es.take (k + 1))) := by rw [HTk.out]; exact HS3.out
          clear HS3 HTk
          go_wp2_with (first | (at_builtin; refine wpList_app rfl (.tmp 54) (.tmp 56) rfl rfl rfl R1 ?_))
          exact ⟨⟨k + 1, by omega, rfl, by go_num, HS4.out⟩, by simp [intOf]; omega⟩
    · obtain rfl : k = es.length := by omega
      have HR : Hid (SlS w wr u6 es) := by
        have := HT.out
        rw [List.take_length] at this
        exact ⟨this.own.mono HB.out.size, below_next HB.out this.bel⟩
      clear HT HO HL HA
      generalize es.length = N at *
      go_wp2
      exact bodyPost_ret (results_tmp2 rfl _ _ _) rfl ⟨_, rfl, HR.out⟩
end Go.Proofs.YtkcgbhagjkhcmaaGreat
/- Is there an inode of a number; its kind. -/
namespace Go.Proofs.YtkcgbhagjkhcmaaGreat
open Go.RowKit Go.Maps
/-- The kind of an inode; 0: there is none. -/
def kindP : List Fl → Int → Int
  | [], _ => 0
  | x :: t, i => if (x.inum : Int) = i then x.k else kindP t i
def usedP : List Fl → Int → Bool
  | [], _ => false
  | x :: t, i => if (x.inum : Int) = i then true else usedP t i
theorem find_skip {i : Int} : ∀ {L : List Fl} {k : Nat}, (∀ j x, j < k → L[j]? = some x → ¬ (x.inum : Int) = i) → kindP L i = kindP (L.drop k) i ∧ usedP L i = usedP (L.drop k) i
  | [], k, _ => by simp
  | a :: t, 0, _ => ⟨rfl, rfl⟩
  | a :: t, k + 1, h => by
    have h0 := h 0 a (by omega) rfl
    rw [kindP, usedP, if_neg h0, if_neg h0, List.drop_succ_cons]
    exact find_skip fun j x hj hx => h (j + 1) x (by omega) (by simpa using hx)
theorem find_hit {L : List Fl} {i : Int} {k : Nat} {x : Fl} (h : ∀ j x, j < k → L[j]? = some x → ¬ (x.inum : Int) = i) (hk : L[k]? = some x) (hs : (x.inum : Int) = i) : kindP L i = x.k ∧ usedP L i = true := by
  have q := find_skip h
  have e : L.drop k = x :: L.drop (k + 1) := by
    obtain ⟨hlt, he⟩ := List.getElem?_eq_some_iff.1 hk
    rw [← he]; exact List.drop_eq_getElem_cons hlt
  rw [q.1, q.2, e, kindP, usedP, if_pos hs, if_pos hs]
  exact ⟨rfl, rfl⟩
theorem find_none {L : List Fl} {i : Int} (h : ∀ j x, j < L.length → L[j]? = some x → ¬ (x.inum : Int) = i) : kindP L i = 0 ∧ usedP L i = false := by
  have q := find_skip h
  rw [q.1, q.2, List.drop_length]
  exact ⟨rfl, rfl⟩
set_option maxRecDepth 20000 in
set_option maxHeartbeats 1000000 in
theorem used29_any {w : World} {p : Option Addr} {L : List Fl} (c : Nat) (h : FlsAt w p L) (i : Int) :
    Calls Tryz.prog 174 #[.slice p L.length c, .int .i64 i] w fun e w' => e = .returned (.bool (usedP L i)) ∧ w' = w := by
  have HL : Hid _ := h
  have hlen := h.len
  clear h
  go_enter Tryz.func174, Tryz.ntmps174
  go_wp2
  go_loopw [5] (fun s5 wx => wx = w ∧ ∃ k : Nat, k ≤ L.length ∧ s5 = .int .i64 k ∧ Hid (∀ j x, j < k → L[j]? = some x → ¬ (x.inum : Int) = i)) (fun s5 _ => L.length - (intOf s5).toNat)
  case atStart => exact ⟨rfl, 0, by omega, rfl, fun j x hj => absurd hj (by omega)⟩
  case round =>
    obtain ⟨rfl, k, hk, rfl, HN⟩ := hrel
    by_cases hk2 : (k : Int) < (L.length : Int)
    · obtain ⟨gf, x, rfl, hxk, _, hcx⟩ := HL.out.at (i := k) (by omega)
      have c0 : wr.cell? ⟨gf, k * 18, none⟩ = some (.int .i64 (x.inum : Int)) := hcx 0 _ rfl
      have HM : Hid ((x.inum : Int) = i → usedP L i = true) := fun q => (find_hit HN.out hxk q).2
      have HN2 : Hid (¬ (x.inum : Int) = i → ∀ j x, j < k + 1 → L[j]? = some x → ¬ (x.inum : Int) = i) := fun q j x' hj hs => by
        by_cases e : j = k
        · subst e; rw [hxk] at hs; injection hs with hs; rw [← hs]; exact q
        · exact HN.out j x' (by omega) hs
      have hkl : k < L.length := by omega
      generalize (x.inum : Int) = s at *
      clear hcx HN hxk HL
      generalize hN : L.length = N at *
      by_cases e : s = i
      · have HM2 : Hid _ := HM.out e
        have g1 : (s == i) = true := by simp [e]
        clear HM HN2
        go_wp2
        go_ret
        exact ⟨by rw [HM2.out]; rfl, rfl⟩
      · have HM2 : Hid _ := HN2.out e
        have g1 : (s == i) = false := by simp [e]
        clear HM HN2
        go_wp2
        exact ⟨⟨trivial, k + 1, by omega, by go_num, HM2.out⟩, by simp [intOf]; omega⟩
    · obtain rfl : k = L.length := by omega
      have HM : Hid _ := (find_none HN.out).2
      clear HN HL
      generalize L.length = N at *
      go_wp2
      go_ret
      exact ⟨by rw [HM.out]; rfl, rfl⟩
set_option maxRecDepth 20000 in
set_option maxHeartbeats 1000000 in
theorem kind29_any {w : World} {p : Option Addr} {L : List Fl} (c : Nat) (h : FlsAt w p L) (i : Int) :
    Calls Tryz.prog 161 #[.slice p L.length c, .int .i64 i] w fun e w' => e = .returned (.int .u16 (kindP L i)) ∧ w' = w := by
  have HL : Hid _ := h
  have hlen := h.len
  clear h
  go_enter Tryz.func161, Tryz.ntmps161
  go_wp2
  go_loopw [5] (fun s5 wx => wx = w ∧ ∃ k : Nat, k ≤ L.length ∧ s5 = .int .i64 k ∧ Hid (∀ j x, j < k → L[j]? = some x → ¬ (x.inum : Int) = i)) (fun s5 _ => L.length - (intOf s5).toNat)
  case atStart => exact ⟨rfl, 0, by omega, rfl, fun j x hj => absurd hj (by omega)⟩
  case round =>
    obtain ⟨rfl, k, hk, rfl, HN⟩ := hrel
    by_cases hk2 : (k : Int) < (L.length : Int)
    · obtain ⟨gf, x, rfl, hxk, _, hcx⟩ := HL.out.at (i := k) (by omega)
      have c0 : wr.cell? ⟨gf, k * 18, none⟩ = some (.int .i64 (x.inum : Int)) := hcx 0 _ rfl
      have c1 : wr.cell? ⟨gf, k * 18 + 1, none⟩ = some (.int .u16 x.k) := hcx 1 _ rfl
      have HM : Hid ((x.inum : Int) = i → kindP L i = x.k) := fun q => (find_hit HN.out hxk q).1
      have HN2 : Hid (¬ (x.inum : Int) = i → ∀ j x, j < k + 1 → L[j]? = some x → ¬ (x.inum : Int) = i) := fun q j x' hj hs => by
        by_cases e : j = k
        · subst e; rw [hxk] at hs; injection hs with hs; rw [← hs]; exact q
        · exact HN.out j x' (by omega) hs
      have hkl : k < L.length := by omega
      generalize (x.inum : Int) = s at *
      clear hcx HN hxk HL
      generalize hN : L.length = N at *
      by_cases e : s = i
      · have HM2 : Hid _ := HM.out e
        have g1 : (s == i) = true := by simp [e]
        clear HM HN2
        go_wp2
        go_ret
        exact ⟨by rw [HM2.out]; rfl, rfl⟩
      · have HM2 : Hid _ := HN2.out e
        have g1 : (s == i) = false := by simp [e]
        clear HM HN2
        go_wp2
        exact ⟨⟨trivial, k + 1, by omega, by go_num, HM2.out⟩, by simp [intOf]; omega⟩
    · obtain rfl : k = L.length := by omega
      have HM : Hid _ := (find_none HN.out).1
      clear HN HL
      generalize L.length = N at *
      go_wp2
      go_ret
      exact ⟨by rw [HM.out]; rfl, rfl⟩
end Go.Proofs.YtkcgbhagjkhcmaaGreat
/- The directory that names an inode, and how many names it has. -/
namespace Go.Proofs.YtkcgbhagjkhcmaaGreat
open Go.RowKit Go.Maps
/-- One name more: (directory, inode). -/
def parS (i : Int) (a : Int × Int) (s : Int × Int) : Int × Int := if s.2 = i then (s.1, a.2 + 1) else a
def parP (l : List (Int × Int)) (i : Int) : Int × Int := l.foldl (parS i) (0, 0)
theorem parP_snoc (l : List (Int × Int)) (s : Int × Int) (i : Int) : parP (l ++ [s]) i = parS i (parP l i) s := by
  unfold parP
  rw [List.foldl_append]
  rfl
theorem parS_le (i : Int) (a s : Int × Int) : a.2 ≤ (parS i a s).2 ∧ (parS i a s).2 ≤ a.2 + 1 := by
  unfold parS
  split
  · exact ⟨by show a.2 ≤ a.2 + 1; omega, Int.le_refl _⟩
  · omega
theorem parF_le (i : Int) : ∀ (l : List (Int × Int)) (a : Int × Int), a.2 ≤ (l.foldl (parS i) a).2 ∧ (l.foldl (parS i) a).2 ≤ a.2 + l.length
  | [], a => by simp
  | s :: t, a => by
    have h1 := parS_le i a s
    have h2 := parF_le i t (parS i a s)
    rw [List.foldl_cons, List.length_cons]
    omega
theorem parP_le (l : List (Int × Int)) (i : Int) : 0 ≤ (parP l i).2 ∧ (parP l i).2 ≤ l.length := by
  have := parF_le i l (0, 0)
  unfold parP
  simp only [Int.zero_add] at this
  exact this
set_option maxRecDepth 20000 in
set_option maxHeartbeats 1000000 in
theorem parent29_any {w : World} {p : Option Addr} {nm : List (Int × Int)} (c : Nat) (h : LieG pc2 2 w p nm) (hl : nm.length ≤ 1000000) (i : Int) :
    Calls Tryz.prog 160 #[.slice p nm.length c, .int .i64 i] w fun e w' => e = .returned (.tuple #[.int .i64 (parP nm i).1, .int .i64 (parP nm i).2]) ∧ w' = w := by
  have HL : Hid (LieG pc2 2 w p nm) := h
  clear h
  go_enter Tryz.func160, Tryz.ntmps160
  go_wp2
  go_loopw [6, 7, 8] (fun s6 s7 s8 wx => wx = w ∧ ∃ k : Nat, k ≤ nm.length ∧ s8 = .int .i64 k ∧ s6 = .int .i64 (parP (nm.take k) i).1 ∧ s7 = .int .i64 (parP (nm.take k) i).2) (fun _ _ s8 _ => nm.length - (intOf s8).toNat)
  case atStart => exact ⟨rfl, 0, by omega, rfl, rfl, rfl⟩
  case round =>
    obtain ⟨rfl, k, hk, rfl, rfl, rfl⟩ := hrel
    by_cases hk2 : (k : Int) < (nm.length : Int)
    · obtain ⟨gf, rfl, _, hc⟩ := HL.out (by omega)
      have hsk : nm[k]? = some nm[k] := List.getElem?_eq_getElem (by omega)
      have c0 : wr.cell? ⟨gf, k * 2, none⟩ = some (.int .i64 (nm[k]).1) := hc k _ hsk 0 _ rfl
      have c1 : wr.cell? ⟨gf, k * 2 + 1, none⟩ = some (.int .i64 (nm[k]).2) := hc k _ hsk 1 _ rfl
      have HS : Hid (parP (nm.take (k + 1)) i = parS i (parP (nm.take k) i) nm[k]) := by show _ = _; rw [take_snoc hsk, parP_snoc]
      have hle := parP_le (nm.take k) i
      rw [List.length_take] at hle
      have hkl : k < nm.length := by omega
      generalize nm[k] = s at *
      obtain ⟨a, ha⟩ : ∃ a, parP (nm.take k) i = a := ⟨_, rfl⟩
      rw [ha] at HS hle ⊢
      clear hc hsk ha HL
      generalize hN : nm.length = N at *
      have ew : IntKind.i64.wrap (a.2 + 1) = a.2 + 1 := by rw [IntKind.wrap_i64]; omega
      by_cases e : s.2 = i
      · have g1 : (s.2 == i) = true := by simp [e]
        have HP : Hid (parP (nm.take (k + 1)) i = (s.1, a.2 + 1)) := by show _ = _; rw [HS.out]; unfold parS; rw [if_pos e]
        clear HS e
        go_wp2
        exact ⟨⟨trivial, k + 1, by omega, by go_num, by rw [HP.out], by rw [HP.out]⟩, by simp [intOf]; omega⟩
      · have g1 : (s.2 == i) = false := by simp [e]
        have HP : Hid (parP (nm.take (k + 1)) i = a) := by show _ = _; rw [HS.out]; unfold parS; rw [if_neg e]
        clear HS e
        go_wp2
        exact ⟨⟨trivial, k + 1, by omega, by go_num, by rw [HP.out], by rw [HP.out]⟩, by simp [intOf]; omega⟩
    · obtain rfl : k = nm.length := by omega
      rw [List.take_length]
      clear HL
      generalize nm.length = N at *
      go_wp2
      exact bodyPost_ret (results_tmp2 rfl _ _ _) rfl ⟨rfl, rfl⟩
end Go.Proofs.YtkcgbhagjkhcmaaGreat
