/- DiskScript, walked: two pairs of disks, any calls in turns; cells and calls of at most a million and some. -/
import Derived.Test.YtembocfghkmieaaK16
namespace Go.Proofs.Ytembocfghkmieaa
open Go.RowKit Go.Maps
/-- What each call of the script is handed. -/
structure ActQ (w : World) (b off : Nat) where
  o : Int
  k : Int
  pos : Int
  n : Int
  pv : Value
  kv : Value
  hb : b < w.heap.size
  range : w.rangeAt b off (actC o k pos pv n kv).toList
  ho : -9223372036854775808 ≤ o ∧ o ≤ 9223372036854775807
  inn : ActIn w pv kv n
theorem exec_ld44 {o : Oper} {a : Act} {W : World} {x : Operand} {b off : Nat} {cs : Array Value} (ho : o.op = .load 44 x) (hx : a.eval x = .pointer (some ⟨b, off, none⟩)) (hr : W.rangeAt b off cs.toList) (hs : cs.size = 6) : (execOp a.eval o).run Try.prog W = .ok (.value (.agg cs)) W := exec_ldAt ho hx (load44 hr hs)
set_option maxRecDepth 20000 in
set_option maxHeartbeats 4000000 in
theorem script_walk (n space : Int) (a : Option Addr) (clen ccap : Nat) (b off : Nat) (q : Nat → Cel) (v : Nat → Option Addr × Nat × Nat) (sa : Option Addr) (len scap : Nat) (w : World) (hc : clen ≤ 1100000) (hcan : ∀ r, Can (q r).2) (hC : CinsQ w a clen b off q v) (hl : len ≤ 1100000) (hA : ActsAt w sa len) (hQ : ∀ r, r < len → ∃ b off, sa = some ⟨b, off, none⟩ ∧ Nonempty (ActQ w b (off + r * 6))) :
    Calls Try.prog 3 #[.int .i64 n, .int .i64 space, .slice a clen ccap, .slice sa len scap] w fun e w' => e = .returned (.bool true) ∧ Below w.heap.size w w' := by
  have HIm := Hid.mk' (image_any space a clen ccap b off q v w (by omega) hC)
  have HTw : Hid (∀ (V : World) (p : Option Addr) (c : Nat), Below w.heap.size w V → ImgAt V p (celsQ q clen) → Calls Try.prog 9 #[.int .i64 n, .agg #[.int .i64 space, .slice p clen c]] V fun e W' => ∃ a b c d, e = .returned (.tuple #[.agg #[a, b], .agg #[c, d], .bool true]) ∧ TwoP w a b c d W') := fun V p c hV hI => by
    have := two_any n space p c (celsQ q clen) V hV (by rw [celsQ_len]; omega) (img_lies hI) (celsQ_can hcan clen)
    rwa [celsQ_len] at this
  have HA := Hid.mk' hA
  have HQ := Hid.mk' hQ
  clear hC hcan hA hQ
  go_enter Try.func3, Try.ntmps3
  go_wp2_with (go_at_call 10; fail)
  refine Calls.mono HIm.out ?_
  rintro e V1 ⟨p, c, rfl, hI, hb1⟩
  have HT1 := Hid.mk' (HTw.out V1 p c hb1 hI)
  clear hI hb1 HIm HTw
  go_wp2_with (go_at_call 9; fail)
  refine Calls.mono HT1.out ?_
  rintro e V2 ⟨x0, x1, y0, y1, rfl, hT⟩
  obtain ⟨o0, o1, he, k0, k1, hs⟩ := hT.rows #[.pointer none, .pointer none] #[.pointer none, .pointer none] #[x0, x1] #[y0, y1]
  obtain ⟨u0, u1, r0, r1, e0, e1, e2, e3, HU⟩ : ∃ u0 u1 r0 r1, x0 = .pointer u0 ∧ x1 = .pointer u1 ∧ y0 = .pointer r0 ∧ y1 = .pointer r1 ∧ Hid (u0 = (at2 o0).map (fun x => (⟨x.1, 0, none⟩ : Addr)) ∧ u1 = (at2 o1).map (fun x => (⟨x.1, 0, none⟩ : Addr)) ∧ r0 = (at2 o0).map (fun x => (⟨x.2, 0, none⟩ : Addr)) ∧ r1 = (at2 o1).map (fun x => (⟨x.2, 0, none⟩ : Addr))) := by
    obtain ⟨q0, q1, q2, q3⟩ := he
    rw [dpv_at] at q0 q1
    rw [rpv_at] at q2 q3
    exact ⟨_, _, _, _, q0, q1, q2, q3, rfl, rfl, rfl, rfl⟩
  subst e0 e1 e2 e3
  have hL := Lw.start hs k0 k1
  have hsz : ((((V2.alloc (.cells #[.pointer none, .pointer none] 25)).alloc (.cells #[.pointer none, .pointer none] 27)).setRow V2.heap.size #[.pointer u0, .pointer u1]).setRow (V2.heap.size + 1) #[.pointer r0, .pointer r1]).heap.size = V2.heap.size + 1 + 1 := by simp
  rw [hsz] at hL
  have HL := Hid.mk' hL
  clear hT he k0 k1 hs hL HT1 hsz
  generalize at2 o0 = c0 at *
  generalize at2 o1 = c1 at *
  go_wp2_with (first | (with_reducible refine isStoreH 25 ?_; refine wpList_stR 25 rfl (.tmp 9) (.tmp 22) rfl V2.heap.size #[.pointer u0, .pointer u1] #[.pointer none, .pointer none] 25 (size25r _ _) rfl (by simp [Value.oneCell']) rfl rfl (heap_kept (heap_alloc_new V2 _) (below_new _ _)) ?_) | (with_reducible refine isStoreH 27 ?_; refine wpList_stR 27 rfl (.tmp 10) (.tmp 23) rfl (V2.heap.size + 1) #[.pointer r0, .pointer r1] #[.pointer none, .pointer none] 27 (size27r _ _) rfl (by simp [Value.oneCell']) rfl rfl ((setRow_other _ _ _ _ (by omega)).trans (by have := heap_alloc_new (V2.alloc (.cells #[.pointer none, .pointer none] 25)) (.cells #[.pointer none, .pointer none] 27); simpa using this)) ?_))
  generalize World.alloc _ (.cells #[.slice none 0 0, .slice none 0 0, .slice none 0 0, .slice none 0 0, .slice none 0 0, .slice none 0 0] 39) = V3 at *
  generalize V2.heap.size + 1 + 1 = gy at *
  generalize V2.heap.size + 1 = g10 at *
  generalize V2.heap.size = g9 at *
  go_loopw [13] (fun s13 wx => ∃ i : Nat, i ≤ len ∧ s13 = .int .i64 i ∧ Hid (Lw w gy i [boxP g10 (.cells #[.pointer r0, .pointer r1] 27), boxP g9 (.cells #[.pointer u0, .pointer u1] 25)] c0 c1 wx)) (fun s13 _ => len - (intOf s13).toNat)
  case atStart => exact ⟨0, by omega, rfl, HL.out⟩
  case round =>
    obtain ⟨i, hi, rfl, HB⟩ := hrel
    clear HL
    by_cases hi2 : (i : Int) < len
    · obtain ⟨ab, ao, rfl, ⟨A⟩⟩ := HQ.out i (by omega)
      have rng := range_later A.range HB.out.below A.hb
      have q0 : wr.cell? ⟨ab, ao + i * 6, none⟩ = some (.int .i64 A.o) := by have := rng 0 _ rfl; rwa [Nat.add_zero] at this
      have k10 := HB.out.box (b := g10) (o := .cells #[.pointer r0, .pointer r1] 27) (by simp)
      have k9 := HB.out.box (b := g9) (o := .cells #[.pointer u0, .pointer u1] 25) (by simp)
      have HR := Hid.mk' (And.intro k9 (And.intro k10 rng))
      have HIn := Hid.mk' A.inn
      have HRg : Hid (∀ V, Below w.heap.size w V → V.rangeAt ab (ao + i * 6) (actC A.o A.k A.pos A.pv A.n A.kv).toList) := fun V hV => range_later A.range hV A.hb
      have hk : A.o % 2 = 0 ∨ A.o % 2 = 1 := by omega
      generalize A.k = kk at *
      generalize A.pos = pos at *
      generalize A.n = nn at *
      generalize A.pv = pv at *
      generalize A.kv = kv at *
      generalize hAo : A.o = on at *
      clear hAo
      have hPk := pick_any on 2 (by omega) wr
      have HPk := Hid.mk' hPk
      clear rng hPk
      go_wp2_with (go_at_call 11; fail)
      refine Calls.mono HPk.out ?_
      rintro e W' ⟨rfl, rfl⟩
      clear HPk q0
      rcases hk with hk | hk
      all_goals rw [hk]
      · rcases c0 with _ | ⟨d, g⟩
        · have er : r0 = none := HU.out.2.2.1
          have q1 : W'.cell? ⟨g10, 0, none⟩ = some (.pointer none) := by rw [← er]; exact Joins.cell_of_block k10 0
          have HB2 := Hid.mk' (HB.out.mono (show i ≤ i + 1 by omega))
          clear er HB HR HIn k9 k10
          go_wp2
          exact ⟨⟨i + 1, by omega, by go_num, HB2.out⟩, by simp [intOf]; omega⟩
        · have er : r0 = some ⟨g, 0, none⟩ := HU.out.2.2.1
          have eu : u0 = some ⟨d, 0, none⟩ := HU.out.1
          have q1 : W'.cell? ⟨g10, 0, none⟩ = some (.pointer (some ⟨g, 0, none⟩)) := by rw [← er]; exact Joins.cell_of_block k10 0
          have Hr := Hid.mk' er
          have Hu := Hid.mk' eu
          have HB2 := Hid.mk' (HB.out.later (show Below W'.heap.size W' W'.drew from ⟨rfl, rfl, rfl, Nat.le_refl _, fun _ _ => rfl⟩))
          have HAc := Hid.mk' (Lw.act HB2.out (by omega) on kk pos nn HIn.out)
          clear er eu k9 k10 HB HIn
          go_wp2
          refine wp_region_ord (S := fun u => u.heap[g9]? = some (.cells #[.pointer u0, .pointer u1] 25) ∧ u.heap[g10]? = some (.cells #[.pointer r0, .pointer r1] 27) ∧ u.rangeAt ab (ao + i * 6) (actC on kk pos pv nn kv).toList) [(0, true), (1, true), (2, true), (3, true), (4, true), (5, true), (6, true), (7, true), (8, true), (9, true), (10, true), (11, false), (12, true)]
            (by kernel_rfl) rfl (by kernel_rfl) (fun d _ _ _ _ h => by cases d <;> exact h) HR.out ?_
          generalize W'.drew = V5 at *
          simp only [inOrd, List.getElem?_cons_zero, List.getElem?_cons_succ]
          refine wpOrd_yield (v := .pointer (some ⟨gy, 0, none⟩)) rfl (fun u _ => exec_mv rfl rfl) ?_
          simp only [Act.put, List.setIfInBounds_toArray, List.set_cons_succ, List.set_cons_zero]
          refine wpOrd_yield (v := .int .i64 0) rfl (fun u _ => exec_mv rfl rfl) ?_
          simp only [Act.put, List.setIfInBounds_toArray, List.set_cons_succ, List.set_cons_zero]
          refine wpOrd_yield (v := .pointer (some ⟨g9, 0, none⟩)) rfl (fun u _ => by go_simp) ?_
          simp only [Act.put, List.setIfInBounds_toArray, List.set_cons_succ, List.set_cons_zero]
          refine wpOrd_yield (v := .pointer (some ⟨d, 0, none⟩)) rfl (fun u hu => by have hq : u.cell? ⟨g9, 0, none⟩ = some (.pointer (some ⟨d, 0, none⟩)) := (Joins.cell_of_block hu.1 0).trans (by rw [← Hu.out]; rfl); go_simp) ?_
          simp only [Act.put, List.setIfInBounds_toArray, List.set_cons_succ, List.set_cons_zero]
          refine wpOrd_yield (v := .int .i64 0) rfl (fun u _ => exec_mv rfl rfl) ?_
          simp only [Act.put, List.setIfInBounds_toArray, List.set_cons_succ, List.set_cons_zero]
          refine wpOrd_yield (v := .pointer (some ⟨g10, 0, none⟩)) rfl (fun u _ => by go_simp) ?_
          simp only [Act.put, List.setIfInBounds_toArray, List.set_cons_succ, List.set_cons_zero]
          refine wpOrd_yield (v := .pointer (some ⟨g, 0, none⟩)) rfl (fun u hu => by have hq : u.cell? ⟨g10, 0, none⟩ = some (.pointer (some ⟨g, 0, none⟩)) := (Joins.cell_of_block hu.2.1 0).trans (by rw [← Hr.out]; rfl); go_simp) ?_
          simp only [Act.put, List.setIfInBounds_toArray, List.set_cons_succ, List.set_cons_zero]
          refine wpOrd_yield (v := .slice (some ⟨ab, ao, none⟩) len scap) rfl (fun u _ => exec_mv rfl rfl) ?_
          simp only [Act.put, List.setIfInBounds_toArray, List.set_cons_succ, List.set_cons_zero]
          refine wpOrd_yield (v := .int .i64 (i : Int)) rfl (fun u _ => exec_mv rfl rfl) ?_
          simp only [Act.put, List.setIfInBounds_toArray, List.set_cons_succ, List.set_cons_zero]
          refine wpOrd_yield (v := .pointer (some ⟨ab, ao + i * 6, none⟩)) rfl (fun u _ => by go_simp) ?_
          simp only [Act.put, List.setIfInBounds_toArray, List.set_cons_succ, List.set_cons_zero]
          refine wpOrd_yield (v := .agg (actC on kk pos pv nn kv)) rfl (fun u hu => exec_ld44 rfl rfl hu.2.2 rfl) ?_
          simp only [Act.put, List.setIfInBounds_toArray, List.set_cons_succ, List.set_cons_zero]
          refine wpOrd_call rfl 12 _ _ rfl Try.call12 [.pointer (some ⟨gy, 0, none⟩), .pointer (some ⟨d, 0, none⟩), .pointer (some ⟨g, 0, none⟩), .agg (actC on kk pos pv nn kv)] rfl ?_
          refine Calls.mono HAc.out ?_
          rintro e V6 ⟨rfl, h6⟩
          have h7 := h6
          have j10 := h7.box (b := g10) (o := .cells #[.pointer r0, .pointer r1] 27) (by simp)
          have j9 := h7.box (b := g9) (o := .cells #[.pointer u0, .pointer u1] 25) (by simp)
          have H7 := Hid.mk' h7
          refine ⟨_, rfl, ⟨j9, j10, HRg.out V6 h7.below⟩, ?_⟩
          simp only [Act.put, List.setIfInBounds_toArray, List.set_cons_succ, List.set_cons_zero]
          clear h6 h7 j10 j9 HAc HB2 HR
          refine wpOrd_yield (v := .bool false) rfl (fun u _ => by go_simp) ?_
          simp only [Act.put, List.setIfInBounds_toArray, List.set_cons_succ, List.set_cons_zero]
          refine wpOrd_nil ?_
          try simp only [Act.put]
          go_wp2
          exact ⟨⟨i + 1, by omega, by go_num, H7.out⟩, by simp [intOf]; omega⟩
      · rcases c1 with _ | ⟨d, g⟩
        · have er : r1 = none := HU.out.2.2.2
          have q1 : W'.cell? ⟨g10, 1, none⟩ = some (.pointer none) := by rw [← er]; exact Joins.cell_of_block k10 1
          have HB2 := Hid.mk' (HB.out.mono (show i ≤ i + 1 by omega))
          clear er HB HR HIn k9 k10
          go_wp2
          exact ⟨⟨i + 1, by omega, by go_num, HB2.out⟩, by simp [intOf]; omega⟩
        · have er : r1 = some ⟨g, 0, none⟩ := HU.out.2.2.2
          have eu : u1 = some ⟨d, 0, none⟩ := HU.out.2.1
          have q1 : W'.cell? ⟨g10, 1, none⟩ = some (.pointer (some ⟨g, 0, none⟩)) := by rw [← er]; exact Joins.cell_of_block k10 1
          have Hr := Hid.mk' er
          have Hu := Hid.mk' eu
          have HB2 := Hid.mk' (HB.out.later (show Below W'.heap.size W' W'.drew from ⟨rfl, rfl, rfl, Nat.le_refl _, fun _ _ => rfl⟩))
          have HAc := Hid.mk' (Lw.act HB2.out.swap (by omega) on kk pos nn HIn.out)
          clear er eu k9 k10 HB HIn
          go_wp2
          refine wp_region_ord (S := fun u => u.heap[g9]? = some (.cells #[.pointer u0, .pointer u1] 25) ∧ u.heap[g10]? = some (.cells #[.pointer r0, .pointer r1] 27) ∧ u.rangeAt ab (ao + i * 6) (actC on kk pos pv nn kv).toList) [(0, true), (1, true), (2, true), (3, true), (4, true), (5, true), (6, true), (7, true), (8, true), (9, true), (10, true), (11, false), (12, true)]
            (by kernel_rfl) rfl (by kernel_rfl) (fun d _ _ _ _ h => by cases d <;> exact h) HR.out ?_
          generalize W'.drew = V5 at *
          simp only [inOrd, List.getElem?_cons_zero, List.getElem?_cons_succ]
          refine wpOrd_yield (v := .pointer (some ⟨gy, 0, none⟩)) rfl (fun u _ => exec_mv rfl rfl) ?_
          simp only [Act.put, List.setIfInBounds_toArray, List.set_cons_succ, List.set_cons_zero]
          refine wpOrd_yield (v := .int .i64 1) rfl (fun u _ => exec_mv rfl rfl) ?_
          simp only [Act.put, List.setIfInBounds_toArray, List.set_cons_succ, List.set_cons_zero]
          refine wpOrd_yield (v := .pointer (some ⟨g9, 1, none⟩)) rfl (fun u _ => by go_simp) ?_
          simp only [Act.put, List.setIfInBounds_toArray, List.set_cons_succ, List.set_cons_zero]
          refine wpOrd_yield (v := .pointer (some ⟨d, 0, none⟩)) rfl (fun u hu => by have hq : u.cell? ⟨g9, 1, none⟩ = some (.pointer (some ⟨d, 0, none⟩)) := (Joins.cell_of_block hu.1 1).trans (by rw [← Hu.out]; rfl); go_simp) ?_
          simp only [Act.put, List.setIfInBounds_toArray, List.set_cons_succ, List.set_cons_zero]
          refine wpOrd_yield (v := .int .i64 1) rfl (fun u _ => exec_mv rfl rfl) ?_
          simp only [Act.put, List.setIfInBounds_toArray, List.set_cons_succ, List.set_cons_zero]
          refine wpOrd_yield (v := .pointer (some ⟨g10, 1, none⟩)) rfl (fun u _ => by go_simp) ?_
          simp only [Act.put, List.setIfInBounds_toArray, List.set_cons_succ, List.set_cons_zero]
          refine wpOrd_yield (v := .pointer (some ⟨g, 0, none⟩)) rfl (fun u hu => by have hq : u.cell? ⟨g10, 1, none⟩ = some (.pointer (some ⟨g, 0, none⟩)) := (Joins.cell_of_block hu.2.1 1).trans (by rw [← Hr.out]; rfl); go_simp) ?_
          simp only [Act.put, List.setIfInBounds_toArray, List.set_cons_succ, List.set_cons_zero]
          refine wpOrd_yield (v := .slice (some ⟨ab, ao, none⟩) len scap) rfl (fun u _ => exec_mv rfl rfl) ?_
          simp only [Act.put, List.setIfInBounds_toArray, List.set_cons_succ, List.set_cons_zero]
          refine wpOrd_yield (v := .int .i64 (i : Int)) rfl (fun u _ => exec_mv rfl rfl) ?_
          simp only [Act.put, List.setIfInBounds_toArray, List.set_cons_succ, List.set_cons_zero]
          refine wpOrd_yield (v := .pointer (some ⟨ab, ao + i * 6, none⟩)) rfl (fun u _ => by go_simp) ?_
          simp only [Act.put, List.setIfInBounds_toArray, List.set_cons_succ, List.set_cons_zero]
          refine wpOrd_yield (v := .agg (actC on kk pos pv nn kv)) rfl (fun u hu => exec_ld44 rfl rfl hu.2.2 rfl) ?_
          simp only [Act.put, List.setIfInBounds_toArray, List.set_cons_succ, List.set_cons_zero]
          refine wpOrd_call rfl 12 _ _ rfl Try.call12 [.pointer (some ⟨gy, 0, none⟩), .pointer (some ⟨d, 0, none⟩), .pointer (some ⟨g, 0, none⟩), .agg (actC on kk pos pv nn kv)] rfl ?_
          refine Calls.mono HAc.out ?_
          rintro e V6 ⟨rfl, h6⟩
          have h7 := h6.swap
          have j10 := h7.box (b := g10) (o := .cells #[.pointer r0, .pointer r1] 27) (by simp)
          have j9 := h7.box (b := g9) (o := .cells #[.pointer u0, .pointer u1] 25) (by simp)
          have H7 := Hid.mk' h7
          refine ⟨_, rfl, ⟨j9, j10, HRg.out V6 h7.below⟩, ?_⟩
          simp only [Act.put, List.setIfInBounds_toArray, List.set_cons_succ, List.set_cons_zero]
          clear h6 h7 j10 j9 HAc HB2 HR
          refine wpOrd_yield (v := .bool false) rfl (fun u _ => by go_simp) ?_
          simp only [Act.put, List.setIfInBounds_toArray, List.set_cons_succ, List.set_cons_zero]
          refine wpOrd_nil ?_
          try simp only [Act.put]
          go_wp2
          exact ⟨⟨i + 1, by omega, by go_num, H7.out⟩, by simp [intOf]; omega⟩
    · obtain rfl : i = len := by omega
      clear HQ
      go_wp2
      go_loopw [15] (fun s15 wx => ∃ k : Nat, k ≤ 2 ∧ s15 = .int .i64 k ∧ Hid (Lw w gy (i + k * (2 * i + 4)) [boxP g10 (.cells #[.pointer r0, .pointer r1] 27), boxP g9 (.cells #[.pointer u0, .pointer u1] 25)] c0 c1 wx)) (fun s15 _ => 2 - (intOf s15).toNat)
      case atStart => exact ⟨0, by omega, rfl, by have h := HB.out; rwa [Nat.zero_mul, Nat.add_zero]⟩
      case round =>
        clear HB
        obtain ⟨k, hk, rfl, HB⟩ := hrel
        have k10 := HB.out.box (b := g10) (o := .cells #[.pointer r0, .pointer r1] 27) (by simp)
        have k9 := HB.out.box (b := g9) (o := .cells #[.pointer u0, .pointer u1] 25) (by simp)
        by_cases hk2 : k < 2
        · have hkk : k = 0 ∨ k = 1 := by omega
          rcases hkk with rfl | rfl
          · rcases c0 with _ | ⟨d, g⟩
            · have er : r0 = none := HU.out.2.2.1
              have Hr := Hid.mk' er
              have HB2 : Hid (Lw w gy (i + (0 + 1) * (2 * i + 4)) _ _ _ wr.drew) := (HB.out.mono (show i + 0 * (2 * i + 4) ≤ i + (0 + 1) * (2 * i + 4) by omega)).later (show Below wr.heap.size wr wr.drew from ⟨rfl, rfl, rfl, Nat.le_refl _, fun _ _ => rfl⟩)
              clear er HB
              go_wp2
              refine wp_region_ord (S := fun u => u.heap[g9]? = some (.cells #[.pointer u0, .pointer u1] 25) ∧ u.heap[g10]? = some (.cells #[.pointer r0, .pointer r1] 27)) [(0, true), (1, true), (2, true), (3, true), (4, true), (5, true), (6, true), (7, true), (8, true), (9, true), (10, true), (11, true), (12, true), (13, false), (14, true), (15, true)]
                (by kernel_rfl) rfl (by kernel_rfl) (fun d _ _ _ _ h => by cases d <;> exact h) ⟨k9, k10⟩ ?_
              have HR : Hid (wr.drew.heap[g9]? = some (.cells #[.pointer u0, .pointer u1] 25) ∧ wr.drew.heap[g10]? = some (.cells #[.pointer r0, .pointer r1] 27)) := ⟨k9, k10⟩
              clear k9 k10
              generalize wr.drew = V5 at *
              simp only [inOrd, List.getElem?_cons_zero, List.getElem?_cons_succ]
              refine wpOrd_yield (v := .int .i64 0) rfl (fun u _ => exec_mv rfl rfl) ?_
              simp only [Act.put, List.setIfInBounds_toArray, List.set_cons_succ, List.set_cons_zero]
              refine wpOrd_yield (v := .pointer (some ⟨g10, 0, none⟩)) rfl (fun u _ => by go_simp) ?_
              simp only [Act.put, List.setIfInBounds_toArray, List.set_cons_succ, List.set_cons_zero]
              refine wpOrd_yield (v := .pointer none) rfl (fun u hu => by have hq : u.cell? ⟨g10, 0, none⟩ = some (.pointer none) := (Joins.cell_of_block hu.2 0).trans (by rw [← Hr.out]; rfl); go_simp) ?_
              simp only [Act.put, List.setIfInBounds_toArray, List.set_cons_succ, List.set_cons_zero]
              refine wpOrd_yield (v := .bool false) rfl (fun u _ => by go_simp) ?_
              simp only [Act.put, List.setIfInBounds_toArray, List.set_cons_succ, List.set_cons_zero]
              refine wpOrd_yield (v := .bool false) rfl (fun u _ => exec_mv rfl rfl) ?_
              simp only [Act.put, List.setIfInBounds_toArray, List.set_cons_succ, List.set_cons_zero]
              refine wpOrd_skip HR.out rfl ?_
              simp only [Act.put, List.setIfInBounds_toArray, List.set_cons_succ, List.set_cons_zero]
              refine wpOrd_skip HR.out rfl ?_
              simp only [Act.put, List.setIfInBounds_toArray, List.set_cons_succ, List.set_cons_zero]
              refine wpOrd_skip HR.out rfl ?_
              simp only [Act.put, List.setIfInBounds_toArray, List.set_cons_succ, List.set_cons_zero]
              refine wpOrd_skip HR.out rfl ?_
              simp only [Act.put, List.setIfInBounds_toArray, List.set_cons_succ, List.set_cons_zero]
              refine wpOrd_skip HR.out rfl ?_
              simp only [Act.put, List.setIfInBounds_toArray, List.set_cons_succ, List.set_cons_zero]
              refine wpOrd_skip HR.out rfl ?_
              simp only [Act.put, List.setIfInBounds_toArray, List.set_cons_succ, List.set_cons_zero]
              refine wpOrd_skip HR.out rfl ?_
              simp only [Act.put, List.setIfInBounds_toArray, List.set_cons_succ, List.set_cons_zero]
              refine wpOrd_skip HR.out rfl ?_
              simp only [Act.put, List.setIfInBounds_toArray, List.set_cons_succ, List.set_cons_zero]
              refine wpOrd_skip HR.out rfl ?_
              simp only [Act.put, List.setIfInBounds_toArray, List.set_cons_succ, List.set_cons_zero]
              refine wpOrd_skip HR.out rfl ?_
              simp only [Act.put, List.setIfInBounds_toArray, List.set_cons_succ, List.set_cons_zero]
              refine wpOrd_yield (v := .bool false) rfl (fun u _ => by go_simp) ?_
              simp only [Act.put, List.setIfInBounds_toArray, List.set_cons_succ, List.set_cons_zero]
              refine wpOrd_nil ?_
              try simp only [Act.put]
              go_wp2
              exact ⟨⟨0 + 1, by omega, by go_num, HB2.out⟩, by simp [intOf]⟩
            · have er : r0 = some ⟨g, 0, none⟩ := HU.out.2.2.1
              have eu : u0 = some ⟨d, 0, none⟩ := HU.out.1
              have Hr := Hid.mk' er
              have Hu := Hid.mk' eu
              have hB2 := HB.out.later (show Below wr.heap.size wr wr.drew from ⟨rfl, rfl, rfl, Nat.le_refl _, fun _ _ => rfl⟩)
              have HWh := Hid.mk' (Lw.whole hB2 sa i scap HA.out (by omega))
              clear er eu HB hB2
              go_wp2
              refine wp_region_ord (S := fun u => u.heap[g9]? = some (.cells #[.pointer u0, .pointer u1] 25) ∧ u.heap[g10]? = some (.cells #[.pointer r0, .pointer r1] 27)) [(0, true), (1, true), (2, true), (3, true), (4, true), (5, true), (6, true), (7, true), (8, true), (9, true), (10, true), (11, true), (12, true), (13, false), (14, true), (15, true)]
                (by kernel_rfl) rfl (by kernel_rfl) (fun d _ _ _ _ h => by cases d <;> exact h) ⟨k9, k10⟩ ?_
              have HR : Hid (wr.drew.heap[g9]? = some (.cells #[.pointer u0, .pointer u1] 25) ∧ wr.drew.heap[g10]? = some (.cells #[.pointer r0, .pointer r1] 27)) := ⟨k9, k10⟩
              clear k9 k10
              generalize wr.drew = V5 at *
              simp only [inOrd, List.getElem?_cons_zero, List.getElem?_cons_succ]
              refine wpOrd_yield (v := .int .i64 0) rfl (fun u _ => exec_mv rfl rfl) ?_
              simp only [Act.put, List.setIfInBounds_toArray, List.set_cons_succ, List.set_cons_zero]
              refine wpOrd_yield (v := .pointer (some ⟨g10, 0, none⟩)) rfl (fun u _ => by go_simp) ?_
              simp only [Act.put, List.setIfInBounds_toArray, List.set_cons_succ, List.set_cons_zero]
              refine wpOrd_yield (v := .pointer (some ⟨g, 0, none⟩)) rfl (fun u hu => by have hq : u.cell? ⟨g10, 0, none⟩ = some (.pointer (some ⟨g, 0, none⟩)) := (Joins.cell_of_block hu.2 0).trans (by rw [← Hr.out]; rfl); go_simp) ?_
              simp only [Act.put, List.setIfInBounds_toArray, List.set_cons_succ, List.set_cons_zero]
              refine wpOrd_yield (v := .bool true) rfl (fun u _ => by go_simp) ?_
              simp only [Act.put, List.setIfInBounds_toArray, List.set_cons_succ, List.set_cons_zero]
              refine wpOrd_yield (v := .bool true) rfl (fun u _ => exec_mv rfl rfl) ?_
              simp only [Act.put, List.setIfInBounds_toArray, List.set_cons_succ, List.set_cons_zero]
              refine wpOrd_yield (v := .pointer (some ⟨gy, 0, none⟩)) rfl (fun u _ => exec_mv rfl rfl) ?_
              simp only [Act.put, List.setIfInBounds_toArray, List.set_cons_succ, List.set_cons_zero]
              refine wpOrd_yield (v := .int .i64 0) rfl (fun u _ => exec_mv rfl rfl) ?_
              simp only [Act.put, List.setIfInBounds_toArray, List.set_cons_succ, List.set_cons_zero]
              refine wpOrd_yield (v := .pointer (some ⟨g9, 0, none⟩)) rfl (fun u _ => by go_simp) ?_
              simp only [Act.put, List.setIfInBounds_toArray, List.set_cons_succ, List.set_cons_zero]
              refine wpOrd_yield (v := .pointer (some ⟨d, 0, none⟩)) rfl (fun u hu => by have hq : u.cell? ⟨g9, 0, none⟩ = some (.pointer (some ⟨d, 0, none⟩)) := (Joins.cell_of_block hu.1 0).trans (by rw [← Hu.out]; rfl); go_simp) ?_
              simp only [Act.put, List.setIfInBounds_toArray, List.set_cons_succ, List.set_cons_zero]
              refine wpOrd_yield (v := .int .i64 0) rfl (fun u _ => exec_mv rfl rfl) ?_
              simp only [Act.put, List.setIfInBounds_toArray, List.set_cons_succ, List.set_cons_zero]
              refine wpOrd_yield (v := .pointer (some ⟨g10, 0, none⟩)) rfl (fun u _ => by go_simp) ?_
              simp only [Act.put, List.setIfInBounds_toArray, List.set_cons_succ, List.set_cons_zero]
              refine wpOrd_yield (v := .pointer (some ⟨g, 0, none⟩)) rfl (fun u hu => by have hq : u.cell? ⟨g10, 0, none⟩ = some (.pointer (some ⟨g, 0, none⟩)) := (Joins.cell_of_block hu.2 0).trans (by rw [← Hr.out]; rfl); go_simp) ?_
              simp only [Act.put, List.setIfInBounds_toArray, List.set_cons_succ, List.set_cons_zero]
              refine wpOrd_yield (v := .slice sa i scap) rfl (fun u _ => exec_mv rfl rfl) ?_
              simp only [Act.put, List.setIfInBounds_toArray, List.set_cons_succ, List.set_cons_zero]
              refine wpOrd_call rfl 13 _ _ rfl Try.call13 [.pointer (some ⟨gy, 0, none⟩), .pointer (some ⟨d, 0, none⟩), .pointer (some ⟨g, 0, none⟩), .slice sa i scap] rfl ?_
              refine Calls.mono HWh.out ?_
              rintro e V6 ⟨rfl, h6⟩
              have h7 := h6
              have e7 : i + 0 * (2 * i + 4) + 2 * i + 4 = i + (0 + 1) * (2 * i + 4) := by omega
              rw [e7] at h7
              have j10 := h7.box (b := g10) (o := .cells #[.pointer r0, .pointer r1] 27) (by simp)
              have j9 := h7.box (b := g9) (o := .cells #[.pointer u0, .pointer u1] 25) (by simp)
              have H7 := Hid.mk' h7
              refine ⟨_, rfl, ⟨j9, j10⟩, ?_⟩
              simp only [Act.put, List.setIfInBounds_toArray, List.set_cons_succ, List.set_cons_zero]
              clear h6 h7 j10 j9 HWh HR e7
              refine wpOrd_yield (v := .bool false) rfl (fun u _ => by go_simp) ?_
              simp only [Act.put, List.setIfInBounds_toArray, List.set_cons_succ, List.set_cons_zero]
              refine wpOrd_yield (v := .bool false) rfl (fun u _ => by go_simp) ?_
              simp only [Act.put, List.setIfInBounds_toArray, List.set_cons_succ, List.set_cons_zero]
              refine wpOrd_nil ?_
              try simp only [Act.put]
              go_wp2
              exact ⟨⟨0 + 1, by omega, by go_num, H7.out⟩, by simp [intOf]⟩
          · rcases c1 with _ | ⟨d, g⟩
            · have er : r1 = none := HU.out.2.2.2
              have Hr := Hid.mk' er
              have HB2 : Hid (Lw w gy (i + (1 + 1) * (2 * i + 4)) _ _ _ wr.drew) := (HB.out.mono (show i + 1 * (2 * i + 4) ≤ i + (1 + 1) * (2 * i + 4) by omega)).later (show Below wr.heap.size wr wr.drew from ⟨rfl, rfl, rfl, Nat.le_refl _, fun _ _ => rfl⟩)
              clear er HB
              go_wp2
              refine wp_region_ord (S := fun u => u.heap[g9]? = some (.cells #[.pointer u0, .pointer u1] 25) ∧ u.heap[g10]? = some (.cells #[.pointer r0, .pointer r1] 27)) [(0, true), (1, true), (2, true), (3, true), (4, true), (5, true), (6, true), (7, true), (8, true), (9, true), (10, true), (11, true), (12, true), (13, false), (14, true), (15, true)]
                (by kernel_rfl) rfl (by kernel_rfl) (fun d _ _ _ _ h => by cases d <;> exact h) ⟨k9, k10⟩ ?_
              have HR : Hid (wr.drew.heap[g9]? = some (.cells #[.pointer u0, .pointer u1] 25) ∧ wr.drew.heap[g10]? = some (.cells #[.pointer r0, .pointer r1] 27)) := ⟨k9, k10⟩
              clear k9 k10
              generalize wr.drew = V5 at *
              simp only [inOrd, List.getElem?_cons_zero, List.getElem?_cons_succ]
              refine wpOrd_yield (v := .int .i64 1) rfl (fun u _ => exec_mv rfl rfl) ?_
              simp only [Act.put, List.setIfInBounds_toArray, List.set_cons_succ, List.set_cons_zero]
              refine wpOrd_yield (v := .pointer (some ⟨g10, 1, none⟩)) rfl (fun u _ => by go_simp) ?_
              simp only [Act.put, List.setIfInBounds_toArray, List.set_cons_succ, List.set_cons_zero]
              refine wpOrd_yield (v := .pointer none) rfl (fun u hu => by have hq : u.cell? ⟨g10, 1, none⟩ = some (.pointer none) := (Joins.cell_of_block hu.2 1).trans (by rw [← Hr.out]; rfl); go_simp) ?_
              simp only [Act.put, List.setIfInBounds_toArray, List.set_cons_succ, List.set_cons_zero]
              refine wpOrd_yield (v := .bool false) rfl (fun u _ => by go_simp) ?_
              simp only [Act.put, List.setIfInBounds_toArray, List.set_cons_succ, List.set_cons_zero]
              refine wpOrd_yield (v := .bool false) rfl (fun u _ => exec_mv rfl rfl) ?_
              simp only [Act.put, List.setIfInBounds_toArray, List.set_cons_succ, List.set_cons_zero]
              refine wpOrd_skip HR.out rfl ?_
              simp only [Act.put, List.setIfInBounds_toArray, List.set_cons_succ, List.set_cons_zero]
              refine wpOrd_skip HR.out rfl ?_
              simp only [Act.put, List.setIfInBounds_toArray, List.set_cons_succ, List.set_cons_zero]
              refine wpOrd_skip HR.out rfl ?_
              simp only [Act.put, List.setIfInBounds_toArray, List.set_cons_succ, List.set_cons_zero]
              refine wpOrd_skip HR.out rfl ?_
              simp only [Act.put, List.setIfInBounds_toArray, List.set_cons_succ, List.set_cons_zero]
              refine wpOrd_skip HR.out rfl ?_
              simp only [Act.put, List.setIfInBounds_toArray, List.set_cons_succ, List.set_cons_zero]
              refine wpOrd_skip HR.out rfl ?_
              simp only [Act.put, List.setIfInBounds_toArray, List.set_cons_succ, List.set_cons_zero]
              refine wpOrd_skip HR.out rfl ?_
              simp only [Act.put, List.setIfInBounds_toArray, List.set_cons_succ, List.set_cons_zero]
              refine wpOrd_skip HR.out rfl ?_
              simp only [Act.put, List.setIfInBounds_toArray, List.set_cons_succ, List.set_cons_zero]
              refine wpOrd_skip HR.out rfl ?_
              simp only [Act.put, List.setIfInBounds_toArray, List.set_cons_succ, List.set_cons_zero]
              refine wpOrd_skip HR.out rfl ?_
              simp only [Act.put, List.setIfInBounds_toArray, List.set_cons_succ, List.set_cons_zero]
              refine wpOrd_yield (v := .bool false) rfl (fun u _ => by go_simp) ?_
              simp only [Act.put, List.setIfInBounds_toArray, List.set_cons_succ, List.set_cons_zero]
              refine wpOrd_nil ?_
              try simp only [Act.put]
              go_wp2
              exact ⟨⟨1 + 1, by omega, by go_num, HB2.out⟩, by simp [intOf]⟩
            · have er : r1 = some ⟨g, 0, none⟩ := HU.out.2.2.2
              have eu : u1 = some ⟨d, 0, none⟩ := HU.out.2.1
              have Hr := Hid.mk' er
              have Hu := Hid.mk' eu
              have hB2 := HB.out.later (show Below wr.heap.size wr wr.drew from ⟨rfl, rfl, rfl, Nat.le_refl _, fun _ _ => rfl⟩)
              have HWh := Hid.mk' (Lw.whole hB2.swap sa i scap HA.out (by omega))
              clear er eu HB hB2
              go_wp2
              refine wp_region_ord (S := fun u => u.heap[g9]? = some (.cells #[.pointer u0, .pointer u1] 25) ∧ u.heap[g10]? = some (.cells #[.pointer r0, .pointer r1] 27)) [(0, true), (1, true), (2, true), (3, true), (4, true), (5, true), (6, true), (7, true), (8, true), (9, true), (10, true), (11, true), (12, true), (13, false), (14, true), (15, true)]
                (by kernel_rfl) rfl (by kernel_rfl) (fun d _ _ _ _ h => by cases d <;> exact h) ⟨k9, k10⟩ ?_
              have HR : Hid (wr.drew.heap[g9]? = some (.cells #[.pointer u0, .pointer u1] 25) ∧ wr.drew.heap[g10]? = some (.cells #[.pointer r0, .pointer r1] 27)) := ⟨k9, k10⟩
              clear k9 k10
              generalize wr.drew = V5 at *
              simp only [inOrd, List.getElem?_cons_zero, List.getElem?_cons_succ]
              refine wpOrd_yield (v := .int .i64 1) rfl (fun u _ => exec_mv rfl rfl) ?_
              simp only [Act.put, List.setIfInBounds_toArray, List.set_cons_succ, List.set_cons_zero]
              refine wpOrd_yield (v := .pointer (some ⟨g10, 1, none⟩)) rfl (fun u _ => by go_simp) ?_
              simp only [Act.put, List.setIfInBounds_toArray, List.set_cons_succ, List.set_cons_zero]
              refine wpOrd_yield (v := .pointer (some ⟨g, 0, none⟩)) rfl (fun u hu => by have hq : u.cell? ⟨g10, 1, none⟩ = some (.pointer (some ⟨g, 0, none⟩)) := (Joins.cell_of_block hu.2 1).trans (by rw [← Hr.out]; rfl); go_simp) ?_
              simp only [Act.put, List.setIfInBounds_toArray, List.set_cons_succ, List.set_cons_zero]
              refine wpOrd_yield (v := .bool true) rfl (fun u _ => by go_simp) ?_
              simp only [Act.put, List.setIfInBounds_toArray, List.set_cons_succ, List.set_cons_zero]
              refine wpOrd_yield (v := .bool true) rfl (fun u _ => exec_mv rfl rfl) ?_
              simp only [Act.put, List.setIfInBounds_toArray, List.set_cons_succ, List.set_cons_zero]
              refine wpOrd_yield (v := .pointer (some ⟨gy, 0, none⟩)) rfl (fun u _ => exec_mv rfl rfl) ?_
              simp only [Act.put, List.setIfInBounds_toArray, List.set_cons_succ, List.set_cons_zero]
              refine wpOrd_yield (v := .int .i64 1) rfl (fun u _ => exec_mv rfl rfl) ?_
              simp only [Act.put, List.setIfInBounds_toArray, List.set_cons_succ, List.set_cons_zero]
              refine wpOrd_yield (v := .pointer (some ⟨g9, 1, none⟩)) rfl (fun u _ => by go_simp) ?_
              simp only [Act.put, List.setIfInBounds_toArray, List.set_cons_succ, List.set_cons_zero]
              refine wpOrd_yield (v := .pointer (some ⟨d, 0, none⟩)) rfl (fun u hu => by have hq : u.cell? ⟨g9, 1, none⟩ = some (.pointer (some ⟨d, 0, none⟩)) := (Joins.cell_of_block hu.1 1).trans (by rw [← Hu.out]; rfl); go_simp) ?_
              simp only [Act.put, List.setIfInBounds_toArray, List.set_cons_succ, List.set_cons_zero]
              refine wpOrd_yield (v := .int .i64 1) rfl (fun u _ => exec_mv rfl rfl) ?_
              simp only [Act.put, List.setIfInBounds_toArray, List.set_cons_succ, List.set_cons_zero]
              refine wpOrd_yield (v := .pointer (some ⟨g10, 1, none⟩)) rfl (fun u _ => by go_simp) ?_
              simp only [Act.put, List.setIfInBounds_toArray, List.set_cons_succ, List.set_cons_zero]
              refine wpOrd_yield (v := .pointer (some ⟨g, 0, none⟩)) rfl (fun u hu => by have hq : u.cell? ⟨g10, 1, none⟩ = some (.pointer (some ⟨g, 0, none⟩)) := (Joins.cell_of_block hu.2 1).trans (by rw [← Hr.out]; rfl); go_simp) ?_
              simp only [Act.put, List.setIfInBounds_toArray, List.set_cons_succ, List.set_cons_zero]
              refine wpOrd_yield (v := .slice sa i scap) rfl (fun u _ => exec_mv rfl rfl) ?_
              simp only [Act.put, List.setIfInBounds_toArray, List.set_cons_succ, List.set_cons_zero]
              refine wpOrd_call rfl 13 _ _ rfl Try.call13 [.pointer (some ⟨gy, 0, none⟩), .pointer (some ⟨d, 0, none⟩), .pointer (some ⟨g, 0, none⟩), .slice sa i scap] rfl ?_
              refine Calls.mono HWh.out ?_
              rintro e V6 ⟨rfl, h6⟩
              have h7 := h6.swap
              have e7 : i + 1 * (2 * i + 4) + 2 * i + 4 = i + (1 + 1) * (2 * i + 4) := by omega
              rw [e7] at h7
              have j10 := h7.box (b := g10) (o := .cells #[.pointer r0, .pointer r1] 27) (by simp)
              have j9 := h7.box (b := g9) (o := .cells #[.pointer u0, .pointer u1] 25) (by simp)
              have H7 := Hid.mk' h7
              refine ⟨_, rfl, ⟨j9, j10⟩, ?_⟩
              simp only [Act.put, List.setIfInBounds_toArray, List.set_cons_succ, List.set_cons_zero]
              clear h6 h7 j10 j9 HWh HR e7
              refine wpOrd_yield (v := .bool false) rfl (fun u _ => by go_simp) ?_
              simp only [Act.put, List.setIfInBounds_toArray, List.set_cons_succ, List.set_cons_zero]
              refine wpOrd_yield (v := .bool false) rfl (fun u _ => by go_simp) ?_
              simp only [Act.put, List.setIfInBounds_toArray, List.set_cons_succ, List.set_cons_zero]
              refine wpOrd_nil ?_
              try simp only [Act.put]
              go_wp2
              exact ⟨⟨1 + 1, by omega, by go_num, H7.out⟩, by simp [intOf]⟩
        · obtain rfl : k = 2 := by omega
          have HRt := Hid.mk' (HB.out.right (by omega))
          clear HB k10 k9
          go_wp2_with (go_at_call 14; fail)
          refine Calls.mono HRt.out ?_
          rintro e V7 ⟨rfl, hb⟩
          have HZ := Hid.mk' hb
          clear hb HRt
          go_wp2
          go_ret
          exact ⟨rfl, HZ.out⟩
end Go.Proofs.Ytembocfghkmieaa
