/- Several texts joined, each with its own remark; no condition. -/
import Derived.Test.YtiejhjngcnkimaaGreatRK27
import Derived.Test.YtiejhjngcnkimaaGreatRK26
/- The table gone through with findFree. -/
namespace Go.Proofs.YtiejhjngcnkimaaGreatR
open Go.RowKit Go.Maps
set_option maxRecDepth 20000 in
set_option maxHeartbeats 1500000 in
theorem eachF_ok {W : World} {g gt n : Nat} {y : Lay} (I : Nat → Nat → World → Prop) (more : Nat → Bool) (F : Nat → Nat → Int) (Q : World → Prop)
    (hLay : Calls Tryz.prog 98 #[.pointer (some ⟨g, 0, none⟩)] W fun e W' => e = .returned (.agg (layRow y)) ∧ I 1 (n + 4) W') (hyi : y.i = 60)
    (hSh : ∀ (k q m : Nat) V, 1 ≤ k → k ≤ 60 → k / 16 = q → I k (m + 1) V → Calls Tryz.prog 46 #[.pointer (some ⟨g, 0, none⟩), .int .i64 (k : Int)] V fun e W' => e = .returned (.tuple #[.agg (shRow (33 + (q : Int)) ((q : Int) * 16) (F q)), .int .i64 0]) ∧ I k m W')
    (hLt : ∀ k m V V', I k m V → Below V.heap.size V V' → I k m V') (hF : ∀ q, Byt (F q))
    (hcl : ∀ (k q m : Nat) V, 1 ≤ k → k ≤ 60 → k / 16 = q → (∀ j, 1 ≤ j → j < k → more j = true) → I k m V → Calls Tryz.prog 56 #[.pointer (some ⟨gt, 0, none⟩), .int .i64 (k : Int), .agg (nodN (F q) (k % 16 * 64))] V fun e V' => e = .returned (.bool (more k)) ∧ I (k + 1) m V' ∧ Keeps V V')
    (hQ1 : ∀ m V, n ≤ m → (∀ j, 1 ≤ j → j < 61 → more j = true) → I 61 m V → Q V)
    (hQ2 : ∀ k m V, 1 ≤ k → k ≤ 60 → n ≤ m → more k = false → (∀ j, 1 ≤ j → j < k → more j = true) → I (k + 1) m V → Q V) :
    Calls Tryz.prog 48 #[.pointer (some ⟨g, 0, none⟩), .func (.func 56) #[.pointer (some ⟨gt, 0, none⟩)] #[]] W fun e W' => e = .returned (.int .i64 0) ∧ Q W' := by
  have zs := zeroSf
  have HSh : Hid _ := hSh
  have HLt : Hid _ := hLt
  have HCl : Hid _ := hcl
  have HQ1 : Hid _ := hQ1
  have HQ2 : Hid _ := hQ2
  have HF : Hid _ := hF
  have HyI : Hid (y.i = 60) := hyi
  clear hSh hLt hcl hQ1 hQ2 hF hyi
  go_enter Tryz.func48, Tryz.ntmps48
  go_wp2_with (go_at_call 98; fail)
  refine hLay.mono ?_
  rintro e V1 ⟨rfl, hI1⟩
  have HI1 : Hid _ := hI1
  clear hLay hI1
  have hyi := HyI.out
  go_wp2_with (first | (with_reducible refine isFdR 61 ?_; refine wpList_ex rfl (v := .agg (geoRow y.b y.l y.i)) (exec_geoF rfl rfl) ?_) | (with_reducible refine isFdR 26 ?_; refine wpList_ex rfl (v := .int .i64 60) (by rw [← hyi]; exact exec_inoF rfl rfl) ?_))
  clear hyi HyI
  go_loopw [6] (fun s6 wx => ∃ r a : Nat, r ≤ 4 ∧ s6 = .int .i64 (a : Int) ∧ Hid (stK r = a) ∧ Hid (I a (n + (4 - r)) wx ∧ ∀ j, 1 ≤ j → j < a → more j = true)) (fun s6 _ => 61 - (intOf s6).toNat)
  case atStart => exact ⟨0, 1, by omega, rfl, rfl, HI1.out, fun j h1 h2 => by omega⟩
  case round =>
    obtain ⟨r, a, hr, rfl, HA, HI⟩ := hrel
    by_cases hr4 : r = 4
    · subst hr4
      obtain rfl : 61 = a := HA.out
      have hq : Q wr := HQ1.out _ wr (Nat.le_add_right n (4 - 4)) HI.out.2 HI.out.1
      have HQ : Hid _ := hq
      rw [show ((61 : Nat) : Int) = 61 from rfl]
      clear HI hq HCl HSh HLt HQ1 HQ2
      go_wp2
      go_ret
      exact ⟨rfl, HQ.out⟩
    · obtain ⟨z, hZ, ha1, ha2, he, hae, hz61, hdv⟩ := stK_facts (show r ≤ 3 by omega) HA.out
      have hb4 : n + (4 - r) = (n + (3 - r)) + 1 := by omega
      have hIr := HI.out.1
      rw [hb4] at hIr
      have hsh := HSh.out a r (n + (3 - r)) wr ha1 ha2 (hdv a (Nat.le_refl _) hae) hIr
      have HMr : Hid _ := HI.out.2
      have HE : Hid (min 61 ((r : Int) * 16 + 16) = (z : Int)) := he
      have HZ : Hid (stK (r + 1) = z) := hZ
      have hrb : r ≤ 3 := by omega
      have HDv : Hid _ := hdv
      have HA1 : Hid (1 ≤ a) := ha1
      have HA2 : Hid (z ≤ 61) := hz61
      have HAE : Hid (a < z) := hae
      have t1 : decide ((a : Int) ≤ 60) = true := decide_eq_true (by omega)
      clear HI hIr HI1 he hZ hdv ha1 hae hz61 HA
      go_wp2_with (go_at_call 46; fail)
      refine hsh.mono ?_
      rintro e V2 ⟨rfl, hI2⟩
      have HI3 : Hid _ := HLt.out _ _ _ _ hI2 (below_new V2 (.cells (shRow (33 + (r : Int)) ((r : Int) * 16) (F r)) 111))
      have HS3 : Hid ((V2.alloc (.cells (shRow (33 + (r : Int)) ((r : Int) * 16) (F r)) 111)).heap[V2.heap.size]? = some (.cells (shRow (33 + (r : Int)) ((r : Int) * 16) (F r)) 111)) := heap_alloc_new _ _
      clear hsh hI2 t1
      go_upto_region 5 with (first | (with_reducible refine isStoreR 111 ?_; refine wpList_stNew 111 rfl (.tmp 7) (.tmp 21) rfl V2.heap.size (shRow (33 + (r : Int)) ((r : Int) * 16) (F r)) (shRow 0 0 nought) 111 (sf_info _ _ _) (sh_two _ _ _ _ _ _) (sh_one _ _ _) rfl rfl rfl ?_))
      generalize V2.alloc (.cells (shRow (33 + (r : Int)) ((r : Int) * 16) (F r)) 111) = V3 at *
      generalize V2.heap.size = gs at *
      have cb := sf_base HS3.out
      have e1 : IntKind.i64.wrap ((r : Int) * 16 + 16) = (r : Int) * 16 + 16 := by rw [IntKind.wrap_i64]; omega
      have e2 := HE.out
      go_wp2
      clear cb e1 e2
      go_loopw [6] (fun s6 wx => ∃ k : Nat, a ≤ k ∧ k ≤ z ∧ s6 = .int .i64 (k : Int) ∧ Hid (I k (n + (3 - r)) wx ∧ wx.heap[gs]? = some (.cells (shRow (33 + (r : Int)) ((r : Int) * 16) (F r)) 111) ∧ ∀ j, 1 ≤ j → j < k → more j = true)) (fun s6 _ => z - (intOf s6).toNat)
      case atStart => exact ⟨a, Nat.le_refl _, Nat.le_of_lt HAE.out, rfl, HI3.out, HS3.out, HMr.out⟩
      case round =>
        obtain ⟨k, hk1, hk2, rfl, HJ⟩ := hrel
        by_cases hkz : k < z
        · have hkq : k / 16 = r := HDv.out k hk1 hkz
          have hk60 : k ≤ 60 := by have := HA2.out; omega
          have hk11 : 1 ≤ k := Nat.le_trans HA1.out hk1
          have hnd := node_ok (k := (k : Int)) (lo := k % 16 * 64) HJ.out.2.1 (HF.out r) (by omega) (by omega)
          have t2 : decide ((k : Int) < (z : Int)) = true := decide_eq_true (by omega)
          have HJ' : Hid _ := HJ.out
          clear HJ
          go_wp2_with (go_at_call 47; fail)
          refine hnd.mono ?_
          rintro e V4 ⟨rfl, hb4⟩
          have hI4 := HLt.out _ _ _ _ HJ'.out.1 hb4
          have hS4 := heap_kept HJ'.out.2.1 hb4
          have HM4 : Hid _ := HJ'.out.2.2
          have hc := HCl.out k r (n + (3 - r)) V4 hk11 hk60 hkq HM4.out hI4
          have HS4 : Hid _ := hS4
          clear hnd hb4 HJ' hI4 hS4
          cases hm : more k
          · rw [hm] at hc
            go_wp2_with (go_at_call 56; fail)
            refine hc.mono ?_
            rintro e V5 ⟨rfl, hI5, _⟩
            have hq : Q V5 := HQ2.out k (n + (3 - r)) V5 hk11 hk60 (Nat.le_add_right _ _) hm HM4.out hI5
            have HQ : Hid _ := hq
            clear hc hI5 hq
            go_wp2
            go_ret
            exact ⟨rfl, HQ.out⟩
          · rw [hm] at hc
            go_wp2_with (go_at_call 56; fail)
            refine hc.mono ?_
            rintro e V5 ⟨rfl, hI5, hKp⟩
            have HN : Hid (I (k + 1) (n + (3 - r)) V5 ∧ V5.heap[gs]? = some (.cells (shRow (33 + (r : Int)) ((r : Int) * 16) (F r)) 111) ∧ ∀ j, 1 ≤ j → j < k + 1 → more j = true) := ⟨hI5, hKp _ _ HS4.out, fun j h1 h2 => by
              rcases Nat.lt_or_ge j k with q | q
              · exact HM4.out j h1 q
              · rw [show j = k by omega]; exact hm⟩
            have e3 : IntKind.i64.wrap ((k : Int) + 1) = ((k + 1 : Nat) : Int) := by rw [IntKind.wrap_i64]; omega
            clear hc hI5 hKp
            go_wp2
            exact ⟨⟨k + 1, by omega, by omega, rfl, HN.out⟩, by simp [intOf]; omega⟩
        · obtain rfl : k = z := by omega
          have t2 : decide ((k : Int) < (k : Int)) = false := decide_eq_false (by omega)
          have HN : Hid (I k (n + (4 - (r + 1))) wr ∧ ∀ j, 1 ≤ j → j < k → more j = true) := by
            rw [show 4 - (r + 1) = 3 - r by omega]
            exact ⟨HJ.out.1, HJ.out.2.2⟩
          clear HJ
          go_wp2
          have hz61 := HA2.out
          have haz := HAE.out
          exact ⟨⟨r + 1, k, by omega, rfl, HZ.out, HN.out⟩, by simp [intOf]; omega⟩
end Go.Proofs.YtiejhjngcnkimaaGreatR
/- Inodes written: the rack's put, Write and Take. -/
namespace Go.Proofs.YtiejhjngcnkimaaGreatR
open Go.RowKit Go.Maps
theorem upd_byt {f : Nat → Int} (hf : Byt f) (i : Nat) {v : Int} (hv : 0 ≤ v ∧ v ≤ 255) : Byt (Go.Proofs.YtiejhjngcnkimaaGreatRN.upd f i v) := fun j => by
  unfold Go.Proofs.YtiejhjngcnkimaaGreatRN.upd
  split
  · exact hv
  · exact hf j
theorem putN_byt : ∀ (m : Nat) {f : Nat → Int} (_ : Byt f) (k : Nat) (v : Int), Byt (Go.Proofs.YtiejhjngcnkimaaGreatRN.putN f k v m)
  | 0, _, hf, _, _ => hf
  | m + 1, _, hf, k, v => putN_byt m (upd_byt hf k ⟨Int.emod_nonneg _ (by omega), by have := Int.emod_lt_of_pos v (show (0 : Int) < 256 by omega); omega⟩) (k + 1) (v / 256)
theorem encNn_byt (k l s b : Int) (d : Nat → Int) : ∀ m, Byt (Go.Proofs.YtiejhjngcnkimaaGreatRN.encN k l s b d m)
  | 0 => putN_byt _ (putN_byt _ (putN_byt _ (putN_byt _ (fun _ => by show 0 ≤ (0 : Int) ∧ (0 : Int) ≤ 255; omega) _ _) _ _) _ _) _ _
  | m + 1 => putN_byt _ (encNn_byt k l s b d m) _ _
theorem over_can {F E : Nat → Int} (hF : Go.Proofs.YtiejhjngcnkimaaGreatRW.Can F) (hE : Byt E) {lo : Nat} (hl : lo ≤ 960) : Go.Proofs.YtiejhjngcnkimaaGreatRW.Can (Go.Proofs.YtiejhjngcnkimaaGreatRN.over F lo 64 E) := ⟨fun i => by
  unfold Go.Proofs.YtiejhjngcnkimaaGreatRN.over
  split
  · exact hE _
  · exact hF.1 i, fun i hi => by
  unfold Go.Proofs.YtiejhjngcnkimaaGreatRN.over
  rw [if_neg (by omega)]
  exact hF.2 i hi⟩
section
variable {w W W' : World} {g d n : Nat} {x x1 : Go.Proofs.YtiejhjngcnkimaaGreatRW.LSt} {book book1 : Int → Nat → Int} {ks ks' : List (Nat × Obj)}
set_option maxHeartbeats 800000 in
theorem RLog.rrefuses (h : RLog w W g d x book n ks) : Calls Tryz.prog 50 #[.pointer (some ⟨g, 0, none⟩)] W fun e W' => e = .returned (.int .i64 (if x.opn = true then 0 else 180)) ∧ RLog w W' g d x book n ks := by
  have hck := h.check
  obtain ⟨o, ho⟩ : ∃ o, x.opn = o := ⟨_, rfl⟩
  have HO : Hid (∀ V, RLog w V g d x book n ks → Calls Tryz.prog 102 #[.pointer (some ⟨g, 0, none⟩)] V fun e W' => e = .returned (.bool o) ∧ RLog w W' g d x book n ks) := fun V hV => by rw [← ho]; exact hV.open
  rw [ho]
  clear h ho
  cases o
  all_goals
    go_enter Tryz.func50, Tryz.ntmps50
    go_wp2_with (go_at_call 45; fail)
    refine hck.mono ?_
    rintro e V1 ⟨rfl, hL1⟩
    have ho := HO.out V1 hL1
    clear hck hL1 HO
    go_wp2_with (go_at_call 102; fail)
    refine ho.mono ?_
    rintro e V2 ⟨rfl, hL2⟩
    have HL : Hid _ := hL2
    clear ho hL2
    go_wp2
    go_ret
    exact ⟨rfl, HL.out⟩
theorem RLog.writeTight {k : Int} {f : Nat → Int} (h : RLog w W g d x book n ks) (ho : x.opn = true) (hg : Ge x) (hk : 33 ≤ k ∧ k < 400) (hb : Go.Proofs.YtiejhjngcnkimaaGreatRW.byB x k x.steps = false) (hz : x.room = 0) :
    Calls Tryz.prog 103 #[.pointer (some ⟨g, 0, none⟩), .int .i64 k, .agg (blk f)] W fun e W' => e = .returned (.int .i64 181) ∧ RLog w W' g d x book n ks := by
  obtain ⟨t, ⟨s, h, hI⟩, h1, h2⟩ := h
  rw [← blkW]
  refine (Go.Proofs.YtiejhjngcnkimaaGreatRW.writeL_tight h (ref_of h1 ho) (by rw [hg.l, hg.b]; omega) (by rw [hg.l]; omega) (by rw [hg.b]; omega) hb hz).mono ?_
  rintro e W' ⟨rfl, h3⟩
  exact ⟨rfl, t, ⟨s, h3, hI⟩, h1, h2⟩
set_option maxRecDepth 20000 in
set_option maxHeartbeats 3200000 in
theorem RLog.rput (h : RLog w W g d x book (n + 1) ks) (hg : Ge x) (k q lo : Nat) (hk : 1 ≤ k ∧ k ≤ 60) (hq : k / 16 = q) (hlo : k % 16 * 64 = lo) {kk l s bb : Int} {dd : Nat → Int} (hN : Go.Proofs.YtiejhjngcnkimaaGreatRN.NodeOk kk l s bb dd) {r : Int}
    (hW : ∀ V ks0, RLog w V g d x book n ks0 → Calls Tryz.prog 103 #[.pointer (some ⟨g, 0, none⟩), .int .i64 (33 + (q : Int)), .agg (blk (Go.Proofs.YtiejhjngcnkimaaGreatRN.over (book (33 + (q : Int))) lo 64 (Go.Proofs.YtiejhjngcnkimaaGreatRN.encN kk l s bb dd 12)))] V fun e W' => e = .returned (.int .i64 r) ∧ RLog w W' g d x1 book1 n ks0) :
    Calls Tryz.prog 51 #[.pointer (some ⟨g, 0, none⟩), .int .i64 (k : Int), .agg (Go.Proofs.YtiejhjngcnkimaaGreatRN.node16 kk l s bb dd)] W fun e W' => e = .returned (.int .i64 r) ∧ RLog w W' g d x1 book1 n ks := by
  have zs := zeroSf
  have HSh : Hid (∀ V ks0, RLog w V g d x book (n + 1) ks0 → Calls Tryz.prog 46 #[.pointer (some ⟨g, 0, none⟩), .int .i64 (k : Int)] V fun e W' => e = .returned (.tuple #[.agg (shRow (33 + (q : Int)) ((q : Int) * 16) (book (33 + (q : Int)))), .int .i64 0]) ∧ RLog w W' g d x book n ks0) := fun V ks0 hV => hV.shelfOf hg k q hk hq
  have HWi : Hid (∀ (V : World) gs, V.heap[gs]? = some (.cells (shRow (33 + (q : Int)) ((q : Int) * 16) (book (33 + (q : Int)))) 111) → Calls Tryz.prog 104 #[.pointer (some ⟨gs, 0, none⟩), .int .i64 (k : Int), .agg (Go.Proofs.YtiejhjngcnkimaaGreatRN.node16 kk l s bb dd)] V fun e W' => e = .returned (.agg (blk (Go.Proofs.YtiejhjngcnkimaaGreatRN.over (book (33 + (q : Int))) lo 64 (Go.Proofs.YtiejhjngcnkimaaGreatRN.encN kk l s bb dd 12)))) ∧ Below V.heap.size V W') := fun V gs hV => with_ok hV (by omega) (by omega) hN
  have HW1 : Hid _ := hW
  have hL0 := h.add (.cells (Go.Proofs.YtiejhjngcnkimaaGreatRN.node16 kk l s bb dd) 45)
  have HNi : Hid _ := nd_info kk l s bb dd
  clear h hg hk hq hlo hN hW
  generalize Go.Proofs.YtiejhjngcnkimaaGreatRN.over (book (33 + (q : Int))) lo 64 (Go.Proofs.YtiejhjngcnkimaaGreatRN.encN kk l s bb dd 12) = F1 at *
  generalize Go.Proofs.YtiejhjngcnkimaaGreatRN.node16 kk l s bb dd = N at *
  generalize book (33 + (q : Int)) = F at *
  generalize 33 + (q : Int) = A0 at *
  generalize (q : Int) * 16 = B0' at *
  generalize (k : Int) = K at *
  go_enter Tryz.func51, Tryz.ntmps51
  go_upto_region 1 with fail
  generalize W.alloc (.cells N 45) = V at *
  generalize W.heap.size = gn at *
  have hsh := HSh.out V _ hL0
  clear hL0 HSh
  go_wp2_with (go_at_call 46; fail)
  refine hsh.mono ?_
  rintro e V3 ⟨rfl, hL3⟩
  have HL3 : Hid _ := hL3.add (.cells (shRow A0 B0' F) 111)
  clear hsh hL3
  go_upto_region 2 with (first | (with_reducible refine isStoreR 111 ?_; refine wpList_stNew 111 rfl (.tmp 7) (.tmp 13) rfl V3.heap.size (shRow A0 B0' F) (shRow 0 0 nought) 111 (sf_info _ _ _) (sh_two _ _ _ _ _ _) (sh_one _ _ _) rfl rfl rfl ?_))
  generalize V3.alloc (.cells (shRow A0 B0' F) 111) = V4 at *
  generalize V3.heap.size = gs at *
  go_upto_region 4 with fail
  have hLd : RLog w V4.drew g d x book n ((gs, .cells (shRow A0 B0' F) 111) :: (gn, .cells N 45) :: ks) := HL3.out.later (Below.refl _ _).drew
  have hS : V4.drew.heap[gs]? = some (.cells (shRow A0 B0' F) 111) ∧ V4.drew.heap[gn]? = some (.cells N 45) := ⟨hLd.obj (List.mem_cons_self ..), hLd.obj (List.mem_cons_of_mem _ (List.mem_cons_self ..))⟩
  clear HL3
  refine wp_region_ord (S := fun u => u.heap[gs]? = some (.cells (shRow A0 B0' F) 111) ∧ u.heap[gn]? = some (.cells N 45)) [(0, true), (1, true), (2, true), (3, true), (4, true), (5, false), (6, false), (7, true)] (by kernel_rfl) rfl (by kernel_rfl) (fun d _ _ _ _ h => by cases d <;> exact h) hS ?_
  simp only [inOrd, List.getElem?_cons_zero, List.getElem?_cons_succ]
  generalize V4.drew = U at *
  refine wpOrd_yield (v := .pointer (some ⟨g, 0, none⟩)) rfl (fun u _ => exec_mv rfl rfl) ?_
  simp only [Act.put, pA, pB, pC]
  refine wpOrd_yield (v := .pointer (some ⟨gs, 0, none⟩)) rfl (fun u _ => by go_simp) ?_
  simp only [Act.put, pA, pB, pC]
  refine wpOrd_yield (v := .int .i64 A0) rfl (fun u hu => by have hc := sf_at hu.1; go_simp) ?_
  simp only [Act.put, pA, pB, pC]
  refine wpOrd_yield (v := .int .i64 K) rfl (fun u _ => exec_mv rfl rfl) ?_
  simp only [Act.put, pA, pB, pC]
  refine wpOrd_yield (v := .agg N) rfl (fun u hu => run_ldR 45 Tryz.underlying45 rfl (.tmp 5) rfl gn rfl hu.2 HNi.out) ?_
  simp only [Act.put, pA, pB, pC]
  refine wpOrd_call rfl 104 _ _ rfl Tryz.call104 [.pointer (some ⟨gs, 0, none⟩), .int .i64 K, .agg N] rfl ?_
  refine (HWi.out U gs hS.1).mono ?_
  rintro e U1 ⟨rfl, hb1⟩
  have hL5 := hLd.later hb1
  refine ⟨_, rfl, ⟨heap_kept hS.1 hb1, heap_kept hS.2 hb1⟩, ?_⟩
  simp only [Act.put, pA, pB, pC]
  refine wpOrd_call rfl 103 _ _ rfl Tryz.call103 [.pointer (some ⟨g, 0, none⟩), .int .i64 A0, .agg (blk F1)] rfl ?_
  refine (HW1.out U1 _ hL5).mono ?_
  rintro e U2 ⟨rfl, hL6⟩
  refine ⟨_, rfl, ⟨hL6.obj (List.mem_cons_self ..), hL6.obj (List.mem_cons_of_mem _ (List.mem_cons_self ..))⟩, ?_⟩
  simp only [Act.put, pA, pB, pC]
  refine wpOrd_yield (v := .int .i64 r) rfl (fun u _ => by go_simp) ?_
  simp only [Act.put, pA, pB, pC]
  refine wpOrd_nil ?_
  have HL : Hid _ := hL6.drop (ks' := ks) fun p hp => List.mem_cons_of_mem _ (List.mem_cons_of_mem _ hp)
  clear hL6 hL5 hb1 hLd hS HW1 HWi
  go_wp2
  go_ret
  exact ⟨rfl, HL.out⟩
set_option maxHeartbeats 1600000 in
theorem RLog.rwriteStep (h : RLog w W g d x book n ks) (ho : x.opn = false) (k : Int) (N : Array Value) :
    Calls Tryz.prog 13 #[.pointer (some ⟨g, 0, none⟩), .int .i64 k, .agg N] W fun e W' => e = .returned (.int .i64 180) ∧ RLog w W' g d x book n ks := by
  have hrf := (h.later (below_new W (.cells N 45))).rrefuses
  rw [ho, if_neg (by simp)] at hrf
  clear h ho
  go_enter Tryz.func13, Tryz.ntmps13
  go_upto_region 1 with fail
  generalize W.alloc (.cells N 45) = V at *
  go_wp2_with (go_at_call 50; fail)
  refine hrf.mono ?_
  rintro e V1 ⟨rfl, hL1⟩
  have HL : Hid _ := hL1
  clear hrf hL1
  go_wp2
  go_ret
  exact ⟨rfl, HL.out⟩
set_option maxRecDepth 20000 in
set_option maxHeartbeats 1600000 in
theorem RLog.rwrite (h : RLog w W g d x book (n + 1) ks) (hg : Ge x) (ho : x.opn = true) (k q lo : Nat) (hk : 1 ≤ k ∧ k ≤ 60) (hq : k / 16 = q) (hlo : k % 16 * 64 = lo) {kk l s bb : Int} {dd : Nat → Int} (hN : Go.Proofs.YtiejhjngcnkimaaGreatRN.NodeOk kk l s bb dd) {r : Int}
    (hW : ∀ V ks0, RLog w V g d x book n ks0 → Calls Tryz.prog 103 #[.pointer (some ⟨g, 0, none⟩), .int .i64 (33 + (q : Int)), .agg (blk (Go.Proofs.YtiejhjngcnkimaaGreatRN.over (book (33 + (q : Int))) lo 64 (Go.Proofs.YtiejhjngcnkimaaGreatRN.encN kk l s bb dd 12)))] V fun e W' => e = .returned (.int .i64 r) ∧ RLog w W' g d x1 book1 n ks0) :
    Calls Tryz.prog 13 #[.pointer (some ⟨g, 0, none⟩), .int .i64 (k : Int), .agg (Go.Proofs.YtiejhjngcnkimaaGreatRN.node16 kk l s bb dd)] W fun e W' => e = .returned (.int .i64 r) ∧ RLog w W' g d x1 book1 n ks := by
  have hL0 := h.add (.cells (Go.Proofs.YtiejhjngcnkimaaGreatRN.node16 kk l s bb dd) 45)
  have hrf := hL0.rrefuses
  rw [if_pos ho] at hrf
  have HPu : Hid (∀ V, RLog w V g d x book (n + 1) ks → Calls Tryz.prog 51 #[.pointer (some ⟨g, 0, none⟩), .int .i64 (k : Int), .agg (Go.Proofs.YtiejhjngcnkimaaGreatRN.node16 kk l s bb dd)] V fun e W' => e = .returned (.int .i64 r) ∧ RLog w W' g d x1 book1 n ks) := fun V hV => hV.rput hg k q lo hk hq hlo hN hW
  have HNi : Hid _ := nd_info kk l s bb dd
  clear h hg ho hk hq hlo hN hW hL0
  generalize Go.Proofs.YtiejhjngcnkimaaGreatRN.node16 kk l s bb dd = N at *
  generalize (k : Int) = K at *
  go_enter Tryz.func13, Tryz.ntmps13
  go_upto_region 1 with fail
  generalize W.alloc (.cells N 45) = V at *
  generalize W.heap.size = gn at *
  go_wp2_with (go_at_call 50; fail)
  refine hrf.mono ?_
  rintro e V1 ⟨rfl, hL1⟩
  have hn := hL1.obj (List.mem_cons_self ..)
  have hpu := HPu.out V1 (hL1.drop fun p hp => List.mem_cons_of_mem _ hp)
  clear hrf hL1 HPu
  go_wp2_with (first | (with_reducible refine isLoadR 45 ?_; refine wpList_ldR 45 Tryz.underlying45 rfl rfl (.tmp 5) rfl gn rfl N 45 (0, 0) HNi.out hn ?_) | (go_at_call 51; fail))
  refine hpu.mono ?_
  rintro e V2 ⟨rfl, hL2⟩
  have HL : Hid _ := hL2
  clear hpu hL2
  go_wp2
  go_ret
  exact ⟨rfl, HL.out⟩
end
set_option maxHeartbeats 1000000 in
theorem findFree_ok {V : World} {gt : Nat} {c : Int} {v : Value} (h : V.heap[gt]? = some (.cells (tlRow c 0 v) 116)) (i : Int) (hi : i ≠ 0) (k l s b : Int) (e : Nat → Int) :
    Calls Tryz.prog 56 #[.pointer (some ⟨gt, 0, none⟩), .int .i64 i, .agg (Go.Proofs.YtiejhjngcnkimaaGreatRN.node16 k l s b e)] V fun r V' => r = .returned (.bool (!(k == 0))) ∧ V'.heap[gt]? = some (.cells (tlRow c (if k = 0 then i else 0) v) 116) ∧ Fr (fun q => q = gt) V V' := by
  obtain ⟨c', hc'⟩ : ∃ c', (if k = 0 then i else 0) = c' := ⟨_, rfl⟩
  rw [hc']
  obtain ⟨z, hz⟩ : ∃ z, (!(k == 0)) = z := ⟨_, rfl⟩
  rw [hz]
  have hb := below_new V (.cells (Go.Proofs.YtiejhjngcnkimaaGreatRN.node16 k l s b e) 45)
  have hr := heap_alloc_new V (.cells (Go.Proofs.YtiejhjngcnkimaaGreatRN.node16 k l s b e) 45)
  have hif := isFree_ok k l s b e (V.alloc (.cells (Go.Proofs.YtiejhjngcnkimaaGreatRN.node16 k l s b e) 45))
  have HT : Hid _ := heap_kept h hb
  have HB : Hid _ := hb
  have HR : Hid _ := hr
  have HI : Hid _ := nd_info k l s b e
  clear hb hr h
  generalize Go.Proofs.YtiejhjngcnkimaaGreatRN.node16 k l s b e = N at *
  go_enter Tryz.func56, Tryz.ntmps56
  go_upto_region 1 with fail
  generalize V.alloc (.cells N 45) = V1 at *
  go_wp2_with (first | (with_reducible refine isLoadR 45 ?_; refine wpList_ldR 45 Tryz.underlying45 rfl rfl (.tmp 5) rfl V.heap.size rfl N 45 (0, 0) HI.out HR.out ?_) | (go_at_call 55; fail))
  refine hif.mono ?_
  rintro r V2 ⟨rfl, hb2⟩
  have hT2 := heap_kept HT.out hb2
  have hB2 := below_next HB.out hb2
  clear hif hb2 HR HT HB
  by_cases hk : k = 0
  · rw [if_pos hk] at hc'
    subst hc' hk
    obtain rfl : false = z := hz
    have c1 : V2.cell? ⟨gt, 1, none⟩ = some (.int .i64 0) := Joins.cell_of_block hT2 1
    have f1 := frozen_row hT2 1
    have H3 : Hid ((V2.setCell ⟨gt, 1, none⟩ (.int .i64 i)).heap[gt]? = some (.cells (tlRow c i v) 116)) := by rw [heap_setCell_same _ _ _ _ _ _ hT2]; rfl
    have H4 : Hid (Fr (fun q => q = gt) V (V2.setCell ⟨gt, 1, none⟩ (.int .i64 i))) := Fr.trans (Fr.ofBelow (T := fun q => q = gt) hB2) (Fr.setCell V2 gt 1 _) fun _ _ q => q
    clear hT2 hB2
    go_upto_region 3 with fail
    generalize V2.setCell ⟨gt, 1, none⟩ (.int .i64 i) = V3 at *
    clear c1 f1
    have c1 : V3.cell? ⟨gt, 1, none⟩ = some (.int .i64 i) := Joins.cell_of_block H3.out 1
    have t1 : (i == 0) = false := beq_eq_false_iff_ne.2 hi
    go_wp2
    go_ret
    exact ⟨rfl, H3.out, H4.out⟩
  · have hkb : (k == 0) = false := beq_eq_false_iff_ne.2 hk
    rw [if_neg hk] at hc'
    subst hc'
    rw [hkb] at hz
    obtain rfl : true = z := hz
    have c1 : V2.cell? ⟨gt, 1, none⟩ = some (.int .i64 0) := Joins.cell_of_block hT2 1
    have H3 : Hid _ := hT2
    have H4 : Hid _ := Fr.ofBelow (T := fun q => q = gt) hB2
    clear hT2 hB2
    go_wp2
    go_ret
    exact ⟨rfl, H3.out, H4.out⟩
end Go.Proofs.YtiejhjngcnkimaaGreatR
/- The table gone through with listOrphan. -/
namespace Go.Proofs.YtiejhjngcnkimaaGreatR
open Go.RowKit Go.Maps
set_option maxRecDepth 20000 in
set_option maxHeartbeats 1500000 in
theorem eachO_ok {W : World} {g gt n : Nat} {y : Lay} (I : Nat → Nat → World → Prop) (more : Nat → Bool) (F : Nat → Nat → Int) (Q : World → Prop)
    (hLay : Calls Tryz.prog 98 #[.pointer (some ⟨g, 0, none⟩)] W fun e W' => e = .returned (.agg (layRow y)) ∧ I 1 (n + 4) W') (hyi : y.i = 60)
    (hSh : ∀ (k q m : Nat) V, 1 ≤ k → k ≤ 60 → k / 16 = q → I k (m + 1) V → Calls Tryz.prog 46 #[.pointer (some ⟨g, 0, none⟩), .int .i64 (k : Int)] V fun e W' => e = .returned (.tuple #[.agg (shRow (33 + (q : Int)) ((q : Int) * 16) (F q)), .int .i64 0]) ∧ I k m W')
    (hLt : ∀ k m V V', I k m V → Below V.heap.size V V' → I k m V') (hF : ∀ q, Byt (F q))
    (hcl : ∀ (k q m : Nat) V, 1 ≤ k → k ≤ 60 → k / 16 = q → (∀ j, 1 ≤ j → j < k → more j = true) → I k m V → Calls Tryz.prog 57 #[.pointer (some ⟨gt, 0, none⟩), .int .i64 (k : Int), .agg (nodN (F q) (k % 16 * 64))] V fun e V' => e = .returned (.bool (more k)) ∧ I (k + 1) m V' ∧ Keeps V V')
    (hQ1 : ∀ m V, n ≤ m → (∀ j, 1 ≤ j → j < 61 → more j = true) → I 61 m V → Q V)
    (hQ2 : ∀ k m V, 1 ≤ k → k ≤ 60 → n ≤ m → more k = false → (∀ j, 1 ≤ j → j < k → more j = true) → I (k + 1) m V → Q V) :
    Calls Tryz.prog 48 #[.pointer (some ⟨g, 0, none⟩), .func (.func 57) #[.pointer (some ⟨gt, 0, none⟩)] #[]] W fun e W' => e = .returned (.int .i64 0) ∧ Q W' := by
  have zs := zeroSf
  have HSh : Hid _ := hSh
  have HLt : Hid _ := hLt
  have HCl : Hid _ := hcl
  have HQ1 : Hid _ := hQ1
  have HQ2 : Hid _ := hQ2
  have HF : Hid _ := hF
  have HyI : Hid (y.i = 60) := hyi
  clear hSh hLt hcl hQ1 hQ2 hF hyi
  go_enter Tryz.func48, Tryz.ntmps48
  go_wp2_with (go_at_call 98; fail)
  refine hLay.mono ?_
  rintro e V1 ⟨rfl, hI1⟩
  have HI1 : Hid _ := hI1
  clear hLay hI1
  have hyi := HyI.out
  go_wp2_with (first | (with_reducible refine isFdR 61 ?_; refine wpList_ex rfl (v := .agg (geoRow y.b y.l y.i)) (exec_geoF rfl rfl) ?_) | (with_reducible refine isFdR 26 ?_; refine wpList_ex rfl (v := .int .i64 60) (by rw [← hyi]; exact exec_inoF rfl rfl) ?_))
  clear hyi HyI
  go_loopw [6] (fun s6 wx => ∃ r a : Nat, r ≤ 4 ∧ s6 = .int .i64 (a : Int) ∧ Hid (stK r = a) ∧ Hid (I a (n + (4 - r)) wx ∧ ∀ j, 1 ≤ j → j < a → more j = true)) (fun s6 _ => 61 - (intOf s6).toNat)
  case atStart => exact ⟨0, 1, by omega, rfl, rfl, HI1.out, fun j h1 h2 => by omega⟩
  case round =>
    obtain ⟨r, a, hr, rfl, HA, HI⟩ := hrel
    by_cases hr4 : r = 4
    · subst hr4
      obtain rfl : 61 = a := HA.out
      have hq : Q wr := HQ1.out _ wr (Nat.le_add_right n (4 - 4)) HI.out.2 HI.out.1
      have HQ : Hid _ := hq
      rw [show ((61 : Nat) : Int) = 61 from rfl]
      clear HI hq HCl HSh HLt HQ1 HQ2
      go_wp2
      go_ret
      exact ⟨rfl, HQ.out⟩
    · obtain ⟨z, hZ, ha1, ha2, he, hae, hz61, hdv⟩ := stK_facts (show r ≤ 3 by omega) HA.out
      have hb4 : n + (4 - r) = (n + (3 - r)) + 1 := by omega
      have hIr := HI.out.1
      rw [hb4] at hIr
      have hsh := HSh.out a r (n + (3 - r)) wr ha1 ha2 (hdv a (Nat.le_refl _) hae) hIr
      have HMr : Hid _ := HI.out.2
      have HE : Hid (min 61 ((r : Int) * 16 + 16) = (z : Int)) := he
      have HZ : Hid (stK (r + 1) = z) := hZ
      have hrb : r ≤ 3 := by omega
      have HDv : Hid _ := hdv
      have HA1 : Hid (1 ≤ a) := ha1
      have HA2 : Hid (z ≤ 61) := hz61
      have HAE : Hid (a < z) := hae
      have t1 : decide ((a : Int) ≤ 60) = true := decide_eq_true (by omega)
      clear HI hIr HI1 he hZ hdv ha1 hae hz61 HA
      go_wp2_with (go_at_call 46; fail)
      refine hsh.mono ?_
      rintro e V2 ⟨rfl, hI2⟩
      have HI3 : Hid _ := HLt.out _ _ _ _ hI2 (below_new V2 (.cells (shRow (33 + (r : Int)) ((r : Int) * 16) (F r)) 111))
      have HS3 : Hid ((V2.alloc (.cells (shRow (33 + (r : Int)) ((r : Int) * 16) (F r)) 111)).heap[V2.heap.size]? = some (.cells (shRow (33 + (r : Int)) ((r : Int) * 16) (F r)) 111)) := heap_alloc_new _ _
      clear hsh hI2 t1
      go_upto_region 5 with (first | (with_reducible refine isStoreR 111 ?_; refine wpList_stNew 111 rfl (.tmp 7) (.tmp 21) rfl V2.heap.size (shRow (33 + (r : Int)) ((r : Int) * 16) (F r)) (shRow 0 0 nought) 111 (sf_info _ _ _) (sh_two _ _ _ _ _ _) (sh_one _ _ _) rfl rfl rfl ?_))
      generalize V2.alloc (.cells (shRow (33 + (r : Int)) ((r : Int) * 16) (F r)) 111) = V3 at *
      generalize V2.heap.size = gs at *
      have cb := sf_base HS3.out
      have e1 : IntKind.i64.wrap ((r : Int) * 16 + 16) = (r : Int) * 16 + 16 := by rw [IntKind.wrap_i64]; omega
      have e2 := HE.out
      go_wp2
      clear cb e1 e2
      go_loopw [6] (fun s6 wx => ∃ k : Nat, a ≤ k ∧ k ≤ z ∧ s6 = .int .i64 (k : Int) ∧ Hid (I k (n + (3 - r)) wx ∧ wx.heap[gs]? = some (.cells (shRow (33 + (r : Int)) ((r : Int) * 16) (F r)) 111) ∧ ∀ j, 1 ≤ j → j < k → more j = true)) (fun s6 _ => z - (intOf s6).toNat)
      case atStart => exact ⟨a, Nat.le_refl _, Nat.le_of_lt HAE.out, rfl, HI3.out, HS3.out, HMr.out⟩
      case round =>
        obtain ⟨k, hk1, hk2, rfl, HJ⟩ := hrel
        by_cases hkz : k < z
        · have hkq : k / 16 = r := HDv.out k hk1 hkz
          have hk60 : k ≤ 60 := by have := HA2.out; omega
          have hk11 : 1 ≤ k := Nat.le_trans HA1.out hk1
          have hnd := node_ok (k := (k : Int)) (lo := k % 16 * 64) HJ.out.2.1 (HF.out r) (by omega) (by omega)
          have t2 : decide ((k : Int) < (z : Int)) = true := decide_eq_true (by omega)
          have HJ' : Hid _ := HJ.out
          clear HJ
          go_wp2_with (go_at_call 47; fail)
          refine hnd.mono ?_
          rintro e V4 ⟨rfl, hb4⟩
          have hI4 := HLt.out _ _ _ _ HJ'.out.1 hb4
          have hS4 := heap_kept HJ'.out.2.1 hb4
          have HM4 : Hid _ := HJ'.out.2.2
          have hc := HCl.out k r (n + (3 - r)) V4 hk11 hk60 hkq HM4.out hI4
          have HS4 : Hid _ := hS4
          clear hnd hb4 HJ' hI4 hS4
          cases hm : more k
          · rw [hm] at hc
            go_wp2_with (go_at_call 57; fail)
            refine hc.mono ?_
            rintro e V5 ⟨rfl, hI5, _⟩
            have hq : Q V5 := HQ2.out k (n + (3 - r)) V5 hk11 hk60 (Nat.le_add_right _ _) hm HM4.out hI5
            have HQ : Hid _ := hq
            clear hc hI5 hq
            go_wp2
            go_ret
            exact ⟨rfl, HQ.out⟩
          · rw [hm] at hc
            go_wp2_with (go_at_call 57; fail)
            refine hc.mono ?_
            rintro e V5 ⟨rfl, hI5, hKp⟩
            have HN : Hid (I (k + 1) (n + (3 - r)) V5 ∧ V5.heap[gs]? = some (.cells (shRow (33 + (r : Int)) ((r : Int) * 16) (F r)) 111) ∧ ∀ j, 1 ≤ j → j < k + 1 → more j = true) := ⟨hI5, hKp _ _ HS4.out, fun j h1 h2 => by
              rcases Nat.lt_or_ge j k with q | q
              · exact HM4.out j h1 q
              · rw [show j = k by omega]; exact hm⟩
            have e3 : IntKind.i64.wrap ((k : Int) + 1) = ((k + 1 : Nat) : Int) := by rw [IntKind.wrap_i64]; omega
            clear hc hI5 hKp
            go_wp2
            exact ⟨⟨k + 1, by omega, by omega, rfl, HN.out⟩, by simp [intOf]; omega⟩
        · obtain rfl : k = z := by omega
          have t2 : decide ((k : Int) < (k : Int)) = false := decide_eq_false (by omega)
          have HN : Hid (I k (n + (4 - (r + 1))) wr ∧ ∀ j, 1 ≤ j → j < k → more j = true) := by
            rw [show 4 - (r + 1) = 3 - r by omega]
            exact ⟨HJ.out.1, HJ.out.2.2⟩
          clear HJ
          go_wp2
          have hz61 := HA2.out
          have haz := HAE.out
          exact ⟨⟨r + 1, k, by omega, rfl, HZ.out, HN.out⟩, by simp [intOf]; omega⟩
end Go.Proofs.YtiejhjngcnkimaaGreatR
/- The least free inode taken; the inodes without names listed. -/
namespace Go.Proofs.YtiejhjngcnkimaaGreatR
open Go.RowKit Go.Maps
section
variable {w W W' : World} {g d n : Nat} {x x1 : Go.Proofs.YtiejhjngcnkimaaGreatRW.LSt} {book book1 : Int → Nat → Int} {ks ks' : List (Nat × Obj)}
set_option maxHeartbeats 1600000 in
theorem RLog.rtakeFree (h : RLog w W g d x book n ks) (ho : x.opn = true) (l s bb : Int) (dd : Nat → Int) :
    Calls Tryz.prog 15 #[.pointer (some ⟨g, 0, none⟩), .agg (Go.Proofs.YtiejhjngcnkimaaGreatRN.node16 0 l s bb dd)] W fun e W' => e = .returned (.tuple #[.int .i64 0, .int .i64 2]) ∧ RLog w W' g d x book n ks := by
  have hL0 := h.add (.cells (Go.Proofs.YtiejhjngcnkimaaGreatRN.node16 0 l s bb dd) 45)
  have hrf := hL0.rrefuses
  rw [if_pos ho] at hrf
  have HIf : Hid (∀ V, Calls Tryz.prog 55 #[.agg (Go.Proofs.YtiejhjngcnkimaaGreatRN.node16 0 l s bb dd)] V fun r V' => r = .returned (.bool true) ∧ Below V.heap.size V V') := fun V => isFree_ok 0 l s bb dd V
  have HNi : Hid _ := nd_info 0 l s bb dd
  clear h ho hL0
  generalize Go.Proofs.YtiejhjngcnkimaaGreatRN.node16 0 l s bb dd = N at *
  go_enter Tryz.func15, Tryz.ntmps15
  go_upto_region 1 with fail
  generalize W.alloc (.cells N 45) = V at *
  generalize W.heap.size = gn at *
  go_wp2_with (go_at_call 50; fail)
  refine hrf.mono ?_
  rintro e V1 ⟨rfl, hL1⟩
  have hn := hL1.obj (List.mem_cons_self ..)
  have HL1 : Hid _ := hL1
  have hif := HIf.out V1
  clear hrf hL1
  go_wp2_with (first | (with_reducible refine isLoadR 45 ?_; refine wpList_ldR 45 Tryz.underlying45 rfl rfl (.tmp 3) rfl gn rfl N 45 (0, 0) HNi.out hn ?_) | (go_at_call 55; fail))
  refine hif.mono ?_
  rintro e V2 ⟨rfl, hb2⟩
  have HL : Hid _ := (HL1.out.later hb2).drop (ks' := ks) fun p hp => List.mem_cons_of_mem _ hp
  clear hif hb2 HL1 hn
  go_wp2
  exact bodyPost_ret (results_tmp2 rfl _ _ _) rfl ⟨rfl, HL.out⟩
set_option maxRecDepth 20000 in
set_option maxHeartbeats 3200000 in
theorem RLog.rtake (h : RLog w W g d x book (n + 1 + 4) ks) (hg : Ge x) (ho : x.opn = true) (hbk : BkB book) (k q lo : Nat) (hk : 1 ≤ k ∧ k ≤ 60) (hq : k / 16 = q) (hlo : k % 16 * 64 = lo) (hfr : kdP book k = 0) (hle : ∀ j, 1 ≤ j → j < k → kdP book j ≠ 0) {kk l s bb : Int} {dd : Nat → Int} (hkk : kk ≠ 0) (hN : Go.Proofs.YtiejhjngcnkimaaGreatRN.NodeOk kk l s bb dd)
    (hW : ∀ V ks0, RLog w V g d x book n ks0 → Calls Tryz.prog 103 #[.pointer (some ⟨g, 0, none⟩), .int .i64 (33 + (q : Int)), .agg (blk (Go.Proofs.YtiejhjngcnkimaaGreatRN.over (book (33 + (q : Int))) lo 64 (Go.Proofs.YtiejhjngcnkimaaGreatRN.encN kk l s bb dd 12)))] V fun e W' => e = .returned (.int .i64 0) ∧ RLog w W' g d x1 book1 n ks0) :
    Calls Tryz.prog 15 #[.pointer (some ⟨g, 0, none⟩), .agg (Go.Proofs.YtiejhjngcnkimaaGreatRN.node16 kk l s bb dd)] W fun e W' => e = .returned (.tuple #[.int .i64 (k : Int), .int .i64 0]) ∧ RLog w W' g d x1 book1 n ks := by
  have zt := zeroTl
  have hmf : ∀ (fn : Fn) (first cap : Array Value) (w : World), (Instr.makeFunc fn first cap).run Tryz.prog w = .ok (.func fn first cap) w := fun _ _ _ _ => rfl
  have hL0 := h.add (.cells (Go.Proofs.YtiejhjngcnkimaaGreatRN.node16 kk l s bb dd) 45)
  have hrf := hL0.rrefuses
  rw [if_pos ho] at hrf
  have hkb : (kk == 0) = false := beq_eq_false_iff_ne.2 hkk
  have HIf : Hid (∀ V, Calls Tryz.prog 55 #[.agg (Go.Proofs.YtiejhjngcnkimaaGreatRN.node16 kk l s bb dd)] V fun r V' => r = .returned (.bool false) ∧ Below V.heap.size V V') := fun V => by
    have := isFree_ok kk l s bb dd V
    rwa [hkb] at this
  have HNi : Hid _ := nd_info kk l s bb dd
  have HPu : Hid (∀ V ks0, RLog w V g d x book (n + 1) ks0 → Calls Tryz.prog 51 #[.pointer (some ⟨g, 0, none⟩), .int .i64 (k : Int), .agg (Go.Proofs.YtiejhjngcnkimaaGreatRN.node16 kk l s bb dd)] V fun e W' => e = .returned (.int .i64 0) ∧ RLog w W' g d x1 book1 n ks0) := fun V ks0 hV => hV.rput hg k q lo hk hq hlo hN hW
  have HEa : Hid (∀ (V : World) gt ks0, w.heap.size ≤ gt → (∀ p ∈ ks0, p.1 ≠ gt) → RLog w V g d x book (n + 1 + 4) ((gt, .cells (tlRow 0 0 (.slice none 0 0)) 116) :: ks0) → Calls Tryz.prog 48 #[.pointer (some ⟨g, 0, none⟩), .func (.func 56) #[.pointer (some ⟨gt, 0, none⟩)] #[]] V fun e W' => e = .returned (.int .i64 0) ∧ RLog w W' g d x book (n + 1) ((gt, .cells (tlRow 0 (k : Int) (.slice none 0 0)) 116) :: ks0)) := by
    intro V gt ks0 hgt hne hV
    refine eachF_ok (n := n + 1) (y := layL x) (fun j m U => RLog w U g d x book m ((gt, .cells (tlRow 0 (if j ≤ k then 0 else (k : Int)) (.slice none 0 0)) 116) :: ks0)) (fun j => !(kdP book j == 0)) (fun q => book (33 + (q : Int))) _ ?_ hg.i ?_ ?_ (fun q => hbk _) ?_ ?_ ?_
    · rw [if_pos hk.1]; exact hV.layout
    · intro j r m U hk1 hk2 hq hU
      exact hU.shelfOf hg j r ⟨hk1, hk2⟩ hq
    · intro j m U U' hU hbl
      exact hU.later hbl
    · intro j r m U hk1 hk2 hq hm hU
      have hjk : j ≤ k := Nat.le_of_not_lt fun hlt => by
        have := hm k hk.1 hlt
        rw [hfr] at this
        cases this
      rw [if_pos hjk] at hU
      have hrow := hU.obj (List.mem_cons_self ..)
      refine (findFree_ok hrow (j : Int) (by omega) _ _ _ _ _).mono ?_
      rintro rr U' ⟨rfl, hr1, hr2⟩
      subst hq
      refine ⟨rfl, hU.swap hr2 hgt hne ?_, keeps_of hrow hr2⟩
      rw [hr1]
      have he : (if kdP book j = 0 then (j : Int) else 0) = if j + 1 ≤ k then 0 else (k : Int) := by
        by_cases hjk2 : j = k
        · subst hjk2
          rw [if_pos hfr, if_neg (by omega)]
        · rw [if_neg (hle j hk1 (by omega)), if_pos (by omega)]
      rw [← he]
      rfl
    · intro m U _ hm _
      have := hm k hk.1 (by omega)
      rw [hfr] at this
      cases this
    · intro j m U hj1 hj2 hm hf ht hU
      have hjk : j = k := by
        rcases Nat.lt_trichotomy j k with q | q | q
        · exact absurd (by simpa using hf) (hle j hj1 q)
        · exact q
        · have := ht k hk.1 q
          rw [hfr] at this
          cases this
      subst hjk
      rw [if_neg (by omega)] at hU
      exact hU.less hm
  have t1 : ((k : Int) == 0) = false := beq_eq_false_iff_ne.2 (by omega)
  clear h hg hbk hk hq hlo hfr hle hkk hkb hN hW hL0 ho
  generalize Go.Proofs.YtiejhjngcnkimaaGreatRN.node16 kk l s bb dd = N at *
  generalize (k : Int) = K at *
  go_enter Tryz.func15, Tryz.ntmps15
  go_upto_region 1 with fail
  generalize W.alloc (.cells N 45) = V at *
  generalize W.heap.size = gn at *
  go_wp2_with (go_at_call 50; fail)
  refine hrf.mono ?_
  rintro e V1 ⟨rfl, hL1⟩
  have hn := hL1.obj (List.mem_cons_self ..)
  have HL1 : Hid _ := hL1
  have hif := HIf.out V1
  clear hrf hL1 HIf
  go_wp2_with (first | (with_reducible refine isLoadR 45 ?_; refine wpList_ldR 45 Tryz.underlying45 rfl rfl (.tmp 3) rfl gn rfl N 45 (0, 0) HNi.out hn ?_) | (go_at_call 55; fail))
  refine hif.mono ?_
  rintro e V2 ⟨rfl, hb2⟩
  have hL2 := HL1.out.later hb2
  have hea := HEa.out _ V2.heap.size _ hL2.below.size hL2.ksLt (hL2.add (.cells (tlRow 0 0 (.slice none 0 0)) 116))
  clear hif hb2 HL1 hn hL2 HEa
  go_upto_region 7 with fail
  generalize V2.alloc (.cells (tlRow 0 0 (.slice none 0 0)) 116) = V3 at *
  generalize V2.heap.size = gt at *
  go_wp2_with (go_at_call 48; fail)
  refine hea.mono ?_
  rintro e V4 ⟨rfl, hL4⟩
  have c1 : V4.cell? ⟨gt, 1, none⟩ = some (.int .i64 K) := Joins.cell_of_block (hL4.obj (List.mem_cons_self ..)) 1
  have hn4 := hL4.obj (List.mem_cons_of_mem _ (List.mem_cons_self ..))
  have hpu := HPu.out V4 _ hL4
  clear hea hL4 HPu
  go_wp2_with (first | (with_reducible refine isLoadR 45 ?_; refine wpList_ldR 45 Tryz.underlying45 rfl rfl (.tmp 3) rfl gn rfl N 45 (0, 0) HNi.out hn4 ?_) | (go_at_call 51; fail))
  refine hpu.mono ?_
  rintro e V5 ⟨rfl, hL5⟩
  clear c1 hn4
  have c1 : V5.cell? ⟨gt, 1, none⟩ = some (.int .i64 K) := Joins.cell_of_block (hL5.obj (List.mem_cons_self ..)) 1
  have HL : Hid _ := hL5.drop (ks' := ks) fun p hp => List.mem_cons_of_mem _ (List.mem_cons_of_mem _ hp)
  clear hpu hL5
  go_wp2
  exact bodyPost_ret (results_tmp2 rfl _ _ _) rfl ⟨rfl, HL.out⟩
end
end Go.Proofs.YtiejhjngcnkimaaGreatR
/- The inodes without names listed, where there is one: the rack's Orphans. -/
namespace Go.Proofs.YtiejhjngcnkimaaGreatR
open Go.RowKit Go.Maps
theorem pushI (w : World) (k : Int) (ty : TypeId) : ∃ (go cap : Nat) (cur : Array Value) (w' : World), (Builtin.append_ #[54, 54] ty #[.slice none 0 0, .slice (some ⟨w.heap.size, 0, none⟩) 1 1]).run Tryz.prog (w.alloc (.cells #[.int .i64 k] 3)) = .ok (.slice (some ⟨go, 0, none⟩) 1 cap) w' ∧ w'.heap[go]? = some (.cells cur 3) ∧ cur[0]? = some (.int .i64 k) ∧ w.heap.size ≤ go ∧ Below w.heap.size w w' := by
  obtain ⟨i0, hi0, hz0, hz1, hz2⟩ := info_parts info3
  obtain ⟨v', w', hr, ho, hb, _⟩ := own_pushF (en := fun x : Int => [Value.int .i64 x]) (sz := 1) (e := 3) (st := 54) (bytes := 8) (fun _ => rfl) (fun x u hu => by simp only [List.mem_cons, List.not_mem_nil, or_false] at hu; subst hu; rfl) Tryz.underlying54 hi0 hz0 hz1 hz2 rfl (by omega) (by omega) (l := []) (B := w.heap.size) (w := w) (v := .slice none 0 0) (World.ownsRow_nil w _ 3 1) (Nat.le_refl _) (by simp) k ty
  rcases ho.2 with ⟨_, h0⟩ | ⟨go, cap, cur, rfl, hge, hg, hn, hc, hs, ht⟩
  · simp at h0
  · refine ⟨go, cap, cur, w', hr, hg, ?_, hge, hb⟩
    have h1 : cur.toList.take 1 = [Value.int .i64 k] := by simpa using ht
    rw [← Array.getElem?_toList]
    cases hl : cur.toList with
    | nil => rw [hl] at h1; simp at h1
    | cons a t => rw [hl] at h1; simp at h1; simp [h1]
set_option maxHeartbeats 1600000 in
theorem listOrphan_no {V : World} {gt : Nat} (i k l s b : Int) (e : Nat → Int) (hno : k = 0 ∨ l ≠ 0) :
    Calls Tryz.prog 57 #[.pointer (some ⟨gt, 0, none⟩), .int .i64 i, .agg (Go.Proofs.YtiejhjngcnkimaaGreatRN.node16 k l s b e)] V fun r V' => r = .returned (.bool true) ∧ Below V.heap.size V V' := by
  have hb := below_new V (.cells (Go.Proofs.YtiejhjngcnkimaaGreatRN.node16 k l s b e) 45)
  have hr := heap_alloc_new V (.cells (Go.Proofs.YtiejhjngcnkimaaGreatRN.node16 k l s b e) 45)
  have hif := isFree_ok k l s b e (V.alloc (.cells (Go.Proofs.YtiejhjngcnkimaaGreatRN.node16 k l s b e) 45))
  have HLk : Hid (∀ U : World, U.heap[V.heap.size]? = some (.cells (Go.Proofs.YtiejhjngcnkimaaGreatRN.node16 k l s b e) 45) → U.cell? ⟨V.heap.size, 1, none⟩ = some (.int .u16 l)) := fun U hU => Joins.cell_of_block hU 1
  have HB : Hid _ := hb
  have HR : Hid _ := hr
  have HI : Hid _ := nd_info k l s b e
  clear hb hr
  generalize Go.Proofs.YtiejhjngcnkimaaGreatRN.node16 k l s b e = N at *
  go_enter Tryz.func57, Tryz.ntmps57
  go_upto_region 1 with fail
  generalize V.alloc (.cells N 45) = V1 at *
  go_wp2_with (first | (with_reducible refine isLoadR 45 ?_; refine wpList_ldR 45 Tryz.underlying45 rfl rfl (.tmp 5) rfl V.heap.size rfl N 45 (0, 0) HI.out HR.out ?_) | (go_at_call 55; fail))
  refine hif.mono ?_
  rintro r V2 ⟨rfl, hb2⟩
  have c1 := HLk.out V2 (heap_kept HR.out hb2)
  have HB2 : Hid _ := below_next HB.out hb2
  clear hif hb2 HR HB
  by_cases hk : k = 0
  · subst hk
    go_wp2
    go_ret
    exact ⟨rfl, HB2.out⟩
  · have hkb : (k == 0) = false := beq_eq_false_iff_ne.2 hk
    have hlb : (l == 0) = false := beq_eq_false_iff_ne.2 (by rcases hno with q | q; exact absurd q hk; exact q)
    go_wp2
    go_ret
    exact ⟨rfl, HB2.out⟩
set_option maxRecDepth 20000 in
set_option maxHeartbeats 2400000 in
theorem listOrphan_yes {V : World} {gt : Nat} {c f : Int} (h : V.heap[gt]? = some (.cells (tlRow c f (.slice none 0 0)) 116)) (i k s b : Int) (e : Nat → Int) (hk : k ≠ 0) :
    Calls Tryz.prog 57 #[.pointer (some ⟨gt, 0, none⟩), .int .i64 i, .agg (Go.Proofs.YtiejhjngcnkimaaGreatRN.node16 k 0 s b e)] V fun r V' => r = .returned (.bool true) ∧ ∃ (U : World) (go cap : Nat) (cur : Array Value), Below V.heap.size V U ∧ V.heap.size ≤ go ∧ U.heap[go]? = some (.cells cur 3) ∧ cur[0]? = some (.int .i64 i) ∧ V' = U.setCell ⟨gt, 2, none⟩ (.slice (some ⟨go, 0, none⟩) 1 cap) := by
  have hgt : gt < V.heap.size := (Array.getElem?_eq_some_iff.1 h).1
  have hb := below_new V (.cells (Go.Proofs.YtiejhjngcnkimaaGreatRN.node16 k 0 s b e) 45)
  have hr := heap_alloc_new V (.cells (Go.Proofs.YtiejhjngcnkimaaGreatRN.node16 k 0 s b e) 45)
  have hif := isFree_ok k 0 s b e (V.alloc (.cells (Go.Proofs.YtiejhjngcnkimaaGreatRN.node16 k 0 s b e) 45))
  have HLk : Hid (∀ U : World, U.heap[V.heap.size]? = some (.cells (Go.Proofs.YtiejhjngcnkimaaGreatRN.node16 k 0 s b e) 45) → U.cell? ⟨V.heap.size, 1, none⟩ = some (.int .u16 0)) := fun U hU => Joins.cell_of_block hU 1
  have HT : Hid _ := heap_kept h hb
  have HB : Hid _ := hb
  have HR : Hid _ := hr
  have HI : Hid _ := nd_info k 0 s b e
  clear hb hr h
  generalize Go.Proofs.YtiejhjngcnkimaaGreatRN.node16 k 0 s b e = N at *
  go_enter Tryz.func57, Tryz.ntmps57
  go_upto_region 1 with fail
  generalize V.alloc (.cells N 45) = V1 at *
  go_wp2_with (first | (with_reducible refine isLoadR 45 ?_; refine wpList_ldR 45 Tryz.underlying45 rfl rfl (.tmp 5) rfl V.heap.size rfl N 45 (0, 0) HI.out HR.out ?_) | (go_at_call 55; fail))
  refine hif.mono ?_
  rintro r V2 ⟨rfl, hb2⟩
  have c1 := HLk.out V2 (heap_kept HR.out hb2)
  have hT2 := heap_kept HT.out hb2
  have hB2 := below_next HB.out hb2
  have c2 : V2.cell? ⟨gt, 2, none⟩ = some (.slice none 0 0) := Joins.cell_of_block hT2 2
  have hkb : (k == 0) = false := beq_eq_false_iff_ne.2 hk
  clear hif hb2 HR HB HT
  obtain ⟨go, cap, cur, U, hrun, hgo, hcur, hge, hbU⟩ := pushI V2 i 54
  have hTU := heap_kept hT2 hbU
  have cU : U.cell? ⟨gt, 2, none⟩ = some (.slice none 0 0) := Joins.cell_of_block hTU 2
  have fU := frozen_row hTU 2
  have HF : Hid (Below V.heap.size V U ∧ V.heap.size ≤ go ∧ U.heap[go]? = some (.cells cur 3) ∧ cur[0]? = some (.int .i64 i)) := ⟨below_next hB2 hbU, Nat.le_trans hB2.size hge, hgo, hcur⟩
  clear hgo hcur hge hbU hTU hT2 hB2
  go_wp2_with (first | (refine wpList_app (st := 54) (ad := ⟨V2.heap.size, 0, none⟩) (m := 1) (c := 1) (W' := U) (v' := .slice (some ⟨go, 0, none⟩) 1 cap) rfl (.tmp 19) (.tmp 21) rfl rfl rfl hrun ?_))
  go_ret
  exact ⟨rfl, U, go, cap, cur, HF.out.1, HF.out.2.1, HF.out.2.2.1, HF.out.2.2.2, rfl⟩
end Go.Proofs.YtiejhjngcnkimaaGreatR
/- The rack's Orphans over a log that lives, where one inode has no name; two lists of one number held against each other. -/
namespace Go.Proofs.YtiejhjngcnkimaaGreatR
open Go.RowKit Go.Maps
theorem keeps_below {V V' : World} (h : Below V.heap.size V V') : Keeps V V' := fun _ _ hb => heap_kept hb h
theorem Keeps.trans {V V' V'' : World} (h1 : Keeps V V') (h2 : Keeps V' V'') : Keeps V V'' := fun b R hb => h2 b R (h1 b R hb)
section
variable {w W W' : World} {g d n : Nat} {x x1 : Go.Proofs.YtiejhjngcnkimaaGreatRW.LSt} {book book1 : Int → Nat → Int} {ks ks' : List (Nat × Obj)}
def OrI (w : World) (g d : Nat) (x : Go.Proofs.YtiejhjngcnkimaaGreatRW.LSt) (book : Int → Nat → Int) (ks : List (Nat × Obj)) (gt K j m : Nat) (U : World) : Prop :=
  (j ≤ K ∧ RLog w U g d x book m ((gt, .cells (tlRow 0 0 (.slice none 0 0)) 116) :: ks)) ∨
  (K < j ∧ ∃ (go cap : Nat) (cur : Array Value), RLog w U g d x book m ((gt, .cells (tlRow 0 0 (.slice (some ⟨go, 0, none⟩) 1 cap)) 116) :: (go, .cells cur 3) :: ks) ∧ cur[0]? = some (.int .i64 (K : Int)))
set_option maxRecDepth 20000 in
set_option maxHeartbeats 3200000 in
theorem RLog.orphans (h : RLog w W g d x book (n + 4) ks) (hg : Ge x) (hbk : BkB book) (K : Nat) (hK : 1 ≤ K ∧ K ≤ 60) (hy : kdP book K ≠ 0 ∧ lkP book K = 0) (hno : ∀ j, 1 ≤ j → j ≤ 60 → j ≠ K → kdP book j = 0 ∨ lkP book j ≠ 0) :
    Calls Tryz.prog 16 #[.pointer (some ⟨g, 0, none⟩)] W fun e W' => ∃ (go cap : Nat) (cur : Array Value), e = .returned (.tuple #[.slice (some ⟨go, 0, none⟩) 1 cap, .int .i64 0]) ∧ cur[0]? = some (.int .i64 (K : Int)) ∧ RLog w W' g d x book n ((go, .cells cur 3) :: ks) := by
  have zt := zeroTl
  have hmf : ∀ (fn : Fn) (first cap : Array Value) (w : World), (Instr.makeFunc fn first cap).run Tryz.prog w = .ok (.func fn first cap) w := fun _ _ _ _ => rfl
  have hck := h.check
  have HEa : Hid (∀ (V : World) gt, w.heap.size ≤ gt → (∀ p ∈ ks, p.1 ≠ gt) → RLog w V g d x book (n + 4) ((gt, .cells (tlRow 0 0 (.slice none 0 0)) 116) :: ks) → Calls Tryz.prog 48 #[.pointer (some ⟨g, 0, none⟩), .func (.func 57) #[.pointer (some ⟨gt, 0, none⟩)] #[]] V fun e W' => e = .returned (.int .i64 0) ∧ ∃ (go cap : Nat) (cur : Array Value), cur[0]? = some (.int .i64 (K : Int)) ∧ RLog w W' g d x book n ((gt, .cells (tlRow 0 0 (.slice (some ⟨go, 0, none⟩) 1 cap)) 116) :: (go, .cells cur 3) :: ks)) := by
    intro V gt hgt hne hV
    refine eachO_ok (n := n) (y := layL x) (OrI w g d x book ks gt K) (fun _ => true) (fun q => book (33 + (q : Int))) _ ?_ hg.i ?_ ?_ (fun q => hbk _) ?_ ?_ ?_
    · refine hV.layout.mono ?_
      rintro e V' ⟨rfl, hL⟩
      exact ⟨rfl, .inl ⟨hK.1, hL⟩⟩
    · intro k q m U hk1 hk2 hq hU
      rcases hU with ⟨h1, hU⟩ | ⟨h1, go, cap, cur, hU, hc⟩
      · refine (hU.shelfOf hg k q ⟨hk1, hk2⟩ hq).mono ?_
        rintro e V' ⟨rfl, hL⟩
        exact ⟨rfl, .inl ⟨h1, hL⟩⟩
      · refine (hU.shelfOf hg k q ⟨hk1, hk2⟩ hq).mono ?_
        rintro e V' ⟨rfl, hL⟩
        exact ⟨rfl, .inr ⟨h1, go, cap, cur, hL, hc⟩⟩
    · intro k m U U' hU hbl
      rcases hU with ⟨h1, hU⟩ | ⟨h1, go, cap, cur, hU, hc⟩
      · exact .inl ⟨h1, hU.later hbl⟩
      · exact .inr ⟨h1, go, cap, cur, hU.later hbl, hc⟩
    · intro k q m U hk1 hk2 hq _ hU
      subst hq
      by_cases hkK : k = K
      · subst hkK
        rcases hU with ⟨_, hU⟩ | ⟨h1, _⟩
        · have hrow := hU.obj (List.mem_cons_self ..)
          have hnd : nodN (book (33 + ((k / 16 : Nat) : Int))) (k % 16 * 64) = Go.Proofs.YtiejhjngcnkimaaGreatRN.node16 (kdP book k) 0 (Go.Proofs.YtiejhjngcnkimaaGreatRN.numN (frB (book (33 + ((k / 16 : Nat) : Int))) (k % 16 * 64)) 4 4) (Go.Proofs.YtiejhjngcnkimaaGreatRN.numN (frB (book (33 + ((k / 16 : Nat) : Int))) (k % 16 * 64)) 8 4) (Go.Proofs.YtiejhjngcnkimaaGreatRN.decD (frB (book (33 + ((k / 16 : Nat) : Int))) (k % 16 * 64))) :=
            (show _ = Go.Proofs.YtiejhjngcnkimaaGreatRN.node16 (kdP book k) (lkP book k) _ _ _ from rfl).trans (by rw [hy.2])
          rw [hnd]
          refine (listOrphan_yes hrow (k : Int) _ _ _ _ hy.1).mono ?_
          rintro r U' ⟨rfl, U1, go, cap, cur, hb1, hge, hgo, hcur, rfl⟩
          have hgtU : gt < U.heap.size := (Array.getElem?_eq_some_iff.1 hrow).1
          have hF := hU.fresh hb1 hge hgo
          have hF2 : RLog w U1 g d x book m ((gt, .cells (tlRow 0 0 (.slice none 0 0)) 116) :: (go, .cells cur 3) :: ks) := hF.drop fun p hp => by
            rcases List.mem_cons.1 hp with rfl | hp
            · exact List.mem_cons_of_mem _ (List.mem_cons_self ..)
            · rcases List.mem_cons.1 hp with rfl | hp
              · exact List.mem_cons_self ..
              · exact List.mem_cons_of_mem _ (List.mem_cons_of_mem _ hp)
          have hrow1 := hF2.obj (List.mem_cons_self ..)
          refine ⟨rfl, .inr ⟨by omega, go, cap, cur, hF2.swap (Fr.setCell U1 gt 2 _) hgt (fun p hp => ?_) ?_, hcur⟩, ?_⟩
          · rcases List.mem_cons.1 hp with rfl | hp
            · show go ≠ gt
              omega
            · exact hne p hp
          · rw [heap_setCell_same _ _ _ _ _ _ hrow1]; rfl
          · exact (keeps_below hb1).trans (keeps_of hrow1 (Fr.setCell U1 gt 2 _))
        · omega
      · have hn := hno k hk1 hk2 hkK
        refine (listOrphan_no (gt := gt) (k : Int) _ _ _ _ _ hn).mono ?_
        rintro r U' ⟨rfl, hb1⟩
        refine ⟨rfl, ?_, keeps_below hb1⟩
        rcases hU with ⟨h1, hU⟩ | ⟨h1, go, cap, cur, hU, hc⟩
        · exact .inl ⟨by omega, hU.later hb1⟩
        · exact .inr ⟨by omega, go, cap, cur, hU.later hb1, hc⟩
    · intro m U hm _ hU
      rcases hU with ⟨h1, hU⟩ | ⟨h1, go, cap, cur, hU, hc⟩
      · omega
      · exact ⟨go, cap, cur, hc, hU.less hm⟩
    · intro k m U _ _ _ hf
      cases hf
  clear h hg hbk hK hy hno
  go_enter Tryz.func16, Tryz.ntmps16
  go_wp2_with (go_at_call 45; fail)
  refine hck.mono ?_
  rintro e V1 ⟨rfl, hL1⟩
  have hea := HEa.out _ V1.heap.size hL1.below.size hL1.ksLt (hL1.add (.cells (tlRow 0 0 (.slice none 0 0)) 116))
  clear hck hL1 HEa
  go_upto_region 5 with fail
  generalize V1.alloc (.cells (tlRow 0 0 (.slice none 0 0)) 116) = V2 at *
  generalize V1.heap.size = gt at *
  go_wp2_with (go_at_call 48; fail)
  refine hea.mono ?_
  rintro e V3 ⟨rfl, go, cap, cur, hcur, hL3⟩
  have c2 : V3.cell? ⟨gt, 2, none⟩ = some (.slice (some ⟨go, 0, none⟩) 1 cap) := Joins.cell_of_block (hL3.obj (List.mem_cons_self ..)) 2
  have HL : Hid _ := hL3.drop (ks' := (go, .cells cur 3) :: ks) fun p hp => List.mem_cons_of_mem _ hp
  have HC : Hid _ := hcur
  clear hea hL3 hcur
  go_wp2
  exact bodyPost_ret (results_tmp2 rfl _ _ _) rfl ⟨go, cap, cur, rfl, HC.out, HL.out⟩
end
set_option maxRecDepth 20000 in
set_option maxHeartbeats 1000000 in
theorem sameInts_one (a b : Nat) (K : Int) (cp cq : Nat) (w : World) (ha : w.cell? ⟨a, 0, none⟩ = some (.int .i64 K)) (hb : w.cell? ⟨b, 0, none⟩ = some (.int .i64 K)) :
    Calls Tryz.prog 17 #[.slice (some ⟨a, 0, none⟩) 1 cp, .slice (some ⟨b, 0, none⟩) 1 cq] w fun e w' => e = .returned (.bool true) ∧ Below w.heap.size w w' := by
  have HA : Hid _ := ha
  have HB : Hid _ := hb
  clear ha hb
  go_enter Tryz.func17, Tryz.ntmps17
  go_wp2
  go_loopw [5] (fun s5 wx => ∃ k : Nat, k ≤ 1 ∧ s5 = .int .i64 k ∧ Hid (Below w.heap.size w wx)) (fun s5 _ => 1 - (intOf s5).toNat)
  case atStart => exact ⟨0, by omega, rfl, Below.refl _ _⟩
  case round =>
    obtain ⟨k, hk, rfl, HW⟩ := hrel
    rcases Nat.lt_or_ge k 1 with hk2 | hk2
    · obtain rfl : k = 0 := by omega
      have q1 : wr.cell? ⟨a, 0, none⟩ = some (.int .i64 K) := (HW.out.cell (p := ⟨a, 0, none⟩) (block_lt_of_cell HA.out)).trans HA.out
      have q2 : wr.cell? ⟨b, 0, none⟩ = some (.int .i64 K) := (HW.out.cell (p := ⟨b, 0, none⟩) (block_lt_of_cell HB.out)).trans HB.out
      go_wp2
      go_quiet (fail)
      go_wp2
      exact ⟨⟨1, by omega, by go_num, below_next HW.out (Go.Proofs.YtiejhjngcnkimaaGreatRW.below_drewN _ _)⟩, by simp [intOf]⟩
    · obtain rfl : k = 1 := by omega
      go_wp2
      go_ret
      exact ⟨rfl, HW.out⟩
end Go.Proofs.YtiejhjngcnkimaaGreatR
/- Inodes, and sixty-four bytes, held against each other: equal just where every field and every byte is; no condition. -/
namespace Go.Proofs.YtiejhjngcnkimaaGreatRN
open Go.RowKit
def ten (d : Nat → Int) : Array Value := #[.int .u32 (d 0), .int .u32 (d 1), .int .u32 (d 2), .int .u32 (d 3), .int .u32 (d 4), .int .u32 (d 5), .int .u32 (d 6), .int .u32 (d 7), .int .u32 (d 8), .int .u32 (d 9)]
theorem ten_get (d : Nat → Int) (i : Nat) (h : i < 10) : (ten d)[i]? = some (.int .u32 (d i)) :=
  match i, h with
  | 0, _ => rfl | 1, _ => rfl | 2, _ => rfl | 3, _ => rfl | 4, _ => rfl | 5, _ => rfl | 6, _ => rfl | 7, _ => rfl | 8, _ => rfl | 9, _ => rfl
theorem eachR (et : TypeId) (kd : IntKind) (hagg : ∀ w, (isAgg et).run Tryz.prog w = .ok false w) (hu : Tryz.prog.underlying et = some (.int kd)) (n d : Nat) (A B : Array Value) (f g : Nat → Int) (hA : ∀ i, i < n → A[i]? = some (.int kd (f i))) (hB : ∀ i, i < n → B[i]? = some (.int kd (g i))) (w : World) : ∀ l : List Nat, (∀ i, i ∈ l → i < n) →
    (forIn (m := Sem) l ((none : Option Bool), ()) fun i _ => do
            let x ← part et A (i * 1)
            let y ← part et B (i * 1)
            let b ← Op.equalIn (d + 1) et x y
            if (!b) = true then pure (ForInStep.done (some false, ())) else pure (ForInStep.yield (none, ()))).run Tryz.prog w
      = .ok ((if l.all (fun i => f i == g i) then none else some false), ()) w
  | [], _ => by simp
  | i :: l, h => by
    have h1 : (part et A (i * 1)).run Tryz.prog w = .ok (.int kd (f i)) w := by simp [part, hagg, hA i (h i (by simp))]
    have h2 : (part et B (i * 1)).run Tryz.prog w = .ok (.int kd (g i)) w := by simp [part, hagg, hB i (h i (by simp))]
    have ih := eachR et kd hagg hu n d A B f g hA hB w l fun j hj => h j (by simp [hj])
    have he := run_equalIn_int (P := Tryz.prog) w d et kd kd (f i) (g i) hu
    simp only [List.forIn_cons, Sem.run_bind, h1, h2, he, Result.andThen_ok, List.all_cons]
    by_cases e : f i = g i
    · simp only [e, beq_self_eq_true, Bool.not_true, Bool.false_eq_true, if_false, Sem.run_pure, Result.andThen_ok, Bool.true_and]
      exact ih
    · have e' : (f i == g i) = false := by simp [e]
      simp [e']
def sameN (n : Nat) (f g : Nat → Int) : Bool := (List.range n).all fun i => f i == g i
theorem sameN_iff (n : Nat) (f g : Nat → Int) : sameN n f g = true ↔ ∀ i, i < n → f i = g i := by
  simp [sameN, List.all_eq_true, List.mem_range]
theorem eqR (ty et : TypeId) (kd : IntKind) (hagg : ∀ w, (isAgg et).run Tryz.prog w = .ok false w) (hu : Tryz.prog.underlying et = some (.int kd)) (hs : ∀ w, (sizeOf et).run Tryz.prog w = .ok 1 w) (n : Nat) (hty : Tryz.prog.underlying ty = some (.array n et)) (d : Nat) (A B : Array Value) (f g : Nat → Int) (hA : ∀ i, i < n → A[i]? = some (.int kd (f i))) (hB : ∀ i, i < n → B[i]? = some (.int kd (g i))) (w : World) :
    (Op.equalIn (d + 2) ty (.agg A) (.agg B)).run Tryz.prog w = .ok (sameN n f g) w := by
  have key := eachR et kd hagg hu n d A B f g hA hB w (List.range' 0 [:n].size) (fun i hi => by simpa [Std.Legacy.Range.size] using hi)
  rw [Op.equalIn]
  simp only [Sem.run_bind, run_underlying hty, Result.andThen_ok]
  rw [hs w]
  simp only [Result.andThen_ok, Std.Legacy.Range.forIn_eq_forIn_range']
  refine (congrArg (fun r => Result.andThen r _) key).trans ?_
  have hr : List.range' 0 [:n].size = List.range n := by simp [Std.Legacy.Range.size, List.range_eq_range']
  rw [hr]
  show Result.andThen (Result.ok ((if sameN n f g = true then none else some false), ()) w) _ = _
  cases sameN n f g <;> simp
theorem eq10 (d : Nat) (e f : Nat → Int) (w : World) : (Op.equalIn (d + 2) 43 (.agg (ten e)) (.agg (ten f))).run Tryz.prog w = .ok (sameN 10 e f) w :=
  eqR 43 42 .u32 (fun w => Tryz.isAgg42 w) Tryz.underlying42 (fun w => by simp [go_sem]) 10 Tryz.underlying43 d _ _ e f (fun i hi => ten_get e i hi) (fun i hi => ten_get f i hi) w
def sameNode (k l s b : Int) (d : Nat → Int) (k' l' s' b' : Int) (d' : Nat → Int) : Bool := k == k' && (l == l' && (s == s' && (b == b' && sameN 12 d d')))
theorem sameNode_iff (k l s b : Int) (d : Nat → Int) (k' l' s' b' : Int) (d' : Nat → Int) : sameNode k l s b d k' l' s' b' d' = true ↔ k = k' ∧ l = l' ∧ s = s' ∧ b = b' ∧ ∀ i, i < 12 → d i = d' i := by
  simp [sameNode, sameN_iff]
theorem same12 (d e : Nat → Int) : sameN 12 d e = (sameN 10 d e && (d 10 == e 10 && d 11 == e 11)) := by
  rw [Bool.eq_iff_iff]
  simp only [sameN_iff, Bool.and_eq_true, beq_iff_eq]
  constructor
  · exact fun h => ⟨fun i hi => h i (by omega), h 10 (by omega), h 11 (by omega)⟩
  · rintro ⟨h, h1, h2⟩ i hi
    by_cases q : i < 10
    · exact h i q
    · by_cases q1 : i = 10
      · rw [q1]; exact h1
      · rw [show i = 11 by omega]; exact h2
set_option maxRecDepth 20000 in
theorem eq27 (k l s b : Int) (d : Nat → Int) (k' l' s' b' : Int) (d' : Nat → Int) (w : World) : (Op.equalIn 10000 45 (.agg (node16 k l s b d)) (.agg (node16 k' l' s' b' d'))).run Tryz.prog w = .ok (sameNode k l s b d k' l' s' b' d') w := by
  have hq := fun w => eq10 9997 d d' w
  have hf : Tryz.prog.underlying 45 = some (.struct (Tryz.prog.fieldsOf 45)) := by kernel_rfl
  have hp : Tryz.prog.stoodInHeld 45 = false := by kernel_rfl
  unfold sameNode
  rw [same12]
  generalize sameN 10 d d' = q at *
  unfold node16
  show (Op.equalIn (9999 + 1) 45 _ _).run Tryz.prog w = _
  rw [run_equalIn_agg _ _ _ _ _ hf hp]
  simp only [Program.fieldsOf, Tryz.underlying45, Op.eqFields]
  unfold ten at hq
  simp only [Nat.reduceAdd] at hq
  simp [part, go_sem, hq]
  by_cases h1 : k = k'
  · by_cases h2 : l = l'
    · by_cases h3 : s = s'
      · by_cases h4 : b = b'
        · cases q
          · simp
          · by_cases h5 : d 10 = d' 10
            · by_cases h6 : d 11 = d' 11
              · simp [h1, h2, h3, h4, h5, h6]
              · simp [h6]
            · simp [h5]
        · simp [h4]
      · simp [h3]
    · simp [h2]
  · simp [h1]
end Go.Proofs.YtiejhjngcnkimaaGreatRN
/- How many blocks are free: the closure that room's Free hands to search. -/
namespace Go.Proofs.YtiejhjngcnkimaaGreatR
open Go.RowKit Go.Maps
end Go.Proofs.YtiejhjngcnkimaaGreatR
/- How many blocks of a disk of one sheet are free: room's search handed Free's closure, and Free. -/
namespace Go.Proofs.YtiejhjngcnkimaaGreatR
open Go.RowKit Go.Maps
section
variable {w W W' : World} {g d n : Nat} {x : Go.Proofs.YtiejhjngcnkimaaGreatRW.LSt} {book : Int → Nat → Int} {ks ks' : List (Nat × Obj)}
end
end Go.Proofs.YtiejhjngcnkimaaGreatR
/- Blocks taken and given back over a log that lives: room's Take, Give, and Used of a block that is none. -/
namespace Go.Proofs.YtiejhjngcnkimaaGreatR
open Go.RowKit Go.Maps
section
variable {w W W' : World} {g d n : Nat} {x x1 x2 : Go.Proofs.YtiejhjngcnkimaaGreatRW.LSt} {book : Int → Nat → Int} {ks ks' : List (Nat × Obj)}
end
end Go.Proofs.YtiejhjngcnkimaaGreatR
/- The example's log with the bits of its sheet: what each call makes of them; a log closed; the room's law awake. -/
namespace Go.Proofs.YtiejhjngcnkimaaGreatR
open Go.RowKit Go.Maps
section
variable {w W W' : World} {g d n : Nat} {x x1 x2 : Go.Proofs.YtiejhjngcnkimaaGreatRW.LSt} {p : Nat → Bool} {ks ks' : List (Nat × Obj)}
end
def xA (c : Int) : Go.Proofs.YtiejhjngcnkimaaGreatRW.LSt := Go.Proofs.YtiejhjngcnkimaaGreatRW.newX 400 32 60 c
end Go.Proofs.YtiejhjngcnkimaaGreatR
/- The example's inodes: what the shelves say, ahead of and behind two inodes taken; the rack's calls by them. -/
namespace Go.Proofs.YtiejhjngcnkimaaGreatR
open Go.RowKit Go.Maps
theorem eg45 : Tryz.prog.eqGuardType Tryz.prog.depth 45 = false := by kernel_rfl
theorem exec_neNd {o : Oper} {a : Act} {w : World} {x y : Operand} {k l s b : Int} {d : Nat → Int} (ho : o.op = .binOp .neq 45 x y 45) (hx : a.eval x = .agg (Go.Proofs.YtiejhjngcnkimaaGreatRN.node16 k l s b d)) (hy : a.eval y = .agg (Go.Proofs.YtiejhjngcnkimaaGreatRN.node16 k l s b d)) : (execOp a.eval o).run Tryz.prog w = .ok (.value (.bool false)) w := by
  have e : (binOp .neq 45 (.agg (Go.Proofs.YtiejhjngcnkimaaGreatRN.node16 k l s b d)) (.agg (Go.Proofs.YtiejhjngcnkimaaGreatRN.node16 k l s b d))).run Tryz.prog w = .ok (.bool false) w := by
    have h := Go.Proofs.YtiejhjngcnkimaaGreatRN.eq27 k l s b d k l s b d w
    rw [(Go.Proofs.YtiejhjngcnkimaaGreatRN.sameNode_iff k l s b d k l s b d).2 ⟨rfl, rfl, rfl, rfl, fun _ _ => rfl⟩] at h
    generalize Go.Proofs.YtiejhjngcnkimaaGreatRN.node16 k l s b d = F at *
    simp only [binOp, Op.equal, Op.maxDepth, Sem.run_bind, h, Result.andThen_ok, Sem.run_pure]
    rfl
  unfold execOp
  simp only [ho, hx, hy, Sem.run_bind, run_eqGuard_agg w _ 45 _ _ _ _ eg45, e, Result.andThen_ok, Sem.run_pure]
structure ShE (book : Int → Nat → Int) (f0 : Nat → Int) : Prop where
  z : book (33 + ((0 : Nat) : Int)) = f0
  o : ∀ q : Nat, 1 ≤ q → q ≤ 3 → book (33 + (q : Int)) = nought
  b : ∀ k, Go.Proofs.YtiejhjngcnkimaaGreatRW.Can (book k)
theorem ShE.bk {book : Int → Nat → Int} {f0 : Nat → Int} (h : ShE book f0) : BkB book := fun k => (h.b k).1
theorem ShE.put {book : Int → Nat → Int} {f0 f : Nat → Int} (h : ShE book f0) (hf : Go.Proofs.YtiejhjngcnkimaaGreatRW.Can f) : ShE (fun j => if j = 33 + ((0 : Nat) : Int) then f else book j) f := by
  refine ⟨if_pos rfl, fun q h1 h2 => ?_, fun k => ?_⟩
  · show (if 33 + (q : Int) = 33 + ((0 : Nat) : Int) then f else book (33 + (q : Int))) = nought
    rw [if_neg (by omega)]
    exact h.o q h1 h2
  · show Go.Proofs.YtiejhjngcnkimaaGreatRW.Can (if k = 33 + ((0 : Nat) : Int) then f else book k)
    split
    · exact hf
    · exact h.b k
theorem ShE.kd {book : Int → Nat → Int} {f0 : Nat → Int} (h : ShE book f0) {k : Nat} (hk : k < 16) : kdP book k = Go.Proofs.YtiejhjngcnkimaaGreatRN.numN (frB f0 (k * 64)) 0 2 := by
  unfold kdP
  rw [show k / 16 = 0 by omega, show k % 16 = k by omega, h.z]
theorem ShE.lk {book : Int → Nat → Int} {f0 : Nat → Int} (h : ShE book f0) {k : Nat} (hk : k < 16) : lkP book k = Go.Proofs.YtiejhjngcnkimaaGreatRN.numN (frB f0 (k * 64)) 2 2 := by
  unfold lkP
  rw [show k / 16 = 0 by omega, show k % 16 = k by omega, h.z]
theorem ShE.far {book : Int → Nat → Int} {f0 : Nat → Int} (h : ShE book f0) {k : Nat} (hk : 16 ≤ k) (hk2 : k ≤ 60) : kdP book k = 0 := by
  unfold kdP
  rw [h.o (k / 16) (by omega) (by omega)]
  rfl
def N1 : Nat → Int := Go.Proofs.YtiejhjngcnkimaaGreatRN.over N0 128 64 (Go.Proofs.YtiejhjngcnkimaaGreatRN.encN 1 0 0 0 nought 12)
def N2 : Nat → Int := Go.Proofs.YtiejhjngcnkimaaGreatRN.over N1 192 64 (Go.Proofs.YtiejhjngcnkimaaGreatRN.encN 1 1 0 0 nought 12)
def kdE : Nat → Int := fun k => if k = 1 then 2 else 0
def kdE1 : Nat → Int := fun k => if k = 1 then 2 else if k = 2 then 1 else 0
def kdE2 : Nat → Int := fun k => if k = 1 then 2 else if k = 2 then 1 else if k = 3 then 1 else 0
def lkE2 : Nat → Int := fun k => if k = 1 then 2 else if k = 3 then 1 else 0
theorem kd_N0 : ∀ k : Fin 16, Go.Proofs.YtiejhjngcnkimaaGreatRN.numN (frB N0 (k.val * 64)) 0 2 = kdE k.val := by decide +kernel
theorem kd_N1 : ∀ k : Fin 16, Go.Proofs.YtiejhjngcnkimaaGreatRN.numN (frB N1 (k.val * 64)) 0 2 = kdE1 k.val := by decide +kernel
theorem kd_N2 : ∀ k : Fin 16, Go.Proofs.YtiejhjngcnkimaaGreatRN.numN (frB N2 (k.val * 64)) 0 2 = kdE2 k.val := by decide +kernel
theorem lk_N2 : ∀ k : Fin 16, Go.Proofs.YtiejhjngcnkimaaGreatRN.numN (frB N2 (k.val * 64)) 2 2 = lkE2 k.val := by decide +kernel
def dE : Nat → Int := fun i => if i = 0 then 38 else 0
theorem root_N0 : nodN N0 64 = Go.Proofs.YtiejhjngcnkimaaGreatRN.node16 2 2 32 1 dE := Go.Proofs.YtiejhjngcnkimaaGreatRN.node_congr (by decide +kernel) (by decide +kernel) (by decide +kernel) (by decide +kernel) fun i hi => by
  have h : ∀ j : Fin 12, Go.Proofs.YtiejhjngcnkimaaGreatRN.decD (frB N0 64) j.val = dE j.val := by decide +kernel
  exact h ⟨i, hi⟩
theorem two_N0 : nodN N0 128 = nod0 := Go.Proofs.YtiejhjngcnkimaaGreatRN.node_congr (by decide +kernel) (by decide +kernel) (by decide +kernel) (by decide +kernel) fun i hi => by
  have h : ∀ j : Fin 12, Go.Proofs.YtiejhjngcnkimaaGreatRN.decD (frB N0 128) j.val = nought j.val := by decide +kernel
  exact h ⟨i, hi⟩
theorem ok_root : Go.Proofs.YtiejhjngcnkimaaGreatRN.NodeOk 2 2 32 1 dE := ⟨by omega, by omega, by omega, by omega, fun i => by unfold dE; split <;> omega⟩
theorem ok_one : Go.Proofs.YtiejhjngcnkimaaGreatRN.NodeOk 1 0 0 0 nought := ⟨by omega, by omega, by omega, by omega, fun i => by unfold nought; omega⟩
theorem ok_two : Go.Proofs.YtiejhjngcnkimaaGreatRN.NodeOk 1 1 0 0 nought := ⟨by omega, by omega, by omega, by omega, fun i => by unfold nought; omega⟩
theorem can_N0 : Go.Proofs.YtiejhjngcnkimaaGreatRW.Can N0 := canE (33, N0) (by simp [imE])
theorem can_N1 : Go.Proofs.YtiejhjngcnkimaaGreatRW.Can N1 := over_can can_N0 (encNn_byt _ _ _ _ _ _) (by omega)
theorem held_E (k : Int) : Go.Proofs.YtiejhjngcnkimaaGreatRW.curV stE k = supP y0 ∨ Go.Proofs.YtiejhjngcnkimaaGreatRW.curV stE k = N0 ∨ Go.Proofs.YtiejhjngcnkimaaGreatRW.curV stE k = B0 ∨ Go.Proofs.YtiejhjngcnkimaaGreatRW.curV stE k = D0 ∨ Go.Proofs.YtiejhjngcnkimaaGreatRW.curV stE k = nought := by
  have e : Go.Proofs.YtiejhjngcnkimaaGreatRW.curV stE k = ((Go.Proofs.YtiejhjngcnkimaaGreatRW.holdV (Go.Proofs.YtiejhjngcnkimaaGreatRW.holdV (Go.Proofs.YtiejhjngcnkimaaGreatRW.holdV (Go.Proofs.YtiejhjngcnkimaaGreatRW.holdV (Go.Proofs.YtiejhjngcnkimaaGreatRW.newV 400) 0 (supP y0)) 33 N0) 37 B0) 38 D0).held k).getD nought := rfl
  rw [e]
  clear e
  unfold Go.Proofs.YtiejhjngcnkimaaGreatRW.holdV
  simp only
  split
  · split
    · exact .inr (.inr (.inr (.inr rfl)))
    · exact .inr (.inr (.inr (.inl rfl)))
  · split
    · split
      · exact .inr (.inr (.inr (.inr rfl)))
      · exact .inr (.inr (.inl rfl))
    · split
      · split
        · exact .inr (.inr (.inr (.inr rfl)))
        · exact .inr (.inl rfl)
      · split
        · split
          · exact .inr (.inr (.inr (.inr rfl)))
          · exact .inl rfl
        · exact .inr (.inr (.inr (.inr rfl)))
theorem curE33 : Go.Proofs.YtiejhjngcnkimaaGreatRW.curV stE 33 = N0 := by
  show (stE.held 33).getD nought = N0
  have : stE.held 33 = some N0 := by
    show (Go.Proofs.YtiejhjngcnkimaaGreatRW.holdV (Go.Proofs.YtiejhjngcnkimaaGreatRW.holdV (Go.Proofs.YtiejhjngcnkimaaGreatRW.holdV (Go.Proofs.YtiejhjngcnkimaaGreatRW.holdV (Go.Proofs.YtiejhjngcnkimaaGreatRW.newV 400) 0 (supP y0)) 33 N0) 37 B0) 38 D0).held 33 = some N0
    rw [hold_ne _ _ _ _ (by decide), hold_ne _ _ _ _ (by decide)]
    unfold Go.Proofs.YtiejhjngcnkimaaGreatRW.holdV
    simp only [if_true]
    rw [blank_no can_N0 64 (by decide +kernel)]
    rfl
  rw [this]
  rfl
theorem curE_no (k : Int) (h0 : ¬ k = 0) (h1 : ¬ k = 33) (h2 : ¬ k = 37) (h3 : ¬ k = 38) : Go.Proofs.YtiejhjngcnkimaaGreatRW.curV stE k = nought := by
  show (stE.held k).getD nought = nought
  have : stE.held k = none := by
    show (Go.Proofs.YtiejhjngcnkimaaGreatRW.holdV (Go.Proofs.YtiejhjngcnkimaaGreatRW.holdV (Go.Proofs.YtiejhjngcnkimaaGreatRW.holdV (Go.Proofs.YtiejhjngcnkimaaGreatRW.holdV (Go.Proofs.YtiejhjngcnkimaaGreatRW.newV 400) 0 (supP y0)) 33 N0) 37 B0) 38 D0).held k = none
    rw [hold_ne _ _ _ _ h3, hold_ne _ _ _ _ h2, hold_ne _ _ _ _ h1, hold_ne _ _ _ _ h0]
    rfl
  rw [this]
  rfl
theorem shE_E : ShE (Go.Proofs.YtiejhjngcnkimaaGreatRW.curV stE) N0 := by
  refine ⟨?_, fun q h1 h2 => curE_no _ (by omega) (by omega) (by omega) (by omega), fun k => ?_⟩
  · rw [show 33 + ((0 : Nat) : Int) = 33 by decide]; exact curE33
  · rcases held_E k with h | h | h | h | h <;> rw [h]
    · exact canE (0, supP y0) (by simp [imE])
    · exact can_N0
    · exact canE (37, B0) (by simp [imE])
    · exact canE (38, D0) (by simp [imE])
    · exact Go.Proofs.YtiejhjngcnkimaaGreatRW.can_nought
structure RK (w W : World) (g d : Nat) (x : Go.Proofs.YtiejhjngcnkimaaGreatRW.LSt) (f0 : Nat → Int) (n : Nat) (ks : List (Nat × Obj)) : Prop where
  ex : ∃ book, RLog w W g d x book n ks ∧ ShE book f0 ∧ Ge x
theorem rk_begin {W0 W : World} {gl gd : Nat} {ks : List (Nat × Obj)} (h : Go.Proofs.YtiejhjngcnkimaaGreatRW.LogI W0 W gl gd (Go.Proofs.YtiejhjngcnkimaaGreatRW.newX 400 32 60 (Go.Proofs.YtiejhjngcnkimaaGreatRW.claimN stE)) (Go.Proofs.YtiejhjngcnkimaaGreatRW.claimV (Go.Proofs.YtiejhjngcnkimaaGreatRW.readS stE)) (Go.Proofs.YtiejhjngcnkimaaGreatRW.curV stE) ks) : RK W0 W gl gd (xA (Go.Proofs.YtiejhjngcnkimaaGreatRW.claimN stE)) N0 1000 ks := by
  refine ⟨_, ⟨_, h, rfl, ?_⟩, shE_E, rfl, rfl, rfl⟩
  refine ⟨?_, ?_, ?_, ?_⟩
  · show (0 : Nat) + 1001 < _; omega
  · show (0 : Int) + 1001 < _; omega
  · show (0 : Int) + 1 + 1001 < _; omega
  · show (0 : Int) + 1 + 1001 < _; omega
section
variable {w W W' : World} {g d n : Nat} {x x1 : Go.Proofs.YtiejhjngcnkimaaGreatRW.LSt} {f0 : Nat → Int} {ks ks' : List (Nat × Obj)}
theorem RK.later (h : RK w W g d x f0 n ks) (hb : Below W.heap.size W W') : RK w W' g d x f0 n ks := by
  obtain ⟨b, h, hp⟩ := h
  exact ⟨b, h.later hb, hp⟩
theorem RK.add (h : RK w W g d x f0 n ks) (o : Obj) : RK w (W.alloc o) g d x f0 n ((W.heap.size, o) :: ks) := by
  obtain ⟨b, h, hp⟩ := h
  exact ⟨b, h.add o, hp⟩
theorem RK.obj (h : RK w W g d x f0 n ks) {q : Nat} {o : Obj} (hm : (q, o) ∈ ks) : W.heap[q]? = some o := by
  obtain ⟨b, h, hp⟩ := h
  exact h.obj hm
theorem RK.below (h : RK w W g d x f0 n ks) : Below w.heap.size w W := by
  obtain ⟨b, h, hp⟩ := h
  exact h.below
theorem RK.drop (h : RK w W g d x f0 n ks) (hs : ∀ p ∈ ks', p ∈ ks) : RK w W g d x f0 n ks' := by
  obtain ⟨b, h, hp⟩ := h
  exact ⟨b, h.drop hs, hp⟩
theorem RK.begin (h : RK w W g d x f0 n ks) (ho : x.opn = false) {r : Int} (hr : 1 ≤ r) (hr2 : (x.blocks.length : Int) + r ≤ 31) :
    Calls Tryz.prog 14 #[.pointer (some ⟨g, 0, none⟩), .int .i64 r] W fun e W' => e = .returned (.int .i64 0) ∧ RK w W' g d { x with opn := true, room := r } f0 n ks := by
  obtain ⟨b, h, hp, hg⟩ := h
  refine (h.begin ho hg hr hr2).mono ?_
  rintro e W' ⟨rfl, h3⟩
  exact ⟨rfl, b, h3, hp, hg.b, hg.l, hg.i⟩
theorem RK.read (h : RK w W g d x f0 (n + 1) ks) (k : Nat) (hk : 1 ≤ k ∧ k < 16) :
    Calls Tryz.prog 11 #[.pointer (some ⟨g, 0, none⟩), .int .i64 (k : Int)] W fun e W' => e = .returned (.tuple #[.agg (nodN f0 (k * 64)), .int .i64 0]) ∧ RK w W' g d x f0 n ks := by
  obtain ⟨b, h, hp, hg⟩ := h
  have e := h.rread hg k 0 (k * 64) (by omega) (by omega) (by omega) (hp.bk _)
  rw [hp.z] at e
  refine e.mono ?_
  rintro e W' ⟨rfl, h3⟩
  exact ⟨rfl, b, h3, hp, hg⟩
theorem RK.readBad (h : RK w W g d x f0 n ks) (k : Int) (hk : k < 1 ∨ 60 < k) :
    Calls Tryz.prog 11 #[.pointer (some ⟨g, 0, none⟩), .int .i64 k] W fun e W' => e = .returned (.tuple #[.agg nod0, .int .i64 2]) ∧ RK w W' g d x f0 n ks := by
  obtain ⟨b, h, hp, hg⟩ := h
  refine (h.rreadBad hg k hk).mono ?_
  rintro e W' ⟨rfl, h3⟩
  exact ⟨rfl, b, h3, hp, hg⟩
theorem RK.spare (h : RK w W g d x f0 (n + 4) ks) (c : Nat) (hc : 1 ≤ c ∧ c ≤ 15) (hk : ∀ k : Fin 16, 1 ≤ k.val → (Go.Proofs.YtiejhjngcnkimaaGreatRN.numN (frB f0 (k.val * 64)) 0 2 = 0 ↔ c < k.val)) :
    Calls Tryz.prog 12 #[.pointer (some ⟨g, 0, none⟩)] W fun e W' => e = .returned (.tuple #[.int .i64 ((60 - c : Nat) : Int), .int .i64 0]) ∧ RK w W' g d x f0 n ks := by
  obtain ⟨b, h, hp, hg⟩ := h
  have e := h.spare hg hp.bk (fun k => ((min k 61 - (c + 1) : Nat) : Int)) (by show ((min 1 61 - (c + 1) : Nat) : Int) = 0; omega) (fun k h1 h2 => ?_) (fun k => by show 0 ≤ ((min k 61 - (c + 1) : Nat) : Int) ∧ ((min k 61 - (c + 1) : Nat) : Int) ≤ 1000000; omega)
  · refine e.mono ?_
    rintro e W' ⟨rfl, h3⟩
    refine ⟨?_, b, h3, hp, hg⟩
    show Ending.returned (.tuple #[.int .i64 ((min 61 61 - (c + 1) : Nat) : Int), .int .i64 0]) = _
    rw [show min 61 61 - (c + 1) = 60 - c by omega]
  · show ((min (k + 1) 61 - (c + 1) : Nat) : Int) = if kdP b k = 0 then ((min k 61 - (c + 1) : Nat) : Int) + 1 else ((min k 61 - (c + 1) : Nat) : Int)
    have hz : kdP b k = 0 ↔ c < k := by
      rcases Nat.lt_or_ge k 16 with q | q
      · rw [hp.kd q]; exact hk ⟨k, q⟩ h1
      · exact ⟨fun _ => by omega, fun _ => hp.far q h2⟩
    by_cases q : c < k
    · rw [if_pos (hz.2 q)]; omega
    · rw [if_neg (fun e => q (hz.1 e))]; omega
theorem RK.take (h : RK w W g d x f0 (n + 1 + 4) ks) (ho : x.opn = true) (k : Nat) (hk : 1 ≤ k ∧ k < 16) (hkd : ∀ j : Fin 16, 1 ≤ j.val → (Go.Proofs.YtiejhjngcnkimaaGreatRN.numN (frB f0 (j.val * 64)) 0 2 = 0 ↔ k ≤ j.val)) {kk l s bb : Int} {dd : Nat → Int} (hkk : kk ≠ 0) (hN : Go.Proofs.YtiejhjngcnkimaaGreatRN.NodeOk kk l s bb dd) (hf : Go.Proofs.YtiejhjngcnkimaaGreatRW.Can f0) (hx : WrX x 33 x1) :
    Calls Tryz.prog 15 #[.pointer (some ⟨g, 0, none⟩), .agg (Go.Proofs.YtiejhjngcnkimaaGreatRN.node16 kk l s bb dd)] W fun e W' => e = .returned (.tuple #[.int .i64 (k : Int), .int .i64 0]) ∧ RK w W' g d x1 (Go.Proofs.YtiejhjngcnkimaaGreatRN.over f0 (k * 64) 64 (Go.Proofs.YtiejhjngcnkimaaGreatRN.encN kk l s bb dd 12)) n ks := by
  obtain ⟨b, h, hp, hg⟩ := h
  have hcan : Go.Proofs.YtiejhjngcnkimaaGreatRW.Can (Go.Proofs.YtiejhjngcnkimaaGreatRN.over f0 (k * 64) 64 (Go.Proofs.YtiejhjngcnkimaaGreatRN.encN kk l s bb dd 12)) := over_can hf (encNn_byt _ _ _ _ _ _) (by omega)
  have e := h.rtake hg ho hp.bk k 0 (k * 64) (by omega) (by omega) (by omega) (by rw [hp.kd hk.2]; exact (hkd ⟨k, hk.2⟩ hk.1).2 (Nat.le_refl _)) (fun j h1 h2 => by rw [hp.kd (by omega)]; exact fun q => by have := (hkd ⟨j, by omega⟩ h1).1 q; simp only at this; omega) hkk hN (x1 := x1) (book1 := fun j => if j = 33 + ((0 : Nat) : Int) then Go.Proofs.YtiejhjngcnkimaaGreatRN.over f0 (k * 64) 64 (Go.Proofs.YtiejhjngcnkimaaGreatRN.encN kk l s bb dd 12) else b j) (fun V ks0 hV => by
    rw [hp.z]
    exact hV.write hcan ho hg (by omega) hx)
  refine e.mono ?_
  rintro e W' ⟨rfl, h3⟩
  exact ⟨rfl, _, h3, hp.put hcan, hx.ge hg⟩
theorem RK.takeFree (h : RK w W g d x f0 n ks) (ho : x.opn = true) : Calls Tryz.prog 15 #[.pointer (some ⟨g, 0, none⟩), .agg nod0] W fun e W' => e = .returned (.tuple #[.int .i64 0, .int .i64 2]) ∧ RK w W' g d x f0 n ks := by
  obtain ⟨b, h, hp, hg⟩ := h
  refine (h.rtakeFree ho 0 0 0 nought).mono ?_
  rintro e W' ⟨rfl, h3⟩
  exact ⟨rfl, b, h3, hp, hg⟩
theorem RK.writeStep (h : RK w W g d x f0 n ks) (ho : x.opn = false) (k : Int) (N : Array Value) : Calls Tryz.prog 13 #[.pointer (some ⟨g, 0, none⟩), .int .i64 k, .agg N] W fun e W' => e = .returned (.int .i64 180) ∧ RK w W' g d x f0 n ks := by
  obtain ⟨b, h, hp, hg⟩ := h
  refine (h.rwriteStep ho k N).mono ?_
  rintro e W' ⟨rfl, h3⟩
  exact ⟨rfl, b, h3, hp, hg⟩
theorem RK.writeTight (h : RK w W g d x f0 (n + 1) ks) (ho : x.opn = true) (k q lo : Nat) (hk : 1 ≤ k ∧ k ≤ 60) (hq : k / 16 = q) (hlo : k % 16 * 64 = lo) {kk l s bb : Int} {dd : Nat → Int} (hN : Go.Proofs.YtiejhjngcnkimaaGreatRN.NodeOk kk l s bb dd) (hb : Go.Proofs.YtiejhjngcnkimaaGreatRW.byB x (33 + (q : Int)) x.steps = false) (hz : x.room = 0) :
    Calls Tryz.prog 13 #[.pointer (some ⟨g, 0, none⟩), .int .i64 (k : Int), .agg (Go.Proofs.YtiejhjngcnkimaaGreatRN.node16 kk l s bb dd)] W fun e W' => e = .returned (.int .i64 181) ∧ RK w W' g d x f0 n ks := by
  obtain ⟨b, h, hp, hg⟩ := h
  refine (h.rwrite hg ho k q lo hk hq hlo hN (x1 := x) (book1 := b) (fun V ks0 hV => hV.writeTight ho hg (by omega) hb hz)).mono ?_
  rintro e W' ⟨rfl, h3⟩
  exact ⟨rfl, b, h3, hp, hg⟩
theorem RK.orphans (h : RK w W g d x f0 (n + 4) ks) (K : Nat) (hK : 1 ≤ K ∧ K < 16) (hy : Go.Proofs.YtiejhjngcnkimaaGreatRN.numN (frB f0 (K * 64)) 0 2 ≠ 0 ∧ Go.Proofs.YtiejhjngcnkimaaGreatRN.numN (frB f0 (K * 64)) 2 2 = 0) (hno : ∀ j : Fin 16, 1 ≤ j.val → j.val ≠ K → Go.Proofs.YtiejhjngcnkimaaGreatRN.numN (frB f0 (j.val * 64)) 0 2 = 0 ∨ Go.Proofs.YtiejhjngcnkimaaGreatRN.numN (frB f0 (j.val * 64)) 2 2 ≠ 0) :
    Calls Tryz.prog 16 #[.pointer (some ⟨g, 0, none⟩)] W fun e W' => ∃ (go cap : Nat) (cur : Array Value), e = .returned (.tuple #[.slice (some ⟨go, 0, none⟩) 1 cap, .int .i64 0]) ∧ cur[0]? = some (.int .i64 (K : Int)) ∧ RK w W' g d x f0 n ((go, .cells cur 3) :: ks) := by
  obtain ⟨b, h, hp, hg⟩ := h
  refine (h.orphans hg hp.bk K (by omega) (by rw [hp.kd hK.2, hp.lk hK.2]; exact hy) (fun j h1 h2 h3 => ?_)).mono ?_
  · rcases Nat.lt_or_ge j 16 with q | q
    · rw [hp.kd q, hp.lk q]; exact hno ⟨j, q⟩ h1 h3
    · exact .inl (hp.far q h2)
  · rintro e W' ⟨go, cap, cur, rfl, hc, h3⟩
    exact ⟨go, cap, cur, rfl, hc, b, h3, hp, hg⟩
end
end Go.Proofs.YtiejhjngcnkimaaGreatR
