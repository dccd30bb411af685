/- The law of images that are loaded again answers true, for all puts; no condition. -/
import Derived.Test.YtembocfghkmieaaAgainOps
namespace Go.Proofs.Ytembocfghkmieaa
open Go.RowKit

set_option maxRecDepth 20000 in
set_option maxHeartbeats 4000000 in
theorem law_again (blocks : Int) (a : Option Addr) (len cap : Nat) (w : World) (hp : PutsAt w a len) :
    Calls Try.prog 7 #[.int .i64 blocks, .slice a len cap] w fun e w' => e = .returned (.bool true) ∧ Below w.heap.size w w' := by
  have hA := awake_any w
  by_cases hok : 1 ≤ blocks ∧ blocks ≤ 64 ∧ len ≤ 300
  · obtain ⟨hb1, hb2, hl3⟩ := hok
    obtain ⟨b, off, q, v, hcan, hput⟩ := puts_fn hp
    have HP : Hid (∀ r, r < len → a = some ⟨b, off, none⟩ ∧ (-9223372036854775808 ≤ (q r).1 ∧ (q r).1 ≤ 9223372036854775807) ∧ ∀ W, Below w.heap.size w W → W.cell? ⟨b, off + r * 2, none⟩ = some (.int .i64 (q r).1) ∧ W.cell? ⟨b, off + r * 2 + 1, none⟩ = some (.slice (v r).1 (v r).2.1 (v r).2.2) ∧
      Calls Try.prog 21 #[.slice (v r).1 (v r).2.1 (v r).2.2] W fun e w' => e = .returned (.agg (blk (q r).2)) ∧ Below W.heap.size W w') := hput
    have HC : Hid (∀ r, Can (q r).2) := hcan
    clear hput hcan hp
    obtain ⟨n, rfl⟩ : ∃ n : Nat, blocks = n := ⟨blocks.toNat, by omega⟩
    have hlt1 : decide ((n : Int) < 1) = false := decide_eq_false (by omega)
    have hgt : decide ((n : Int) > 64) = false := decide_eq_false (by omega)
    have hgl : decide ((len : Int) > 300) = false := decide_eq_false (by omega)
    have hbnd : bndB (n : Int) = true := by unfold bndB; simp; omega
    have HS : Hid (∀ i, Left (putS n q i) n (-1) i ∧ (putS n q i).stopped = false ∧ (putS n q i).made = i) := fun i => by
      obtain ⟨h1, h2, h3, _⟩ := putS_is n q hb1 HC.out i
      exact ⟨h1, h2, h3⟩
    go_enter Try.func7, Try.ntmps7
    go_wp2_with (go_at_call 28; fail)
    refine hA.mono ?_
    rintro e W1 ⟨rfl, hb⟩
    clear hA
    go_wp2_with (go_at_call 30; fail)
    refine (new_ok hbnd W1).mono ?_
    rintro e W2 ⟨L, rfl, hD2, hL2, hb2'⟩
    have HH2 : Hid (Has (Solo w) W2 L.d (putS n q 0)) := ⟨L, rfl, hD2, fun k hk => by have := hL2 k hk; have := hb.size; omega, below_next hb hb2'⟩
    clear hb hD2 hL2 hb2'
    generalize L.d = d at *
    go_wp2
    go_loopw [8] (fun s8 wx => ∃ i : Nat, i ≤ len ∧ s8 = .int .i64 i ∧ Hid (Has (Solo w) wx d (putS n q i))) (fun s8 _ => len - (intOf s8).toNat)
    case atStart => exact ⟨0, by omega, rfl, HH2.out⟩
    case round =>
      obtain ⟨i, hi, rfl, HH⟩ := hrel
      clear HH2
      by_cases hi2 : (i : Int) < len
      · obtain ⟨rfl, hpos, hW⟩ := HP.out i (by omega)
        obtain ⟨c0, c1, _⟩ := hW wr HH.out.belowS
        obtain ⟨hl, hs, _⟩ := HS.out i
        have hg := goes_on hs i
        have hroom := hl.room (by omega)
        by_cases hneg : (q i).1 < 0
        · obtain ⟨ge, gv, _⟩ := bar_goes hl hg
          have hbr := has_barrier (solo_stays w) HH.out hroom
          rw [ge, gv] at hbr
          have hps : putS n q (i + 1) = barS (putS n q i) := by rw [putS_succ, if_pos hneg]
          rw [← hps] at hbr
          clear hW ge gv hps hl hs hg hroom HH
          go_wp2_with (go_at_call 32; fail)
          refine hbr.mono ?_
          rintro e W5 ⟨rfl, hH5⟩
          have HH5 : Hid (Has (Solo w) W5 d (putS n q (i + 1))) := hH5
          clear hH5 hbr
          go_wp2
          exact ⟨⟨i + 1, by omega, by go_num, HH5.out⟩, by simp [intOf]; omega⟩
        · have hk := mod_in hb1 (q i).1
          obtain ⟨ge, gv, _⟩ := write_goes hl hg hk (q i).2
          have hps : putS n q (i + 1) = writeS (putS n q i) ((q i).1 % n) (q i).2 := by rw [putS_succ, if_neg hneg]
          have HWr : Hid (∀ W, Has (Solo w) W d (putS n q i) → Calls Try.prog 33 #[.pointer (some ⟨d, 0, none⟩), .int .i64 ((q i).1 % n), .agg (blk (q i).2)] W fun e W' => e = .returned (.int .i64 0) ∧ Has (Solo w) W' d (putS n q (i + 1))) := fun W h => by
            have := has_write (solo_stays w) h hroom ((q i).1 % n) (HC.out i)
            rw [ge, gv, ← hps] at this
            exact this
          have HW : Hid (∀ W, Below w.heap.size w W → (W.cell? ⟨b, off + i * 2, none⟩ = some (.int .i64 (q i).1) ∧ W.cell? ⟨b, off + i * 2 + 1, none⟩ = some (.slice (v i).1 (v i).2.1 (v i).2.2))) := fun W h => ⟨(hW W h).1, (hW W h).2.1⟩
          have HBl : Hid (∀ W, Below w.heap.size w W → Calls Try.prog 21 #[.slice (v i).1 (v i).2.1 (v i).2.2] W fun e w' => e = .returned (.agg (blk (q i).2)) ∧ Below W.heap.size W w') := fun W h => (hW W h).2.2
          have hpk := pick_any (q i).1 n ⟨by omega, by omega⟩ wr.drew
          have HHd : Hid (Has (Solo w) wr.drew d (putS n q i)) := HH.out.drewG (solo_stays w)
          clear hW ge gv hps hl hs hg hroom HH
          generalize (q i).1 % (n : Int) = k at *
          go_wp2
          refine wp_region_ord (S := fun u => u.cell? ⟨b, off + i * 2, none⟩ = some (.int .i64 (q i).1) ∧ u.cell? ⟨b, off + i * 2 + 1, none⟩ = some (.slice (v i).1 (v i).2.1 (v i).2.2)) [(0, true), (1, true), (2, true), (3, true), (4, true), (5, true), (6, true), (8, true), (9, true), (10, true), (11, true), (12, true), (7, false), (13, false), (14, false)]
            (by kernel_rfl) rfl (by kernel_rfl) (fun d _ _ _ _ h => by cases d <;> exact h) ⟨c0, c1⟩ ?_
          simp only [inOrd, List.getElem?_cons_zero, List.getElem?_cons_succ]
          iterate 3 (refine wpOrd_move rfl _ rfl ?_; simp only [Act.put, List.setIfInBounds_toArray, List.set_cons_succ, List.set_cons_zero])
          refine wpOrd_yield (v := .pointer (some ⟨b, off + i * 2, none⟩)) rfl (fun u _ => by go_simp) ?_
          simp only [Act.put, List.setIfInBounds_toArray, List.set_cons_succ, List.set_cons_zero]
          refine wpOrd_yield (v := .pointer (some ⟨b, off + i * 2, none⟩)) rfl (fun u _ => by go_simp) ?_
          simp only [Act.put, List.setIfInBounds_toArray, List.set_cons_succ, List.set_cons_zero]
          refine wpOrd_yield (v := .int .i64 (q i).1) rfl (fun u hu => by have hu1 := hu.1; go_simp) ?_
          simp only [Act.put, List.setIfInBounds_toArray, List.set_cons_succ, List.set_cons_zero]
          iterate 3 (refine wpOrd_move rfl _ rfl ?_; simp only [Act.put, List.setIfInBounds_toArray, List.set_cons_succ, List.set_cons_zero])
          refine wpOrd_yield (v := .pointer (some ⟨b, off + i * 2, none⟩)) rfl (fun u _ => by go_simp) ?_
          simp only [Act.put, List.setIfInBounds_toArray, List.set_cons_succ, List.set_cons_zero]
          refine wpOrd_yield (v := .pointer (some ⟨b, off + i * 2 + 1, none⟩)) rfl (fun u _ => by go_simp) ?_
          simp only [Act.put, List.setIfInBounds_toArray, List.set_cons_succ, List.set_cons_zero]
          refine wpOrd_yield (v := .slice (v i).1 (v i).2.1 (v i).2.2) rfl (fun u hu => by have hu1 := hu.2; go_simp) ?_
          simp only [Act.put, List.setIfInBounds_toArray, List.set_cons_succ, List.set_cons_zero]
          refine wpOrd_call rfl 11 _ _ rfl Try.call11 [.int .i64 (q i).1, .int .i64 n] rfl ?_
          refine hpk.mono ?_
          rintro e X1 ⟨rfl, he1⟩
          obtain rfl := he1.symm
          refine ⟨_, rfl, HW.out _ HHd.out.belowS, ?_⟩
          simp only [Act.put, List.setIfInBounds_toArray, List.set_cons_succ, List.set_cons_zero]
          refine wpOrd_call rfl 21 _ _ rfl Try.call21 [.slice (v i).1 (v i).2.1 (v i).2.2] rfl ?_
          refine (HBl.out _ HHd.out.belowS).mono ?_
          rintro e X2 ⟨rfl, hx2⟩
          have hH2 := HHd.out.later (solo_stays w) hx2
          refine ⟨_, rfl, HW.out _ hH2.belowS, ?_⟩
          simp only [Act.put, List.setIfInBounds_toArray, List.set_cons_succ, List.set_cons_zero]
          refine wpOrd_call rfl 33 _ _ rfl Try.call33 [.pointer (some ⟨d, 0, none⟩), .int .i64 k, .agg (blk (q i).2)] rfl ?_
          refine (HWr.out _ hH2).mono ?_
          rintro e X3 ⟨rfl, hH3⟩
          have HH3 : Hid (Has (Solo w) X3 d (putS n q (i + 1))) := hH3
          refine ⟨_, rfl, HW.out _ hH3.belowS, ?_⟩
          simp only [Act.put, List.setIfInBounds_toArray, List.set_cons_succ, List.set_cons_zero]
          refine wpOrd_nil ?_
          clear hH3 hH2 hx2 HHd hpk he1
          go_wp2
          exact ⟨⟨i + 1, by omega, by go_num, HH3.out⟩, by simp [intOf]; omega⟩
      · obtain rfl : i = len := by omega
        obtain ⟨hl, hs, hmade⟩ := HS.out i
        have hg := goes_on hs i
        have HSame : Hid (∀ l, IsImage (putS n q i) l → ∀ k, curV (loadV n l) k = curV (wrS n q (lastI q i).toNat) k) := fun l h k => by
          have := again_same n q hb1 HC.out i h k
          rwa [hl.n] at this
        have HO : Hid (Ok (putS n q i)) := HH.out.ok
        obtain ⟨be, bv, bl, bs, _, _, _⟩ := bar_goes hl hg
        have hbm : (barS (putS n q i)).made = (i : Int) + 1 := by rw [bar_made hl hg, hmade]
        have hroom := hl.room (by omega)
        have hsn := hl.n
        have HLb : Hid (Live (barS (putS n q i)) n 0) := bl.toLive bs (by omega)
        have hbn : (barS (putS n q i)).n = n := bl.n
        clear HS hl hs hg bl bs
        generalize putS n q i = s at *
        obtain ⟨N, z25⟩ : ∃ N, (∀ w, (zeroValue 58).run Try.prog w = .ok (.agg (blk N)) w) := ⟨nought, zero25⟩
        go_wp2_with (go_at_call 17; fail)
        refine (has_image' (solo_stays w) HH.out hsn).mono ?_
        rintro e W3 ⟨g, l, rfl, hI, hIm, hH3⟩
        clear HH
        go_wp2_with (go_at_call 15; fail)
        refine (load_image' hI HO.out hsn _ _ hIm).mono ?_
        rintro e W4 ⟨Lx, rfl, hD4, hL4, hb4⟩
        have HH4 : Hid (Has (Two w Lx.d (loadV n l)) W4 d s) := hH3.add hb4 hD4 hL4
        have HX : Hid (∀ k, curV (loadV n l) k = curV (wrS n q (lastI q i).toNat) k) := HSame.out l hI
        have HXl : Hid (Live (loadV n l) n 0) := load_live n l
        clear hH3 hb4 hD4 hL4 hIm hI HSame HO
        generalize Lx.d = dx at *
        generalize loadV n l = sx at *
        have hmd := has_made HH4.out
        rw [hmade] at hmd
        go_wp2_with (go_at_call 23; fail)
        refine hmd.mono ?_
        rintro e W ⟨rfl, he'⟩
        obtain rfl := he'.symm
        clear he' hmd
        have hbr := has_barrier (two_stays w dx sx) HH4.out hroom
        rw [be, bv] at hbr
        clear HH4
        go_wp2_with (go_at_call 32; fail)
        refine hbr.mono ?_
        rintro e W5 ⟨rfl, hH5⟩
        have hmd := has_made hH5
        rw [hbm] at hmd
        have HH5 : Hid (Has (Two w dx sx) W5 d (barS s)) := hH5
        clear hH5 hbr
        go_wp2_with (go_at_call 23; fail)
        refine hmd.mono ?_
        rintro e W ⟨rfl, he'⟩
        obtain rfl := he'.symm
        clear he' hmd
        go_wp2_with (go_at_call 17; fail)
        refine (has_image' (two_stays w dx sx) HH5.out hbn).mono ?_
        rintro e W6 ⟨g', l', rfl, hI, hIm, hH6⟩
        clear HH5
        go_wp2_with (go_at_call 15; fail)
        refine (load_image' hI hH6.ok hbn _ _ hIm).mono ?_
        rintro e W7 ⟨Ly, rfl, hD7, hL7, hb7⟩
        have HH7 : Hid (Has (Tri w Ly.d (loadV n l') dx sx) W7 d (barS s)) := hH6.add2 hb7 hD7 hL7
        have HV7 : Hid (Live (barS s) n 0 ∧ Live (loadV n l') n 0 ∧ ∀ k, curV (barS s) k = curV (loadV n l') k) := ⟨HLb.out, load_live n l', bar_load hI hbn⟩
        clear hH6 hb7 hD7 hL7 hIm hI HLb hbn be bv hbm hmade hroom hsn
        generalize Ly.d = dy at *
        generalize loadV n l' = sy at *
        generalize barS s = sb0 at *
        go_wp2
        go_loopw [14] (fun s14 wx => ∃ (r : Nat) (sa sb : St), r ≤ n ∧ s14 = .int .i64 r ∧ Hid (Has (Tri w dy sb dx sx) wx d sa) ∧ Hid (Live sa n r ∧ Live sb n r ∧ ∀ k, curV sa k = curV sb k)) (fun s14 _ => n - (intOf s14).toNat)
        case atStart => exact ⟨0, sb0, sy, by omega, rfl, HH7.out, HV7.out⟩
        case round =>
          obtain ⟨r, sa, sb, hr, rfl, HHr, HA⟩ := hrel
          clear HH7 HV7
          by_cases hr2 : (r : Int) < n
          · obtain ⟨k1, k2, k3, k4, k5⟩ := HA.out.1.read (k := (r : Int)) ⟨by omega, hr2⟩
            have hrd := has_read (tri_stays w dy sb dx sx) HHr.out (HA.out.1.room (by omega)) r
            rw [k1, k2, k3, HA.out.2.2 r] at hrd
            obtain ⟨m1, m2, m3, m4, m5⟩ := HA.out.2.1.read (k := (r : Int)) ⟨by omega, hr2⟩
            have HRy : Hid (∀ (P : World → Loc → Prop) (W : World), Stays P → Has P W dy sb → Calls Try.prog 20 #[.pointer (some ⟨dy, 0, none⟩), .int .i64 r] W fun e W' => e = .returned (.tuple #[.agg (blk (curV sb r)), .int .i64 0]) ∧ Has P W' dy (readS sb)) := fun P W hP h => by
              have := has_read hP h (HA.out.2.1.room (by omega)) r
              rw [m1, m2, m3] at this
              exact this
            have HA2 : Hid (Live (readS sa) n (r + 1) ∧ Live (readS sb) n (r + 1) ∧ ∀ k, curV (readS sa) k = curV (readS sb) k) := ⟨k4, m4, fun k => by rw [k5, m5]; exact HA.out.2.2 k⟩
            generalize curV sb r = F at *
            clear k1 k2 k3 k4 k5 m1 m2 m3 m4 m5 HHr HA
            go_wp2_with (go_at_call 20; fail)
            refine hrd.mono ?_
            rintro e V8 ⟨rfl, hH8⟩
            have HH9 : Hid (Has (Keep (Tri w d (readS sa) dx sx) V8.heap.size (.cells (blk F) 58)) (V8.alloc (.cells (blk F) 58)) dy sb) := hH8.swap3.keep (tri_stays w d (readS sa) dx sx) _
            clear hH8 hrd
            go_wp2_with (first | refine wpList_store25_new rfl (.tmp 15) (.tmp 139) rfl F _ rfl rfl ?_ | (go_at_call 20; fail))
            refine (HRy.out _ _ (keep_stays (tri_stays w d (readS sa) dx sx) _ _) HH9.out).mono ?_
            rintro e V9 ⟨rfl, hH9⟩
            obtain ⟨hH10, hk1⟩ := hH9.unkeep
            have p1 : (V9.alloc (.cells (blk F) 58)).heap[V8.heap.size]? = some (.cells (blk F) 58) := heap_kept hk1 (below_new _ _)
            have p2 := heap_alloc_new V9 (.cells (blk F) 58)
            have HH11 : Hid (Has (Tri w dy (readS sb) dx sx) (V9.alloc (.cells (blk F) 58)) d (readS sa)) := hH10.swap3.later (tri_stays w dy (readS sb) dx sx) (below_new _ _)
            clear hH9 hH10 hk1 HH9 HRy
            generalize V8.heap.size = g8 at *
            go_wp2_with (first | refine wpList_store25_new rfl (.tmp 17) (.tmp 145) rfl F _ rfl rfl ?_ | refine wpList_load58w rfl (.tmp 15) rfl g8 rfl F p1 ?_ | refine wpList_load58w rfl (.tmp 17) rfl V9.heap.size rfl F p2 ?_ | refine wpList_neq58 rfl (.tmp 154) (.tmp 155) rfl F rfl rfl ?_)
            exact ⟨⟨r + 1, readS sa, readS sb, by omega, by go_num, HH11.out, HA2.out⟩, by simp [intOf]; omega⟩
          · obtain rfl : n = r := by omega
            have HH12 : Hid (Has (Tri w dy sb dx sx) wr d sa) := HHr.out
            clear HHr HA
            generalize sa = sd5 at *
            go_wp2
            go_loopw [19, 20] (fun s19 s20 wx => ∃ i' : Nat, i' ≤ i ∧ s19 = .int .i64 (lastI q i') ∧ s20 = .int .i64 i' ∧ wx = wr) (fun s19 s20 _ => i - (intOf s20).toNat)
            case atStart => exact ⟨0, by omega, rfl, rfl, rfl⟩
            case round =>
              obtain ⟨i', hi', rfl, rfl, rfl⟩ := hrel
              by_cases hi3 : (i' : Int) < i
              · obtain ⟨rfl, hpos, hW⟩ := HP.out i' (by omega)
                obtain ⟨c0, _, _⟩ := hW _ HH12.out.below3
                clear hW
                by_cases hneg : (q i').1 < 0
                · have hps : lastI q (i' + 1) = i' := by rw [lastI_succ, if_pos hneg]
                  go_wp2
                  exact ⟨⟨i' + 1, by omega, by rw [hps], by go_num, by trivial⟩, by simp [intOf]; omega⟩
                · have hps : lastI q (i' + 1) = lastI q i' := by rw [lastI_succ, if_neg hneg]
                  go_wp2
                  exact ⟨⟨i' + 1, by omega, by rw [hps], by go_num, by trivial⟩, by simp [intOf]; omega⟩
              · obtain rfl : i' = i := by omega
                have hll := lastI_lt q i'
                generalize lastI q i' = last at *
                go_wp2_with (go_at_call 30; fail)
                refine (new_ok hbnd _).mono ?_
                rintro e V3 ⟨Lz, rfl, hD3, hL3, hb3⟩
                have HHa : Hid (Has (Tri w dx sx d sd5) V3 Lz.d (wrS n q 0)) := (HH12.out.drop3.add2 hb3 hD3 hL3).swap3
                clear hD3 hL3 hb3 HH12
                generalize Lz.d = dz at *
                go_wp2
                go_loopw [23] (fun s23 wx => ∃ j : Nat, j ≤ last.toNat ∧ s23 = .int .i64 j ∧ Hid (Has (Tri w dx sx d sd5) wx dz (wrS n q j))) (fun s23 _ => last.toNat - (intOf s23).toNat)
                case atStart => exact ⟨0, by omega, rfl, HHa.out⟩
                case round =>
                  obtain ⟨j, hj, rfl, HHj⟩ := hrel
                  clear HHa
                  by_cases hj2 : (j : Int) < last
                  · have hjl : (j : Int) < (i' : Int) := by omega
                    obtain ⟨rfl, hpos, hW⟩ := HP.out j (by omega)
                    obtain ⟨c0, c1, _⟩ := hW wr HHj.out.below3
                    obtain ⟨j', hj', hl, hs, _⟩ := wrS_is n q hb1 j
                    have hg := goes_on hs j'
                    have hroom := hl.room (by omega)
                    by_cases hneg : (q j).1 ≥ 0
                    · have hk := mod_in hb1 (q j).1
                      obtain ⟨ge, gv, _⟩ := write_goes hl hg hk (q j).2
                      have hps : wrS n q (j + 1) = writeS (wrS n q j) ((q j).1 % n) (q j).2 := by rw [wrS_succ, if_neg (by omega)]
                      have HWr : Hid (∀ W, Has (Tri w dx sx d sd5) W dz (wrS n q j) → Calls Try.prog 33 #[.pointer (some ⟨dz, 0, none⟩), .int .i64 ((q j).1 % n), .agg (blk (q j).2)] W fun e W' => e = .returned (.int .i64 0) ∧ Has (Tri w dx sx d sd5) W' dz (wrS n q (j + 1))) := fun W h => by
                        have := has_write (tri_stays w dx sx d sd5) h hroom ((q j).1 % n) (HC.out j)
                        rw [ge, gv, ← hps] at this
                        exact this
                      have HW : Hid (∀ W, Below w.heap.size w W → (W.cell? ⟨b, off + j * 2, none⟩ = some (.int .i64 (q j).1) ∧ W.cell? ⟨b, off + j * 2 + 1, none⟩ = some (.slice (v j).1 (v j).2.1 (v j).2.2))) := fun W h => ⟨(hW W h).1, (hW W h).2.1⟩
                      have HBl : Hid (∀ W, Below w.heap.size w W → Calls Try.prog 21 #[.slice (v j).1 (v j).2.1 (v j).2.2] W fun e w' => e = .returned (.agg (blk (q j).2)) ∧ Below W.heap.size W w') := fun W h => (hW W h).2.2
                      have hpk := pick_any (q j).1 n ⟨by omega, by omega⟩ wr.drew
                      have HHd : Hid (Has (Tri w dx sx d sd5) wr.drew dz (wrS n q j)) := HHj.out.drewG (tri_stays w dx sx d sd5)
                      clear hW ge gv hps hl hs hg hroom HHj
                      generalize (q j).1 % (n : Int) = k at *
                      go_wp2
                      refine wp_region_ord (S := fun u => u.cell? ⟨b, off + j * 2, none⟩ = some (.int .i64 (q j).1) ∧ u.cell? ⟨b, off + j * 2 + 1, none⟩ = some (.slice (v j).1 (v j).2.1 (v j).2.2)) [(0, true), (1, true), (2, true), (3, true), (4, true), (5, true), (6, true), (8, true), (9, true), (10, true), (11, true), (12, true), (7, false), (13, false), (14, false)]
                        (by kernel_rfl) rfl (by kernel_rfl) (fun d _ _ _ _ h => by cases d <;> exact h) ⟨c0, c1⟩ ?_
                      simp only [inOrd, List.getElem?_cons_zero, List.getElem?_cons_succ]
                      iterate 3 (refine wpOrd_move rfl _ rfl ?_; simp only [Act.put, List.setIfInBounds_toArray, List.set_cons_succ, List.set_cons_zero])
                      refine wpOrd_yield (v := .pointer (some ⟨b, off + j * 2, none⟩)) rfl (fun u _ => by go_simp) ?_
                      simp only [Act.put, List.setIfInBounds_toArray, List.set_cons_succ, List.set_cons_zero]
                      refine wpOrd_yield (v := .pointer (some ⟨b, off + j * 2, none⟩)) rfl (fun u _ => by go_simp) ?_
                      simp only [Act.put, List.setIfInBounds_toArray, List.set_cons_succ, List.set_cons_zero]
                      refine wpOrd_yield (v := .int .i64 (q j).1) rfl (fun u hu => by have hu1 := hu.1; go_simp) ?_
                      simp only [Act.put, List.setIfInBounds_toArray, List.set_cons_succ, List.set_cons_zero]
                      iterate 3 (refine wpOrd_move rfl _ rfl ?_; simp only [Act.put, List.setIfInBounds_toArray, List.set_cons_succ, List.set_cons_zero])
                      refine wpOrd_yield (v := .pointer (some ⟨b, off + j * 2, none⟩)) rfl (fun u _ => by go_simp) ?_
                      simp only [Act.put, List.setIfInBounds_toArray, List.set_cons_succ, List.set_cons_zero]
                      refine wpOrd_yield (v := .pointer (some ⟨b, off + j * 2 + 1, none⟩)) rfl (fun u _ => by go_simp) ?_
                      simp only [Act.put, List.setIfInBounds_toArray, List.set_cons_succ, List.set_cons_zero]
                      refine wpOrd_yield (v := .slice (v j).1 (v j).2.1 (v j).2.2) rfl (fun u hu => by have hu1 := hu.2; go_simp) ?_
                      simp only [Act.put, List.setIfInBounds_toArray, List.set_cons_succ, List.set_cons_zero]
                      refine wpOrd_call rfl 11 _ _ rfl Try.call11 [.int .i64 (q j).1, .int .i64 n] rfl ?_
                      refine hpk.mono ?_
                      rintro e X1 ⟨rfl, he1⟩
                      obtain rfl := he1.symm
                      refine ⟨_, rfl, HW.out _ HHd.out.below3, ?_⟩
                      simp only [Act.put, List.setIfInBounds_toArray, List.set_cons_succ, List.set_cons_zero]
                      refine wpOrd_call rfl 21 _ _ rfl Try.call21 [.slice (v j).1 (v j).2.1 (v j).2.2] rfl ?_
                      refine (HBl.out _ HHd.out.below3).mono ?_
                      rintro e X2 ⟨rfl, hx2⟩
                      have hH2 := HHd.out.later (tri_stays w dx sx d sd5) hx2
                      refine ⟨_, rfl, HW.out _ hH2.below3, ?_⟩
                      simp only [Act.put, List.setIfInBounds_toArray, List.set_cons_succ, List.set_cons_zero]
                      refine wpOrd_call rfl 33 _ _ rfl Try.call33 [.pointer (some ⟨dz, 0, none⟩), .int .i64 k, .agg (blk (q j).2)] rfl ?_
                      refine (HWr.out _ hH2).mono ?_
                      rintro e X3 ⟨rfl, hH3⟩
                      have HH3 : Hid (Has (Tri w dx sx d sd5) X3 dz (wrS n q (j + 1))) := hH3
                      refine ⟨_, rfl, HW.out _ hH3.below3, ?_⟩
                      simp only [Act.put, List.setIfInBounds_toArray, List.set_cons_succ, List.set_cons_zero]
                      refine wpOrd_nil ?_
                      clear hH3 hH2 hx2 HHd hpk he1
                      go_wp2
                      exact ⟨⟨j + 1, by omega, by go_num, HH3.out⟩, by simp [intOf]; omega⟩
                    · have hps : wrS n q (j + 1) = wrS n q j := by rw [wrS_succ, if_pos (by omega)]
                      have HH3 : Hid (Has (Tri w dx sx d sd5) wr dz (wrS n q (j + 1))) := by rw [hps]; exact HHj
                      clear hW hl hs hg hroom HHj hps
                      go_wp2
                      exact ⟨⟨j + 1, by omega, by go_num, HH3.out⟩, by simp [intOf]; omega⟩
                  · obtain rfl : j = last.toNat := by omega
                    obtain ⟨j', hj', hl, hs, _⟩ := wrS_is n q hb1 last.toNat
                    have HHz : Hid (Has (Tri w dz (wrS n q last.toNat) d sd5) wr dx sx) := HHj.out.swap3
                    have HVz : Hid (Live sx n 0 ∧ Live (wrS n q last.toNat) n 0 ∧ ∀ k, curV sx k = curV (wrS n q last.toNat) k) := ⟨HXl.out, hl.toLive hs (by omega), HX.out⟩
                    clear HHj HXl HX hl hs
                    generalize wrS n q last.toNat = sz at *
                    go_wp2
                    go_loopw [24] (fun s24 wx => ∃ (r : Nat) (sa sb : St), r ≤ n ∧ s24 = .int .i64 r ∧ Hid (Has (Tri w dz sb d sd5) wx dx sa) ∧ Hid (Live sa n r ∧ Live sb n r ∧ ∀ k, curV sa k = curV sb k)) (fun s24 _ => n - (intOf s24).toNat)
                    case atStart => exact ⟨0, sx, sz, by omega, rfl, HHz.out, HVz.out⟩
                    case round =>
                      obtain ⟨r, sa, sb, hr, rfl, HHr, HA⟩ := hrel
                      clear HHz HVz
                      by_cases hr2 : (r : Int) < n
                      · obtain ⟨k1, k2, k3, k4, k5⟩ := HA.out.1.read (k := (r : Int)) ⟨by omega, hr2⟩
                        have hrd := has_read (tri_stays w dz sb d sd5) HHr.out (HA.out.1.room (by omega)) r
                        rw [k1, k2, k3, HA.out.2.2 r] at hrd
                        obtain ⟨m1, m2, m3, m4, m5⟩ := HA.out.2.1.read (k := (r : Int)) ⟨by omega, hr2⟩
                        have HRy : Hid (∀ (P : World → Loc → Prop) (W : World), Stays P → Has P W dz sb → Calls Try.prog 20 #[.pointer (some ⟨dz, 0, none⟩), .int .i64 r] W fun e W' => e = .returned (.tuple #[.agg (blk (curV sb r)), .int .i64 0]) ∧ Has P W' dz (readS sb)) := fun P W hP h => by
                          have := has_read hP h (HA.out.2.1.room (by omega)) r
                          rw [m1, m2, m3] at this
                          exact this
                        have HA2 : Hid (Live (readS sa) n (r + 1) ∧ Live (readS sb) n (r + 1) ∧ ∀ k, curV (readS sa) k = curV (readS sb) k) := ⟨k4, m4, fun k => by rw [k5, m5]; exact HA.out.2.2 k⟩
                        generalize curV sb r = F at *
                        clear k1 k2 k3 k4 k5 m1 m2 m3 m4 m5 HHr HA
                        go_wp2_with (go_at_call 20; fail)
                        refine hrd.mono ?_
                        rintro e V8 ⟨rfl, hH8⟩
                        have HH9 : Hid (Has (Keep (Tri w dx (readS sa) d sd5) V8.heap.size (.cells (blk F) 58)) (V8.alloc (.cells (blk F) 58)) dz sb) := hH8.swap3.keep (tri_stays w dx (readS sa) d sd5) _
                        clear hH8 hrd
                        go_wp2_with (first | refine wpList_store25_new rfl (.tmp 25) (.tmp 217) rfl F _ rfl rfl ?_ | (go_at_call 20; fail))
                        refine (HRy.out _ _ (keep_stays (tri_stays w dx (readS sa) d sd5) _ _) HH9.out).mono ?_
                        rintro e V9 ⟨rfl, hH9⟩
                        obtain ⟨hH10, hk1⟩ := hH9.unkeep
                        have p1 : (V9.alloc (.cells (blk F) 58)).heap[V8.heap.size]? = some (.cells (blk F) 58) := heap_kept hk1 (below_new _ _)
                        have p2 := heap_alloc_new V9 (.cells (blk F) 58)
                        have HH11 : Hid (Has (Tri w dz (readS sb) d sd5) (V9.alloc (.cells (blk F) 58)) dx (readS sa)) := hH10.swap3.later (tri_stays w dz (readS sb) d sd5) (below_new _ _)
                        clear hH9 hH10 hk1 HH9 HRy
                        generalize V8.heap.size = g8 at *
                        go_wp2_with (first | refine wpList_store25_new rfl (.tmp 27) (.tmp 223) rfl F _ rfl rfl ?_ | refine wpList_load58w rfl (.tmp 25) rfl g8 rfl F p1 ?_ | refine wpList_load58w rfl (.tmp 27) rfl V9.heap.size rfl F p2 ?_ | refine wpList_neq58 rfl (.tmp 232) (.tmp 233) rfl F rfl rfl ?_)
                        exact ⟨⟨r + 1, readS sa, readS sb, by omega, by go_num, HH11.out, HA2.out⟩, by simp [intOf]; omega⟩
                      · obtain rfl : n = r := by omega
                        have HB5 : Hid (Below w.heap.size w wr) := HHr.out.below3
                        clear HHr HA
                        go_wp2
                        go_ret
                        exact ⟨rfl, HB5.out⟩
  · have hbad : (blocks < 1 ∨ ¬ blocks < 1 ∧ blocks > 64) ∨ (¬ blocks < 1 ∧ ¬ blocks > 64 ∧ (len : Int) > 300) := by omega
    clear hp
    rcases hbad with (h1 | ⟨h1, h2⟩) | ⟨h1, h2, h3⟩
    all_goals
      go_enter Try.func7, Try.ntmps7
      go_wp2_with (go_at_call 28; fail)
      refine hA.mono ?_
      rintro e W1 ⟨rfl, hb⟩
      clear hA
      go_wp2
      go_ret
      exact ⟨rfl, hb⟩
end Go.Proofs.Ytembocfghkmieaa
