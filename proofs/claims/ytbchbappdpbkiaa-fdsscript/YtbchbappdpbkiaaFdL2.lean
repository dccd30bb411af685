/- FdsLeast's walk: it answers true, whatever the bound and the acts; no condition. -/
import Derived.Test.YtbchbappdpbkiaaFdL1
import Derived.Test.YtbchbappdpbkiaaFd2
import Derived.Test.YtbchbappdpbkiaaFdAw
namespace Go.Proofs.Ytbchbappdpbkiaa
open Go.RowKit Go.Maps
/-- A list of acts that came in. -/
def ActsAt (w : World) (p : Option Addr) (cs : List Ac) : Prop := 0 < cs.length → ∃ b off, p = some ⟨b, off, none⟩ ∧ b < w.heap.size ∧ ∀ j c, cs[j]? = some c → w.cell? ⟨b, off + j * 4, none⟩ = some (.int .i64 c.1) ∧ w.cell? ⟨b, off + j * 4 + 1, none⟩ = some (.int .i64 c.2.1) ∧ w.cell? ⟨b, off + j * 4 + 2, none⟩ = some (.int .i64 c.2.2.1) ∧ w.cell? ⟨b, off + j * 4 + 3, none⟩ = some (.int .i64 c.2.2.2)
theorem ActsAt.later {w W : World} {p : Option Addr} {l : List Ac} (h : ActsAt w p l) (hb : Below w.heap.size w W) : ActsAt W p l := fun h0 => by
  obtain ⟨b, off, h1, h2, h3⟩ := h h0
  refine ⟨b, off, h1, Nat.lt_of_lt_of_le h2 hb.size, fun j c hc => ?_⟩
  obtain ⟨k0, k1, k2, k3⟩ := h3 j c hc
  exact ⟨(hb.cell (p := ⟨b, off + j * 4, none⟩) h2).trans k0, (hb.cell (p := ⟨b, off + j * 4 + 1, none⟩) h2).trans k1, (hb.cell (p := ⟨b, off + j * 4 + 2, none⟩) h2).trans k2, (hb.cell (p := ⟨b, off + j * 4 + 3, none⟩) h2).trans k3⟩
theorem rep_snoc {α : Type} (n : Nat) (x : α) : List.replicate n x ++ [x] = List.replicate (n + 1) x := by rw [List.replicate_succ']
set_option maxHeartbeats 8000000 in
set_option maxRecDepth 20000 in
theorem least_walk (most : Int) (hm : most ≤ 9223372036854775807) (S : List Ac) (a : Option Addr) (cap : Nat) (w : World) (hS : ActsAt w a S) (hl : S.length ≤ 9223372036854775807) (hwf : ∀ c ∈ S, (Lit.int .i64 c.1).wf = true ∧ (Lit.int .i64 c.2.1).wf = true ∧ (Lit.int .i64 c.2.2.1).wf = true ∧ (Lit.int .i64 c.2.2.2).wf = true) :
    Calls Try.prog 5 #[.int .i64 most, .slice a S.length cap] w fun e w' => e = .returned (.bool true) ∧ Below w.heap.size w w' := by
  have hlv := fawake_ok
  have HA : Hid (ActsAt w a S) := hS
  obtain ⟨N, hN⟩ : ∃ N, S.length = N := ⟨_, rfl⟩
  have HN : Hid (S.length = N) := hN
  have HW := (show Hid _ from hwf)
  rw [hN] at hl ⊢
  have hM : (if most < 0 then (0 : Int) else most) = max most 0 := by split <;> omega
  have HM : Hid (0 ≤ max most 0 ∧ max most 0 ≤ 9223372036854775807) := ⟨by omega, by omega⟩
  clear hN hS hwf
  go_enter Try.func5, Try.ntmps5
  go_wp2_with (first | (go_at_call 14; fail))
  refine (hlv _).mono ?_
  rintro e W1 ⟨rfl, hb1⟩
  have HB1 : Hid (Below w.heap.size w W1) := hb1
  clear hb1
  by_cases hbig : 500 < N
  · have q1 : decide ((500 : Int) < N) = true := decide_eq_true (by omega)
    have q2 : decide (500 < N) = true := decide_eq_true (by omega)
    go_wp2
    go_ret
    exact ⟨rfl, HB1.out⟩
  have q1 : decide ((500 : Int) < N) = false := decide_eq_false (by omega)
  have q2 : decide (500 < N) = false := decide_eq_false (by omega)
  go_wp2_with (first | (go_at_call 16; fail))
  refine (sep_newA (Sep.nil HB1.out) most hm).mono ?_
  rintro e W0 ⟨g, rfl, h0⟩
  have H0 : Hid (Sep w W0 (tpA g (.slice none 0 0) 0 (max most 0) [] :: [])) := h0
  clear h0 HB1
  obtain ⟨M, hMM⟩ : ∃ M, max most 0 = M := ⟨_, rfl⟩
  rw [hMM] at H0 HM hM
  clear hMM hm
  go_wp2
  go_loopw [8, 9, 10] (fun s8 s9 s10 wx => ∃ (k : Nat) (vh vv : Value), k ≤ N + 1 ∧ s8 = vh ∧ s9 = vv ∧ s10 = .int .i64 k ∧ Hid (Sep w wx (hP vh (List.replicate k false) :: vP vv (List.replicate k (0, 0, 0, 0)) :: tpA g (.slice none 0 0) 0 M [] :: []))) (fun _ _ s10 _ => N + 1 - (intOf s10).toNat)
  case atStart => exact ⟨0, _, _, by omega, rfl, rfl, rfl, sep_nilL (sep_nilL H0.out 38 4) 4 1⟩
  case round =>
    obtain ⟨k, vh, vv, hk, e8, e9, rfl, HX⟩ := hrel
    obtain rfl := e8.symm
    obtain rfl := e9.symm
    by_cases hk2 : k ≤ N
    · have d1 : decide ((k : Int) ≤ (N : Int)) = true := decide_eq_true (by omega)
      have d2 : decide (k ≤ N) = true := decide_eq_true hk2
      obtain ⟨vh', Wa, r1, s1⟩ := sep_pushH HX.out (by simp; omega) false 50
      obtain ⟨vv', Wb, r2, s2⟩ := sep_pushV s1.swap (by simp; omega) (0, 0, 0, 0) 22
      rw [rep_snoc, rep_snoc] at s2
      have r2' : (Builtin.append_ #[22, 22] 22 #[vv, .slice (some ⟨Wa.heap.size, 0, none⟩) 1 1]).run Try.prog (Wa.alloc (.cells #[.int .i64 0, .int .i64 0, .int .i64 0, .int .i64 0] 38)) = .ok vv' Wb := r2
      have HS := (show Hid _ from s2.swap)
      clear s1 s2 r2 HX
      go_wp2_with (first | (at_builtin; refine wpList_app rfl (.tmp 41) (.tmp 42) rfl rfl rfl r1 ?_) | (at_builtin; refine wpList_app rfl (.tmp 44) (.tmp 46) rfl rfl rfl r2' ?_))
      go_roundw
      case rel => exact ⟨k + 1, _, _, by omega, rfl, rfl, by go_num, HS⟩
      case measure => simp [intOf]; omega
    · obtain rfl : k = N + 1 := by omega
      have d1 : decide (((N + 1 : Nat) : Int) ≤ (N : Int)) = false := decide_eq_false (by omega)
      have d2 : decide (N + 1 ≤ N) = false := decide_eq_false (by omega)
      obtain ⟨b8, c8, e8⟩ := hP_form HX.out (by simp)
      obtain ⟨b9, c9, e9⟩ := vP_form HX.out.swap (by simp)
      rw [List.length_replicate] at e8 e9
      subst e8
      subst e9
      obtain ⟨N1, hN1⟩ : ∃ N1, N + 1 = N1 := ⟨_, rfl⟩
      have HN1 : Hid (N + 1 = N1) := hN1
      have HLk : Hid (Lk N 0 [] (List.replicate N1 false) (List.replicate N1 (0, 0, 0, 0))) := by rw [← hN1]; exact Lk.start N
      have hN1b : 1 ≤ N1 ∧ N1 ≤ 501 := by omega
      rw [hN1] at HX ⊢
      have d3 : decide ((N1 : Int) ≤ (N : Int)) = false := decide_eq_false (by omega)
      have d4 : decide (N1 ≤ N) = false := decide_eq_false (by omega)
      clear hk hk2 d1 d2 hN1 H0
      have HX0 : Hid (∃ (R : List (Option Ac)) (H : List Bool) (V : List Ac) (v : Value) (le : Nat), cnt R = 0 ∧ Sep w wr (hP (.slice (some ⟨b8, 0, none⟩) N1 c8) H :: vP (.slice (some ⟨b9, 0, none⟩) N1 c9) V :: tpA g v le M R :: []) ∧ Lk N 0 R H V) := ⟨[], _, _, _, _, rfl, HX.out, HLk.out⟩
      clear HX HLk
      go_wp2
      go_loopw [11, 12] (fun s11 s12 wx => ∃ (i q : Nat), i ≤ N ∧ s12 = .int .i64 i ∧ s11 = .int .i64 q ∧ Hid (∃ (R : List (Option Ac)) (H : List Bool) (V : List Ac) (v : Value) (le : Nat), cnt R = q ∧ Sep w wx (hP (.slice (some ⟨b8, 0, none⟩) N1 c8) H :: vP (.slice (some ⟨b9, 0, none⟩) N1 c9) V :: tpA g v le M R :: []) ∧ Lk N i R H V)) (fun _ s12 _ => N - (intOf s12).toNat)
      case atStart => exact ⟨0, 0, by omega, rfl, rfl, HX0⟩
      case round =>
        clear HX0
        obtain ⟨i, q, hi, rfl, rfl, HR⟩ := hrel
        obtain ⟨R, H, V, v, le, hq, hs, hlk⟩ := HR.out
        have HS : Hid (Sep w wr (hP (.slice (some ⟨b8, 0, none⟩) N1 c8) H :: vP (.slice (some ⟨b9, 0, none⟩) N1 c9) V :: tpA g v le M R :: [])) := hs
        have HK : Hid (Lk N i R H V) := hlk
        have HQ : Hid (cnt R = q) := hq
        clear HR
        by_cases hi2 : i < N
        · have hln := HN.out
          obtain ⟨b, off, rfl, hb, hcc⟩ := HA.out (by omega)
          have hx : S[i]? = some S[i] := List.getElem?_eq_getElem (by omega)
          obtain ⟨k0, k1, k2, k3⟩ := hcc i _ hx
          have hw3 := (HW.out S[i] (List.getElem_mem _))
          have hbl := hs.below
          have a0 := (hbl.cell (p := ⟨b, off + i * 4, none⟩) hb).trans k0
          have a1 := (hbl.cell (p := ⟨b, off + i * 4 + 1, none⟩) hb).trans k1
          have a2 := (hbl.cell (p := ⟨b, off + i * 4 + 2, none⟩) hb).trans k2
          have a3 := (hbl.cell (p := ⟨b, off + i * 4 + 3, none⟩) hb).trans k3
          have HCC := (show Hid _ from hcc)
          generalize S[i] = x at *
          obtain ⟨x1, x2, x3, x4⟩ := x
          simp only at a0 a1 a2 a3 hw3
          clear k0 k1 k2 k3 hx hcc hbl hln hs hlk hq
          have hN1i : (1 : Int) ≤ (N1 : Int) ∧ (N1 : Int) ≤ 1048576 := by omega
          obtain ⟨at_, hat⟩ : ∃ at_ : Nat, x3 % (N1 : Int) = at_ := ⟨(x3 % (N1 : Int)).toNat, by have := Int.emod_nonneg x3 (show (N1 : Int) ≠ 0 by omega); omega⟩
          have hat2 : at_ < N1 := by have := Int.emod_lt_of_pos x3 (show (0 : Int) < (N1 : Int) by omega); omega
          have hatN : at_ ≤ N := by have := HN1.out; omega
          have hp1 := fun u => pick_ok x3 (N1 : Int) hN1i u
          rw [hat] at hp1
          have hp2 := fun u => pick_ok x2 3 (by omega) u
          obtain ⟨kd, hkd⟩ : ∃ kd : Nat, x2 % 3 = kd := ⟨(x2 % 3).toNat, by have := Int.emod_nonneg x2 (show (3 : Int) ≠ 0 by omega); omega⟩
          have hkd3 : kd < 3 := by have := Int.emod_lt_of_pos x2 (show (0 : Int) < 3 by omega); omega
          rw [hkd] at hp2
          clear hat hkd hw3
          go_wp2_with (first | (go_at_call 10; fail))
          have HS1 : Hid (Sep w (wr.alloc (.cells #[.int .i64 x1, .int .i64 x2, .int .i64 x3, .int .i64 x4] 38)) (bxP wr.heap.size #[.int .i64 x1, .int .i64 x2, .int .i64 x3, .int .i64 x4] 38 :: hP (.slice (some ⟨b8, 0, none⟩) N1 c8) H :: vP (.slice (some ⟨b9, 0, none⟩) N1 c9) V :: tpA g v le M R :: [])) := HS.out.box _ _
          have bx : (wr.alloc (.cells #[.int .i64 x1, .int .i64 x2, .int .i64 x3, .int .i64 x4] 38)).heap[wr.heap.size]? = some (.cells #[.int .i64 x1, .int .i64 x2, .int .i64 x3, .int .i64 x4] 38) := heap_alloc_new _ _
          have BX := (show Hid _ from bx)
          clear bx HS a0 a1 a2 a3
          generalize hB13 : wr.heap.size = B13 at *
          generalize wr.alloc (.cells #[.int .i64 x1, .int .i64 x2, .int .i64 x3, .int .i64 x4] 38) = X at *
          refine (hp1 _).mono ?_
          rintro e U1 ⟨rfl, e1⟩
          obtain rfl := e1.symm
          have f1 : X.cell? ⟨B13, 1, none⟩ = some (.int .i64 x2) := Joins.cell_of_block BX.out 1
          go_wp2_with (first | (go_at_call 10; fail))
          refine (hp2 _).mono ?_
          rintro e U2 ⟨rfl, e2⟩
          obtain rfl := e2.symm
          have hHl : H.length = N1 := by rw [HK.out.hl]; exact HN1.out
          have hVl : V.length = N1 := by rw [HK.out.vl]; exact HN1.out
          have hRl : R.length ≤ i := HK.out.rl
          have hqM : (q : Int) ≤ M := by have := (HS1.out.sayOf (q := tpA g v le M R) (by simp)); have := this.cnm; have := HQ.out; omega
          have hqi : q ≤ i := by have := cnt_le R; have := HQ.out; omega
          have HHl := (show Hid _ from hHl)
          have HVl := (show Hid _ from hVl)
          clear f1 hp1 hp2 hHl hVl
          rcases (show kd = 0 ∨ kd = 1 ∨ kd = 2 by omega) with rfl | rfl | rfl
          · obtain ⟨n0, hn0⟩ : ∃ n0, lf R = n0 := ⟨_, rfl⟩
            have HN0 : Hid (lf R = n0) := hn0
            have hn0N : n0 ≤ N := by have := lf_le R; omega
            have HHt : Hid (∀ j, j < n0 → H[j]? = some true) := fun j hj => by rw [HK.out.hh j (by omega), atR_held (by rw [hn0]; exact hj)]
            have HHf : Hid (H[n0]? = some false) := by
              show H[n0]? = some false
              rw [HK.out.hh n0 hn0N, ← hn0, atR_lf]
              rfl
            have hn01 : n0 < N1 := by have := HN1.out; omega
            clear hn0
            go_wp2
            go_loopw [15] (fun s15 wx => ∃ j : Nat, j ≤ n0 ∧ s15 = .int .i64 j ∧ wx = X) (fun s15 _ => n0 - (intOf s15).toNat)
            case atStart => exact ⟨0, by omega, rfl, rfl⟩
            case round =>
              obtain ⟨j, hj, rfl, hwx⟩ := hrel
              obtain rfl := hwx.symm
              by_cases hj2 : j < n0
              · obtain ⟨_, cc, _⟩ := hP_at HS1.out.swap HHl.out (HHt.out j hj2)
                have hjn : j < N1 := by omega
                go_wp2
                go_roundw
                case rel => exact ⟨j + 1, by omega, by go_num, trivial⟩
                case measure => simp [intOf]; omega
              · obtain rfl : j = n0 := by omega
                obtain ⟨_, cc, ff⟩ := hP_at HS1.out.swap HHl.out HHf.out
                have g1 : X.cell? ⟨B13, 0, none⟩ = some (.int .i64 x1) := Joins.cell_of_block BX.out 0
                have g2 : X.cell? ⟨B13, 1, none⟩ = some (.int .i64 x2) := Joins.cell_of_block BX.out 1
                have g3 : X.cell? ⟨B13, 2, none⟩ = some (.int .i64 x3) := Joins.cell_of_block BX.out 2
                have g4 : X.cell? ⟨B13, 3, none⟩ = some (.int .i64 x4) := Joins.cell_of_block BX.out 3
                go_wp2_with (first | (go_at_call 18; fail))
                refine (plain_ok x1 x2 x3 x4 _).mono ?_
                rintro e Y1 ⟨rfl, hb⟩
                have HS2 := (show Hid _ from (HS1.out.later hb).front4)
                clear hb g1 g2 g3 g4 cc ff
                go_wp2_with (first | (go_at_call 17; fail))
                refine (sep_openA HS2.out (by omega) (x1, x2, x3, x4)).mono ?_
                unfold openN openE openT
                by_cases hfu : (q : Int) = M
                · have hfu2 : ((cnt R : Nat) : Int) = M := by rw [HQ.out]; exact hfu
                  rw [if_pos hfu2, if_pos hfu2, if_pos hfu2]
                  rintro e Y2 ⟨rfl, v2, le2, hs2⟩
                  have HS3 := (show Hid _ from hs2.back4.drop)
                  have hd : decide (M ≤ (q : Int)) = true := decide_eq_true (by omega)
                  clear hs2 HS2 hfu2
                  go_wp2
                  go_roundw
                  case rel => exact ⟨i + 1, q, by omega, by go_num, by rw [hfu], R, H, V, v2, le2, HQ.out, HS3.out, HK.out.later (by omega)⟩
                  case measure => simp [intOf]; omega
                · have hfu2 : ¬ ((cnt R : Nat) : Int) = M := by rw [HQ.out]; exact hfu
                  rw [if_neg hfu2, if_neg hfu2, if_neg hfu2, HN0.out]
                  rintro e Y2 ⟨rfl, v2, le2, hs2⟩
                  have HS3 := (show Hid _ from hs2.back4.swap)
                  obtain ⟨_, cc, ff⟩ := hP_at HS3.out HHl.out HHf.out
                  have HS4 := (show Hid _ from (sep_setH (k := j) HS3.out HHl.out true).swap)
                  have BX2 : Hid ((Y2.setCell ⟨b8, j, none⟩ (.bool true)).heap[B13]? = some (.cells #[.int .i64 x1, .int .i64 x2, .int .i64 x3, .int .i64 x4] 38)) := HS4.out.head
                  have g1 : (Y2.setCell ⟨b8, j, none⟩ (.bool true)).cell? ⟨B13, 0, none⟩ = some (.int .i64 x1) := Joins.cell_of_block BX2.out 0
                  have g2 : (Y2.setCell ⟨b8, j, none⟩ (.bool true)).cell? ⟨B13, 1, none⟩ = some (.int .i64 x2) := Joins.cell_of_block BX2.out 1
                  have g3 : (Y2.setCell ⟨b8, j, none⟩ (.bool true)).cell? ⟨B13, 2, none⟩ = some (.int .i64 x3) := Joins.cell_of_block BX2.out 2
                  have g4 : (Y2.setCell ⟨b8, j, none⟩ (.bool true)).cell? ⟨B13, 3, none⟩ = some (.int .i64 x4) := Joins.cell_of_block BX2.out 3
                  have hd : decide (M ≤ (q : Int)) = false := decide_eq_false (by omega)
                  have ff2 := ff j
                  clear hs2 HS2 HS3 hfu2 ff
                  go_wp2_with (first | (go_at_call 18; fail))
                  refine (plain_ok x1 x2 x3 x4 _).mono ?_
                  rintro e Y3 ⟨rfl, hb⟩
                  have HS5 := (show Hid _ from ((HS4.out.later hb).drop).swap)
                  obtain ⟨cur, hbc, hfit, hset⟩ := sep_setV (k := j) HS5.out HVl.out hn01 (x1, x2, x3, x4)
                  have HS6 := (show Hid _ from hset.swap)
                  obtain ⟨ii, hii, hisz⟩ : ∃ ii, Try.prog.info? 38 = some ii ∧ ii.size = (acE (x1, x2, x3, x4)).length := by
                    obtain ⟨i0, hi0, hz0, hz1, hz2⟩ := info_parts infac
                    exact ⟨i0, hi0, hz1⟩
                  clear hb hset HS4 HS5 BX2 g1 g2 g3 g4 cc ff2
                  go_wp2_with (first | (with_reducible refine isStoreR 38 ?_; refine wpList_stAt 38 38 rfl (.tmp 100) (.tmp 99) rfl b9 (j * 4) (acE (x1, x2, x3, x4)) cur ii hii hisz rfl rfl hbc hfit (oneac _) ?_))
                  go_roundw
                  case rel => exact ⟨i + 1, q + 1, by omega, by go_num, by go_num, openR R (x1, x2, x3, x4), H.set j true, V.set j (x1, x2, x3, x4), v2, le2, by rw [cnt_open, HQ.out], HS6.out, by have := HK.out.opened hi2 (x1, x2, x3, x4); rwa [HN0.out] at this⟩
                  case measure => simp [intOf]; omega
          · go_wp2_with (first | (go_at_call 19; fail))
            refine (sep_closeA HS1.out.front4 (by omega) (at_ : Int)).mono ?_
            rcases HK.out.cases hatN with ⟨z, hz, z1, z2, z3, _, z5, z6⟩ | ⟨z1, z2, z3, _, z5⟩
            · rw [z1, z2, z3]
              rintro e Y1 ⟨rfl, v2, le2, hs2⟩
              obtain ⟨z1', z2', z3', z4'⟩ := z
              have HLK2 : Hid (Lk N i (R.set at_ none) (H.set at_ false) V) := HK.out.closed hz
              have HCN : Hid (cnt (R.set at_ none) + 1 = q) := by rw [← HQ.out]; exact cnt_set_none R at_ _ hz
              have HS2 := (show Hid _ from hs2.back4.drop.box #[.int .i64 z1', .int .i64 z2', .int .i64 z3', .int .i64 z4'] 38)
              have hq1 : 1 ≤ q := by have := HCN.out; omega
              unfold thA
              simp only
              obtain ⟨hb8, cc, _⟩ := hP_at HS2.out.swap HHl.out z5
              obtain ⟨hb9, v0, v1, v2', v3⟩ := vP_at HS2.out.third HVl.out z6
              have hB18 : (Y1.alloc (.cells #[.int .i64 z1', .int .i64 z2', .int .i64 z3', .int .i64 z4'] 38)).heap[Y1.heap.size]? = some (.cells #[.int .i64 z1', .int .i64 z2', .int .i64 z3', .int .i64 z4'] 38) := heap_alloc_new _ _
              simp only at v0 v1 v2' v3
              have hsame := fun u => same_ok z1' z2' z3' z4' u
              clear z1 z2 z3 z6 hs2
              go_wp2
              generalize hB : Y1.heap.size = B18 at *
              generalize Y1.alloc (.cells #[.int .i64 z1', .int .i64 z2', .int .i64 z3', .int .i64 z4'] 38) = Y at *
              have hlt18 : B18 < Y.heap.size := (Array.getElem?_eq_some_iff.1 hB18).1
              have m0 : ∀ y : Later Y, y.val.cell? ⟨b8, at_, none⟩ = some (.bool true) := fun y => (y.cell ⟨b8, at_, none⟩ hb8).trans cc
              have m1 : ∀ y : Later Y, y.val.cell? ⟨b9, at_ * 4, none⟩ = some (.int .i64 z1') := fun y => (y.cell ⟨b9, at_ * 4, none⟩ hb9).trans v0
              have m2 : ∀ y : Later Y, y.val.cell? ⟨b9, at_ * 4 + 1, none⟩ = some (.int .i64 z2') := fun y => (y.cell ⟨b9, at_ * 4 + 1, none⟩ hb9).trans v1
              have m3 : ∀ y : Later Y, y.val.cell? ⟨b9, at_ * 4 + 2, none⟩ = some (.int .i64 z3') := fun y => (y.cell ⟨b9, at_ * 4 + 2, none⟩ hb9).trans v2'
              have m4 : ∀ y : Later Y, y.val.cell? ⟨b9, at_ * 4 + 3, none⟩ = some (.int .i64 z4') := fun y => (y.cell ⟨b9, at_ * 4 + 3, none⟩ hb9).trans v3
              have n1 : ∀ y : Later Y, y.val.cell? ⟨B18, 0, none⟩ = some (.int .i64 z1') := fun y => (y.cell ⟨B18, 0, none⟩ hlt18).trans (Joins.cell_of_block hB18 0)
              have n2 : ∀ y : Later Y, y.val.cell? ⟨B18, 1, none⟩ = some (.int .i64 z2') := fun y => (y.cell ⟨B18, 1, none⟩ hlt18).trans (Joins.cell_of_block hB18 1)
              have n3 : ∀ y : Later Y, y.val.cell? ⟨B18, 2, none⟩ = some (.int .i64 z3') := fun y => (y.cell ⟨B18, 2, none⟩ hlt18).trans (Joins.cell_of_block hB18 2)
              have n4 : ∀ y : Later Y, y.val.cell? ⟨B18, 3, none⟩ = some (.int .i64 z4') := fun y => (y.cell ⟨B18, 3, none⟩ hlt18).trans (Joins.cell_of_block hB18 3)
              have eTT : (true != true) = false := rfl
              clear v0 v1 v2' v3 cc hB18
              have hne := later_some Y
              refine wp_region_later (by kernel_rfl) (by kernel_rfl) Y (Below.refl _ _) ?_
              repeat (first | go_big_quiet_step (first | (go_at_call 20; exact Later.call _ (hsame _))))
              refine wpQuiet_nil ?_
              rintro _ ⟨y, rfl⟩
              clear hne
              have HS3 := (show Hid _ from (HS2.out.later y.below).drop)
              obtain ⟨_, cc, ff⟩ := hP_at HS3.out HHl.out z5
              have ff2 := ff at_
              have HS4 := (show Hid _ from sep_setH (k := at_) HS3.out HHl.out false)
              clear m0 m1 m2 m3 m4 n1 n2 n3 n4 hb8 hb9 hlt18 HS2 HS3 ff hsame
              generalize y.val = Z at *
              go_wp2
              go_roundw
              case rel => exact ⟨i + 1, q - 1, by omega, by go_num, by go_num, R.set at_ none, H.set at_ false, V, v2, le2, by have := HCN.out; omega, HS4.out, HLK2.out.later (by omega)⟩
              case measure => simp [intOf]; omega
            · rw [z1, z2, z3]
              rintro e Y1 ⟨rfl, v2, le2, hs2⟩
              have HS2 := (show Hid _ from hs2.back4.drop.box #[.int .i64 0, .int .i64 0, .int .i64 0, .int .i64 0] 38)
              unfold thA
              simp only
              obtain ⟨hb8, cc, _⟩ := hP_at HS2.out.swap HHl.out z5
              clear z1 z2 z3 hs2
              go_wp2
              generalize Y1.alloc (.cells #[.int .i64 0, .int .i64 0, .int .i64 0, .int .i64 0] 38) = Y at *
              have m0 : ∀ y : Later Y, y.val.cell? ⟨b8, at_, none⟩ = some (.bool false) := fun y => (y.cell ⟨b8, at_, none⟩ hb8).trans cc
              have hsame := fun u => same_ok 0 0 0 0 u
              have eFF : (false != false) = false := rfl
              clear cc
              have hne := later_some Y
              refine wp_region_later (by kernel_rfl) (by kernel_rfl) Y (Below.refl _ _) ?_
              repeat (first | go_big_quiet_step (first | (go_at_call 20; exact Later.call _ (hsame _))))
              refine wpQuiet_nil ?_
              rintro _ ⟨y, rfl⟩
              clear hne
              have HS3 := (show Hid _ from (HS2.out.later y.below).drop)
              obtain ⟨_, cc, _⟩ := hP_at HS3.out HHl.out z5
              clear m0 hb8 HS2 hsame
              generalize y.val = Z at *
              go_wp2
              go_roundw
              case rel => exact ⟨i + 1, q, by omega, by go_num, rfl, R, H, V, v2, le2, HQ.out, HS3.out, HK.out.later (by omega)⟩
              case measure => simp [intOf]; omega
          · have g1 : X.cell? ⟨B13, 0, none⟩ = some (.int .i64 x1) := Joins.cell_of_block BX.out 0
            have g2 : X.cell? ⟨B13, 1, none⟩ = some (.int .i64 x2) := Joins.cell_of_block BX.out 1
            have g3 : X.cell? ⟨B13, 2, none⟩ = some (.int .i64 x3) := Joins.cell_of_block BX.out 2
            have g4 : X.cell? ⟨B13, 3, none⟩ = some (.int .i64 x4) := Joins.cell_of_block BX.out 3
            go_wp2_with (first | (go_at_call 18; fail))
            refine (plain_ok x1 x2 x3 x4 _).mono ?_
            rintro e Y1 ⟨rfl, hb⟩
            have HS2 := (show Hid _ from (HS1.out.later hb).front4)
            clear hb g1 g2 g3 g4
            go_wp2_with (first | (go_at_call 21; fail))
            refine (sep_setA HS2.out (at_ : Int) (x1, x2, x3, x4)).mono ?_
            rcases HK.out.cases hatN with ⟨z, hz, z1, _, _, z4, z5, z6⟩ | ⟨z1, _, _, z4, z5⟩
            · rw [z1, z4]
              rintro e Y2 ⟨rfl, v2, le2, hs2⟩
              have HLK2 : Hid (Lk N i (R.set at_ (some (x1, x2, x3, x4))) H (V.set at_ (x1, x2, x3, x4))) := HK.out.sets hz hi (x1, x2, x3, x4)
              have HCN : Hid (cnt (R.set at_ (some (x1, x2, x3, x4))) = q) := by rw [← HQ.out]; exact cnt_set_same R at_ _ _ hz
              have HS3 := (show Hid _ from hs2.back4)
              obtain ⟨_, cc, _⟩ := hP_at HS3.out.swap HHl.out z5
              have BX2 : Hid (Y2.heap[B13]? = some (.cells #[.int .i64 x1, .int .i64 x2, .int .i64 x3, .int .i64 x4] 38)) := HS3.out.head
              have g1 : Y2.cell? ⟨B13, 0, none⟩ = some (.int .i64 x1) := Joins.cell_of_block BX2.out 0
              have g2 : Y2.cell? ⟨B13, 1, none⟩ = some (.int .i64 x2) := Joins.cell_of_block BX2.out 1
              have g3 : Y2.cell? ⟨B13, 2, none⟩ = some (.int .i64 x3) := Joins.cell_of_block BX2.out 2
              have g4 : Y2.cell? ⟨B13, 3, none⟩ = some (.int .i64 x4) := Joins.cell_of_block BX2.out 3
              have eTT : (true != true) = false := rfl
              clear z1 z4 z6 hs2 HS2
              go_wp2_with (first | (go_at_call 18; fail))
              refine (plain_ok x1 x2 x3 x4 _).mono ?_
              rintro e Y3 ⟨rfl, hb⟩
              have HS5 := (show Hid _ from ((HS3.out.later hb).drop).swap)
              obtain ⟨cur, hbc, hfit, hset⟩ := sep_setV (k := at_) HS5.out HVl.out hat2 (x1, x2, x3, x4)
              have HS6 := (show Hid _ from hset.swap)
              obtain ⟨ii, hii, hisz⟩ : ∃ ii, Try.prog.info? 38 = some ii ∧ ii.size = (acE (x1, x2, x3, x4)).length := by
                obtain ⟨i0, hi0, hz0, hz1, hz2⟩ := info_parts infac
                exact ⟨i0, hi0, hz1⟩
              clear hb hset HS3 HS5 BX2 g1 g2 g3 g4 cc
              go_wp2_with (first | (with_reducible refine isStoreR 38 ?_; refine wpList_stAt 38 38 rfl (.tmp 164) (.tmp 163) rfl b9 (at_ * 4) (acE (x1, x2, x3, x4)) cur ii hii hisz rfl rfl hbc hfit (oneac _) ?_))
              go_roundw
              case rel => exact ⟨i + 1, q, by omega, by go_num, rfl, R.set at_ (some (x1, x2, x3, x4)), H, V.set at_ (x1, x2, x3, x4), v2, le2, HCN.out, HS6.out, HLK2.out.later (by omega)⟩
              case measure => simp [intOf]; omega
            · rw [z1, z4]
              rintro e Y2 ⟨rfl, v2, le2, hs2⟩
              have HS3 := (show Hid _ from hs2.back4.drop)
              obtain ⟨_, cc, _⟩ := hP_at HS3.out HHl.out z5
              have eFF : (false != false) = false := rfl
              clear z1 z4 hs2 HS2
              go_wp2
              go_roundw
              case rel => exact ⟨i + 1, q, by omega, by go_num, rfl, R, H, V, v2, le2, HQ.out, HS3.out, HK.out.later (by omega)⟩
              case measure => simp [intOf]; omega
        · obtain rfl : i = N := by omega
          have hHl : H.length = N1 := by rw [HK.out.hl]; exact HN1.out
          have hVl : V.length = N1 := by rw [HK.out.vl]; exact HN1.out
          have HHl := (show Hid _ from hHl)
          have HVl := (show Hid _ from hVl)
          have HS0 : Hid (∃ v le, Sep w wr (hP (.slice (some ⟨b8, 0, none⟩) N1 c8) H :: vP (.slice (some ⟨b9, 0, none⟩) N1 c9) V :: tpA g v le M R :: [])) := ⟨_, _, hs⟩
          clear hs hlk hq hHl hVl HS
          have dN : decide ((i : Int) < (i : Int)) = false := decide_eq_false (by omega)
          have dN2 : decide (i < i) = false := decide_eq_false (by omega)
          go_wp2
          go_loopw [21] (fun s21 wx => ∃ k : Nat, k ≤ N1 ∧ s21 = .int .i64 k ∧ Hid (∃ v le, Sep w wx (hP (.slice (some ⟨b8, 0, none⟩) N1 c8) H :: vP (.slice (some ⟨b9, 0, none⟩) N1 c9) V :: tpA g v le M R :: []))) (fun s21 _ => N1 - (intOf s21).toNat)
          case atStart => exact ⟨0, by omega, rfl, HS0⟩
          case round =>
            clear HS0
            obtain ⟨k, hk, rfl, HY⟩ := hrel
            obtain ⟨v', le', hs'⟩ := HY.out
            have HS : Hid (Sep w wr (hP (.slice (some ⟨b8, 0, none⟩) N1 c8) H :: vP (.slice (some ⟨b9, 0, none⟩) N1 c9) V :: tpA g v' le' M R :: [])) := hs'
            clear hs' HY
            by_cases hk2 : k < N1
            · have hkN : k ≤ i := by have := HN1.out; omega
              go_wp2_with (first | (go_at_call 22; fail))
              refine (sep_getA HS.out.third (k : Int)).mono ?_
              rcases HK.out.cases hkN with ⟨z, hz, z1, z2, _, _, z5, z6⟩ | ⟨z1, z2, _, _, z5⟩
              · rw [z1, z2]
                rintro e Y1 ⟨rfl, hs2⟩
                obtain ⟨z1', z2', z3', z4'⟩ := z
                have HS2 := (show Hid _ from hs2.back.box #[.int .i64 z1', .int .i64 z2', .int .i64 z3', .int .i64 z4'] 38)
                unfold thA
                simp only
                obtain ⟨hb8, cc, _⟩ := hP_at HS2.out.swap HHl.out z5
                obtain ⟨hb9, v0, v1, v2', v3⟩ := vP_at HS2.out.third HVl.out z6
                have hB18 : (Y1.alloc (.cells #[.int .i64 z1', .int .i64 z2', .int .i64 z3', .int .i64 z4'] 38)).heap[Y1.heap.size]? = some (.cells #[.int .i64 z1', .int .i64 z2', .int .i64 z3', .int .i64 z4'] 38) := heap_alloc_new _ _
                simp only at v0 v1 v2' v3
                have hsame := fun u => same_ok z1' z2' z3' z4' u
                clear z1 z2 z6 hs2
                go_wp2
                generalize hB : Y1.heap.size = B18 at *
                generalize Y1.alloc (.cells #[.int .i64 z1', .int .i64 z2', .int .i64 z3', .int .i64 z4'] 38) = Y at *
                have hlt18 : B18 < Y.heap.size := (Array.getElem?_eq_some_iff.1 hB18).1
                have m0 : ∀ y : Later Y, y.val.cell? ⟨b8, k, none⟩ = some (.bool true) := fun y => (y.cell ⟨b8, k, none⟩ hb8).trans cc
                have m1 : ∀ y : Later Y, y.val.cell? ⟨b9, k * 4, none⟩ = some (.int .i64 z1') := fun y => (y.cell ⟨b9, k * 4, none⟩ hb9).trans v0
                have m2 : ∀ y : Later Y, y.val.cell? ⟨b9, k * 4 + 1, none⟩ = some (.int .i64 z2') := fun y => (y.cell ⟨b9, k * 4 + 1, none⟩ hb9).trans v1
                have m3 : ∀ y : Later Y, y.val.cell? ⟨b9, k * 4 + 2, none⟩ = some (.int .i64 z3') := fun y => (y.cell ⟨b9, k * 4 + 2, none⟩ hb9).trans v2'
                have m4 : ∀ y : Later Y, y.val.cell? ⟨b9, k * 4 + 3, none⟩ = some (.int .i64 z4') := fun y => (y.cell ⟨b9, k * 4 + 3, none⟩ hb9).trans v3
                have n1 : ∀ y : Later Y, y.val.cell? ⟨B18, 0, none⟩ = some (.int .i64 z1') := fun y => (y.cell ⟨B18, 0, none⟩ hlt18).trans (Joins.cell_of_block hB18 0)
                have n2 : ∀ y : Later Y, y.val.cell? ⟨B18, 1, none⟩ = some (.int .i64 z2') := fun y => (y.cell ⟨B18, 1, none⟩ hlt18).trans (Joins.cell_of_block hB18 1)
                have n3 : ∀ y : Later Y, y.val.cell? ⟨B18, 2, none⟩ = some (.int .i64 z3') := fun y => (y.cell ⟨B18, 2, none⟩ hlt18).trans (Joins.cell_of_block hB18 2)
                have n4 : ∀ y : Later Y, y.val.cell? ⟨B18, 3, none⟩ = some (.int .i64 z4') := fun y => (y.cell ⟨B18, 3, none⟩ hlt18).trans (Joins.cell_of_block hB18 3)
                have eTT : (true != true) = false := rfl
                clear v0 v1 v2' v3 cc hB18
                have hne := later_some Y
                refine wp_region_later (by kernel_rfl) (by kernel_rfl) Y (Below.refl _ _) ?_
                repeat (first | go_big_quiet_step (first | (go_at_call 20; exact Later.call _ (hsame _))))
                refine wpQuiet_nil ?_
                rintro _ ⟨y, rfl⟩
                clear hne
                have HS3 := (show Hid _ from (HS2.out.later y.below).drop)
                clear m0 m1 m2 m3 m4 n1 n2 n3 n4 hb8 hb9 hlt18 HS2 hsame
                generalize y.val = Z at *
                go_wp2
                go_roundw
                case rel => exact ⟨k + 1, by omega, by go_num, _, _, HS3.out⟩
                case measure => simp [intOf]; omega
              · rw [z1, z2]
                rintro e Y1 ⟨rfl, hs2⟩
                have HS2 := (show Hid _ from hs2.back.box #[.int .i64 0, .int .i64 0, .int .i64 0, .int .i64 0] 38)
                unfold thA
                simp only
                obtain ⟨hb8, cc, _⟩ := hP_at HS2.out.swap HHl.out z5
                clear z1 z2 hs2
                go_wp2
                generalize Y1.alloc (.cells #[.int .i64 0, .int .i64 0, .int .i64 0, .int .i64 0] 38) = Y at *
                have m0 : ∀ y : Later Y, y.val.cell? ⟨b8, k, none⟩ = some (.bool false) := fun y => (y.cell ⟨b8, k, none⟩ hb8).trans cc
                have hsame := fun u => same_ok 0 0 0 0 u
                have eFF : (false != false) = false := rfl
                clear cc
                have hne := later_some Y
                refine wp_region_later (by kernel_rfl) (by kernel_rfl) Y (Below.refl _ _) ?_
                repeat (first | go_big_quiet_step (first | (go_at_call 20; exact Later.call _ (hsame _))))
                refine wpQuiet_nil ?_
                rintro _ ⟨y, rfl⟩
                clear hne
                have HS3 := (show Hid _ from (HS2.out.later y.below).drop)
                clear m0 hb8 HS2 hsame
                generalize y.val = Z at *
                go_wp2
                go_roundw
                case rel => exact ⟨k + 1, by omega, by go_num, _, _, HS3.out⟩
                case measure => simp [intOf]; omega
            · obtain rfl : k = N1 := by omega
              have hcm := HS.out.third.head.cnm
              have hle := len_okA HS.out.third.head
              have hfu := sep_fullA HS.out.third
              rw [HQ.out] at hle hfu hcm
              have e1 : ((q : Int) == (q : Int)) = true := by simp
              have e2 : decide ((q : Int) = M) = decide (M ≤ (q : Int)) := by
                by_cases hh : (q : Int) = M
                · rw [decide_eq_true hh, decide_eq_true (by omega)]
                · rw [decide_eq_false hh, decide_eq_false (by omega)]
              rw [e2] at hfu
              have e3 : (decide (M ≤ (q : Int)) == decide (M ≤ (q : Int))) = true := by simp
              have dK : decide ((k : Int) < (k : Int)) = false := decide_eq_false (by omega)
              have dK2 : decide (k < k) = false := decide_eq_false (by omega)
              clear e2 hcm
              go_wp2_with (first | (go_at_call 23; refine hle.mono ?_; rintro e U ⟨rfl, qq⟩; obtain rfl := qq.symm) | (go_at_call 24; fail))
              refine hfu.mono ?_
              rintro e Z ⟨rfl, hz⟩
              have HB : Hid (Below w.heap.size w Z) := hz.below
              clear hz hfu hle
              go_wp2
              go_ret
              exact ⟨rfl, HB.out⟩
end Go.Proofs.Ytbchbappdpbkiaa
