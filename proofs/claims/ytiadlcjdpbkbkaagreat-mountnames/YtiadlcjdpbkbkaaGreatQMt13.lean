/- MountNames's walk. -/
import Derived.Test.YtiadlcjdpbkbkaaGreatQMt12
namespace Go.Proofs.YtiadlcjdpbkbkaaGreat
open Go.RowKit Go.Maps
/-- The desk behind k holds of 1, 2, .. -/
def heldK : Nat → List (Int × Int)
  | 0 => []
  | k + 1 => holdL 8 (heldK k) ((k : Int) + 1)
theorem heldK_ok : ∀ k, k ≤ 9 → Dok 8 (heldK k) k
  | 0, _ => Dok.start (by omega) (by omega) 0
  | k + 1, h => (heldK_ok k (by omega)).hold (by omega)
theorem heldK_e : (∀ k : Fin 8, holdE 8 (heldK k.val) ((k.val : Int) + 1) = 0) ∧ holdE 8 (heldK 8) 9 = 15 := by
  constructor <;> decide
section
variable {M : Int} {w W W' : World} {gv g gk d n : Nat} {x : Go.Proofs.YtiadlcjdpbkbkaaGreatD.LSt} {book : Int → Nat → Int}
theorem VL.begin (h : VL M w W gv g gk d x book n) (ho : x.opn = false) (hb : x.blocks = []) (hl : x.l = 32) : Calls Tryz.prog 16 #[.pointer (some ⟨g, 0, none⟩), .int .i64 1] W fun e W' => e = .returned (.int .i64 0) ∧ VL M w W' gv g gk d { x with opn := true, room := 1 } book n :=
  (h.1.begin ho hb hl).mono fun _ _ q => ⟨q.1, q.2, h.2⟩
theorem VL.ends (h : VL M w W gv g gk d x book n) (ho : x.opn = true) (hs : x.steps = 0) : Calls Tryz.prog 19 #[.pointer (some ⟨g, 0, none⟩)] W fun e W' => e = .returned (.int .i64 0) ∧ VL M w W' gv g gk d (Go.Proofs.YtiadlcjdpbkbkaaGreatD.endX x) book n :=
  (h.1.ends ho hs).mono fun _ _ q => ⟨q.1, q.2, h.2⟩
end
set_option maxRecDepth 20000 in
set_option maxHeartbeats 8000000 in
theorem law_names (w : World) : Calls Tryz.prog 3 #[] w fun e w' => e = .returned (.bool true) ∧ Below w.heap.size w w' := by
  have hem := Go.Proofs.YtiadlcjdpbkbkaaGreatD.empty_ok (w := w) (W := w) (ks := []) (Below.refl _ _) (fun p hp => by cases hp)
  have HNw : Hid (∀ U : World, Calls Tryz.prog 7 #[.int .i64 400] U fun e W' => ∃ d, e = .returned (.tuple #[.pointer (some ⟨d, 0, none⟩), .int .i64 0]) ∧ Go.Proofs.YtiadlcjdpbkbkaaGreatD.Sits U W' d (Go.Proofs.YtiadlcjdpbkbkaaGreatD.newV 400) []) := fun U => Go.Proofs.YtiadlcjdpbkbkaaGreatD.sits_new (by decide) (Below.refl _ _) (fun p hp => by cases hp)
  have HAw : Hid (∀ U : World, Calls Tryz.prog 8 #[] U fun e w' => e = .returned (.bool true) ∧ Below U.heap.size U w') := awake_ok
  have HM0 : Hid (∀ U : World, Calls Tryz.prog 9 #[.pointer none] U fun e w' => e = .returned (.tuple #[.pointer none, .int .i64 1]) ∧ Below U.heap.size U w') := fun U => Go.Proofs.YtiadlcjdpbkbkaaGreatD.mount_none (.inl rfl)
  have HMb : Hid (∀ (U V : World) b, Go.Proofs.YtiadlcjdpbkbkaaGreatD.Sits U V b (Go.Proofs.YtiadlcjdpbkbkaaGreatD.newV 400) [] → Calls Tryz.prog 9 #[.pointer (some ⟨b, 0, none⟩)] V fun e W' => e = .returned (.tuple #[.pointer none, .int .i64 4]) ∧ Go.Proofs.YtiadlcjdpbkbkaaGreatD.Sits U W' b (Go.Proofs.YtiadlcjdpbkbkaaGreatD.readS (Go.Proofs.YtiadlcjdpbkbkaaGreatD.newV 400)) []) := fun U V b h => Go.Proofs.YtiadlcjdpbkbkaaGreatD.mount_blank h
  have HFu : Hid (∀ (U V : World) b, Go.Proofs.YtiadlcjdpbkbkaaGreatD.Sits U V b (Go.Proofs.YtiadlcjdpbkbkaaGreatD.readS (Go.Proofs.YtiadlcjdpbkbkaaGreatD.newV 400)) [] → Calls Tryz.prog 10 #[.pointer (some ⟨b, 0, none⟩), .int .i64 0] V fun e W' => e = .returned (.tuple #[]) ∧ Go.Proofs.YtiadlcjdpbkbkaaGreatD.Sits U W' b (Go.Proofs.YtiadlcjdpbkbkaaGreatD.fuseV (Go.Proofs.YtiadlcjdpbkbkaaGreatD.readS (Go.Proofs.YtiadlcjdpbkbkaaGreatD.newV 400)) 0) []) := fun U V b h => Go.Proofs.YtiadlcjdpbkbkaaGreatD.sits_fuse h 0 (by omega)
  have HBa : Hid (∀ (U V : World) b, Go.Proofs.YtiadlcjdpbkbkaaGreatD.Sits U V b (Go.Proofs.YtiadlcjdpbkbkaaGreatD.fuseV (Go.Proofs.YtiadlcjdpbkbkaaGreatD.readS (Go.Proofs.YtiadlcjdpbkbkaaGreatD.newV 400)) 0) [] → Calls Tryz.prog 11 #[.pointer (some ⟨b, 0, none⟩)] V fun e W' => e = .returned (.int .i64 3) ∧ Go.Proofs.YtiadlcjdpbkbkaaGreatD.Sits U W' b Go.Proofs.YtiadlcjdpbkbkaaGreatD.dead0 []) := fun U V b h => by
    have := Go.Proofs.YtiadlcjdpbkbkaaGreatD.sits_barrier h Go.Proofs.YtiadlcjdpbkbkaaGreatD.dead0_room.1
    rw [Go.Proofs.YtiadlcjdpbkbkaaGreatD.dead0_facts.1] at this
    exact this
  have HMd : Hid (∀ (U V : World) b, Go.Proofs.YtiadlcjdpbkbkaaGreatD.Sits U V b Go.Proofs.YtiadlcjdpbkbkaaGreatD.dead0 [] → Calls Tryz.prog 9 #[.pointer (some ⟨b, 0, none⟩)] V fun e W' => e = .returned (.tuple #[.pointer none, .int .i64 3]) ∧ Go.Proofs.YtiadlcjdpbkbkaaGreatD.Sits U W' b Go.Proofs.YtiadlcjdpbkbkaaGreatD.dead0 []) := fun U V b h => Go.Proofs.YtiadlcjdpbkbkaaGreatD.mount_dead h
  have HMa : Hid (∀ (U V : World) b, Go.Proofs.YtiadlcjdpbkbkaaGreatD.Sits U V b Go.Proofs.YtiadlcjdpbkbkaaGreatD.dead0 [] → Calls Tryz.prog 12 #[.pointer (some ⟨b, 0, none⟩)] V fun e W' => e = .returned (.int .i64 0) ∧ W' = V) := fun U V b h => by
    have := Go.Proofs.YtiadlcjdpbkbkaaGreatD.sits_made2 h
    rwa [Go.Proofs.YtiadlcjdpbkbkaaGreatD.dead0_facts.2.2] at this
  have HMt : Hid (∀ (V : World) d, Go.Proofs.YtiadlcjdpbkbkaaGreatD.Sits w V d Go.Proofs.YtiadlcjdpbkbkaaGreatD.tE [] → Calls Tryz.prog 9 #[.pointer (some ⟨d, 0, none⟩)] V fun e W' => ∃ gv g gk bk x book, e = .returned (.tuple #[.pointer (some ⟨gv, 0, none⟩), .int .i64 0]) ∧ VolAt 12 w W' gv g gk bk d x book 900 [] [] ∧ x.opn = false ∧ x.blocks = [] ∧ x.l = 32 ∧ x.steps = 0) := fun V d hV => by
    refine (Go.Proofs.YtiadlcjdpbkbkaaGreatD.mount_fine hV Go.Proofs.YtiadlcjdpbkbkaaGreatD.tE_mos Go.Proofs.YtiadlcjdpbkbkaaGreatD.tE_mos2).mono ?_
    rintro e W' ⟨gv, g, gk, bk, rfl, hv⟩
    rw [Go.Proofs.YtiadlcjdpbkbkaaGreatD.tE_facts.2.1] at hv
    exact ⟨gv, g, gk, bk, _, _, rfl, hv, rfl, rfl, rfl, rfl⟩
  generalize Go.Proofs.YtiadlcjdpbkbkaaGreatD.tE = tE at *
  generalize Go.Proofs.YtiadlcjdpbkbkaaGreatD.newV 400 = s0 at *
  generalize Go.Proofs.YtiadlcjdpbkbkaaGreatD.dead0 = s3 at *
  generalize Go.Proofs.YtiadlcjdpbkbkaaGreatD.readS s0 = s1 at *
  generalize Go.Proofs.YtiadlcjdpbkbkaaGreatD.fuseV s1 0 = s2 at *
  go_enter Tryz.func3, Tryz.ntmps3
  go_wp2_with (go_at_call 6; fail)
  refine hem.mono ?_
  rintro e W1 ⟨d, rfl, h1⟩
  have H1 := Hid.mk' h1
  have hnw := HNw.out W1
  clear hem h1 HNw
  go_wp2_with (go_at_call 7; fail)
  refine hnw.mono ?_
  rintro e W2 ⟨b, rfl, h2⟩
  have H2 := Hid.mk' h2
  have haw := HAw.out W2
  clear hnw h2 HAw
  go_wp2_with (go_at_call 8; fail)
  refine haw.mono ?_
  rintro e W3 ⟨rfl, hb3⟩
  have H3 := Hid.mk' (H2.out.later hb3)
  have hm0 := HM0.out W3
  clear haw hb3 H2 HM0
  go_wp2_with (go_at_call 9; fail)
  refine hm0.mono ?_
  rintro e W4 ⟨rfl, hb4⟩
  have hmb := HMb.out _ _ _ (H3.out.later hb4)
  clear hm0 hb4 H3 HMb
  go_wp2_with (go_at_call 9; fail)
  refine hmb.mono ?_
  rintro e W5 ⟨rfl, h5⟩
  have hfu := HFu.out _ _ _ h5
  clear hmb h5 HFu
  go_wp2_with (go_at_call 10; fail)
  refine hfu.mono ?_
  rintro e W6 ⟨rfl, h6⟩
  have hba := HBa.out _ _ _ h6
  clear hfu h6 HBa
  go_wp2_with (go_at_call 11; fail)
  refine hba.mono ?_
  rintro e W7 ⟨rfl, h7⟩
  have hmd := HMd.out _ _ _ h7
  clear hba h7 HMd
  go_wp2_with (go_at_call 9; fail)
  refine hmd.mono ?_
  rintro e W8 ⟨rfl, h8⟩
  have hma := HMa.out _ _ _ h8
  have hmt := HMt.out _ _ (H1.out.later h8.below)
  clear hmd h8 HMa HMt H1
  go_wp2_with (first | (go_at_call 12; refine hma.mono ?_; rintro e W9 ⟨rfl, rfl⟩) | (go_at_call 9; fail))
  refine hmt.mono ?_
  rintro e V1 ⟨gv, g, gk, bk, x, book, rfl, hv, ho, hbl, hl, hs⟩
  have hlg := hv.vlog
  have hdk := hv.vdesk
  have HV := Hid.mk' hv
  have HO := Hid.mk' ho
  have HBl := Hid.mk' hbl
  have HL := Hid.mk' hl
  have HS := Hid.mk' hs
  clear hmt hma hv ho hbl hl hs
  go_wp2_with (first | (go_at_call 13; refine hlg.mono ?_; rintro e V ⟨rfl, rfl⟩) | (go_at_call 14; refine hdk.mono ?_; rintro e V ⟨rfl, rfl⟩))
  clear hlg hdk
  go_loopw [13] (fun s13 wx => ∃ k : Nat, k ≤ 9 ∧ s13 = .int .i64 ((k : Int) + 1) ∧ Hid (VolAt 12 w wx gv g gk bk d x book 900 (heldK k) [])) (fun s13 _ => 10 - (intOf s13).toNat)
  case atStart => exact ⟨0, by omega, rfl, HV.out⟩
  case round =>
    obtain ⟨k, hk, rfl, HK⟩ := hrel
    by_cases h9 : k < 9
    · have t1 : decide ((k : Int) + 1 ≤ 9) = true := decide_eq_true (by omega)
      have e1 : IntKind.i64.wrap ((k : Int) + 1 + 1) = ((k + 1 : Nat) : Int) + 1 := by rw [IntKind.wrap_i64]; omega
      have hh := HK.out.hold (heldK_ok k (by omega)) (by omega) ((k : Int) + 1) (wfI (by omega) (by omega))
      by_cases h8 : k < 8
      · have t2 : decide ((k : Int) + 1 ≤ 8) = true := decide_eq_true (by omega)
        have t3 : ((k : Int) + 1 == 9) = false := beq_eq_false_iff_ne.2 (by omega)
        rw [heldK_e.1 ⟨k, h8⟩] at hh
        clear HK HV h9
        go_wp2_with (go_at_call 15; fail)
        refine hh.mono ?_
        rintro e V2 ⟨rfl, hv⟩
        have HN : Hid (VolAt 12 w V2 gv g gk bk d x book 900 (heldK (k + 1)) []) := hv
        clear hh hv
        go_wp2
        exact ⟨⟨k + 1, by omega, rfl, HN⟩, by simp [intOf]; omega⟩
      · obtain rfl : k = 8 := by omega
        have t2 : decide (((8 : Nat) : Int) + 1 ≤ 8) = false := by decide
        have t3 : (((8 : Nat) : Int) + 1 == 9) = true := by decide
        rw [show ((8 : Nat) : Int) + 1 = 9 from rfl, heldK_e.2] at hh
        clear HK HV h8 h9
        go_wp2_with (go_at_call 15; fail)
        refine hh.mono ?_
        rintro e V2 ⟨rfl, hv⟩
        have HN : Hid (VolAt 12 w V2 gv g gk bk d x book 900 (heldK 9) []) := hv
        clear hh hv
        go_wp2
        exact ⟨⟨9, by omega, rfl, HN⟩, by simp [intOf]⟩
    · obtain rfl : k = 9 := by omega
      have t1 : decide (((9 : Nat) : Int) + 1 ≤ 9) = false := by decide
      have hbg := HK.out.vl.begin HO.out HBl.out HL.out
      clear HK HV h9
      go_wp2_with (go_at_call 16; fail)
      refine hbg.mono ?_
      rintro e Y1 ⟨rfl, y1⟩
      have hsy := y1.syncOpen rfl
      clear hbg y1
      go_wp2_with (go_at_call 17; fail)
      refine hsy.mono ?_
      rintro e Y2 ⟨rfl, y2⟩
      have hcl := y2.closeOpen rfl
      clear hsy y2
      go_wp2_with (go_at_call 18; fail)
      refine hcl.mono ?_
      rintro e Y3 ⟨rfl, y3⟩
      have hen := y3.ends rfl HS.out
      clear hcl y3
      go_wp2_with (go_at_call 19; fail)
      refine hen.mono ?_
      rintro e Y4 ⟨rfl, y4⟩
      have hcl := y4.close rfl HBl.out
      clear hen y4
      go_wp2_with (go_at_call 18; fail)
      refine hcl.mono ?_
      rintro e Y5 ⟨rfl, hnv, hnl, hb5⟩
      have HB := Hid.mk' hb5
      have HNV := Hid.mk' hnv
      have HNL := Hid.mk' hnl
      clear hcl hnv hnl hb5
      go_wp2_with (first | (go_at_call 18; refine (vclose_none HNV.out).mono ?_; rintro e V ⟨rfl, rfl⟩) | (go_at_call 17; refine (vsync_none HNV.out).mono ?_; rintro e V ⟨rfl, rfl⟩) | (go_at_call 13; refine (vlog_none HNV.out).mono ?_; rintro e V ⟨rfl, rfl⟩) | (go_at_call 14; refine (vdesk_none HNV.out).mono ?_; rintro e V ⟨rfl, rfl⟩) | (go_at_call 20; refine (Go.Proofs.YtiadlcjdpbkbkaaGreatD.check_none HNL.out).mono ?_; rintro e V ⟨rfl, rfl⟩))
      go_ret
      exact ⟨rfl, HB.out⟩
end Go.Proofs.YtiadlcjdpbkbkaaGreat
