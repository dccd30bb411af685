/- The examples' calls about the power's going, in one piece each; closed but for what was there before. -/
import Derived.Test.YtahaiciciljijaaLNames2
namespace Go.Proofs.Ytahaiciciljijaa
open Go.RowKit Go.Maps
variable {w W : World} {g d c mb : Nat} {v : Value} {x : LSt} {s : CSt} {t : St} {os ks : List (Nat × Obj)} {base : Nat} {book : Int → Nat → Int} {n f : Int} {cur : Int → Nat → Int} {wait : List Cel}
theorem LogI.inv (h : LogI w W g d x t book ks) : ∃ s, Inv x s t book ∧ Ok t := by
  obtain ⟨s, h1, h2⟩ := h
  exact ⟨s, h2, h1.ok.2⟩
theorem names_begin {r : Int} (h : LogI w W g d nx6 (freshT 400) nb3 ks) (hr : r = 30) : Calls Try.prog 29 #[ptr g, .int .i64 r] W fun e W' => e = .returned (.int .i64 0) ∧ ∃ t1, LogI w W' g d nx7 t1 nb3 ks ∧ LiveT t1 400 (-1) (curV t1) [] ∧ curV t1 1 = nought ∧ t1.made = 10 ∧ t1.claims = 1 ∧ t1.claimed = true ∧ t1.reads = 1 ∧ t1.ops.length ≤ 10 := by
  subst hr
  refine (h.beginOver (r := 30) (refL_of rfl rfl rfl) (by omega) (by decide) (by decide) (by refine ⟨?_, ?_, ?_, ?_⟩ <;> decide) (by decide)).mono ?_
  obtain ⟨s, hI, ok⟩ := h.inv
  rintro e W' hp
  exact names_one hp hI ok rfl rfl rfl rfl rfl rfl rfl rfl
theorem fuse_nums (m : Int) : (fuseV t m).claims = t.claims ∧ (fuseV t m).claimed = t.claimed ∧ (fuseV t m).reads = t.reads ∧ (fuseV t m).made = t.made ∧ (fuseV t m).ops = t.ops := by
  unfold fuseV
  split <;> exact ⟨rfl, rfl, rfl, rfl, rfl⟩
theorem nb5_33 : nb5 33 = blkF 1 := rfl
theorem nb5_60 : nb5 60 = blkF 1 := rfl
theorem names_sync1 (h : LogI w W g d nx12 t nb5 ks) (hL : LiveT t 400 3 cur []) (hcl : t.claims = 1) (hcd : t.claimed = true) (hrm : Rm t 16) : Calls Try.prog 25 #[ptr g] W fun e W' => e = .returned (.int .i64 3) ∧ ∃ tA x' c mb v, x'.claim = 1 ∧ Sits w W' d { tA with stopped := true } ((g, .cells (lgRow g d c mb v x') 48) :: ks) ∧ LiveT tA 400 0 (fun j => if 3 = j then nb5 60 else if 2 = j then nb5 33 else cur j) [] ∧ tA.claims = 1 ∧ tA.reads = t.reads ∧ tA.made ≤ t.made + 3 := by
  have hr : refL nx12 t false = 0 := refL_of (live_of hL.stop hcl hcd) rfl rfl
  refine (h.sync hr (by decide) (hrm.le (by decide)) (by decide)).mono ?_
  rintro e W' hp
  obtain ⟨e1, tA, r, l, n1, n2, n3, n4⟩ := names_dead hp nx12_blocks hL (by rw [nb5_33]; exact blkF_can (by omega)) (by rw [nb5_60]; exact blkF_can (by omega))
  obtain ⟨_, ⟨x', s', hs, hx⟩, _⟩ := hp
  rw [r] at hs
  obtain ⟨c, mb, v, hs2⟩ := hs.toSits
  exact ⟨e1, tA, x', c, mb, v, hx, hs2, l, n1.trans hcl, n2, n3⟩
theorem names_crash {kv : Value} {kl : List Bool} (h : Sits w W d { t with stopped := true } ks) (hL : LiveT t 400 0 cur wait) (hkv : BoolsAt W kv kl) (hk : keptL wait kl = wait) (hw : wait.length ≤ 1000) (hkl : kl.length ≤ 1000) : Calls Try.prog 19 #[ptr d, kv] W fun e W' => e = .returned (.int .i64 0) ∧ ∃ t4, Sits w W' d t4 ks ∧ LiveT t4 400 (-1) cur [] ∧ t4.claimed = false ∧ t4.claims = t.claims ∧ t4.reads = t.reads ∧ t4.made = t.made ∧ t4.ops.length = 0 := by
  have hwt : ({ t with stopped := true } : St).wait.length < 68719476736 := by show t.wait.length < _; rw [hL.wait]; omega
  refine (sits_crash h hkv hwt (by omega)).mono ?_
  rintro e W' ⟨rfl, h1⟩
  obtain ⟨l, a1, a2, a3, a4⟩ := crash_all' hL hk
  exact ⟨rfl, _, h1, l, a1, a2, a3, a4, rfl⟩
theorem names_new (h : Sits w W d t ks) (hL : LiveT t 400 (-1) cur []) (hc : cur 1 = nought) (hcl : t.claims = 1) (hrm : Rm t 60) : Calls Try.prog 8 #[ptr d, .agg (layA 400 32 60)] W fun e W' => ∃ g t6, e = .returned (.tuple #[ptr g, .int .i64 0]) ∧ LogI w W' g d nz0 t6 cur ks ∧ LiveT t6 400 (-1) cur [] ∧ t6.claims = 2 ∧ t6.claimed = true ∧ Rm t6 50 := by
  have hc1 : curV t 1 = nought := by rw [hL.cur]; exact hc
  obtain ⟨T, E⟩ := tg_nought (b := 400) (l := 32) hc1 (by omega)
  refine (newL_ok h nFine (by rw [hL.n]; omega) hL.stop (hrm.le (by omega)) T E).mono ?_
  rintro e W' ⟨g, rfl, h1⟩
  obtain ⟨c1, c2, c3, c4, c5, c6, c7⟩ := hL.readS.claim
  have e2 : claimN t = 2 := by
    obtain ⟨_, _, _, q, _⟩ := hL.claim
    rw [q, hcl]
    rfl
  rw [e2, hL.cur] at h1
  refine ⟨g, _, rfl, h1, c1, by rw [c2]; show t.claims + 1 = 2; omega, c3, ?_⟩
  obtain ⟨m1, m2, m3, m4⟩ := hrm
  refine ⟨?_, ?_, ?_, ?_⟩
  · rw [c7]; show t.ops.length + 50 < _; omega
  · rw [c5]; show t.made + 50 < _; omega
  · rw [c6]; show t.reads + 1 + 50 < _; omega
  · rw [c2]; show t.claims + 1 + 50 < _; omega
theorem live2 (h1 : t.stopped = false) (h2 : t.claims = 2) (h3 : t.claimed = true) : claimedV t 2 = true := by unfold claimedV; rw [h1, h2, h3]; rfl
theorem ref2 {o : Bool} (h : claimedV t 2 = true) (hc : x.claim = 2) (ho : x.opn = o) : refL x t o = 0 := by unfold refL; rw [hc, if_pos h, if_pos ho]
theorem names_sync2 (h : LogI w W g d nz4 t book ks) (hL : LiveT t 400 4 cur []) (hcl : t.claims = 2) (hcd : t.claimed = true) (hrm : Rm t 16) (h1 : book 50 = blkF 5) (h2 : book 51 = blkF 6) : Calls Try.prog 25 #[ptr g] W fun e W' => e = .returned (.int .i64 3) ∧ ∃ tB, Sits w W' d { tB with stopped := true } ks ∧ LiveT tB 400 0 (fun j => if 1 = j then H.headF [50, 51] else if 3 = j then blkF 6 else if 2 = j then blkF 5 else cur j) [(1, H.headF [50, 51])] ∧ tB.claims = 2 ∧ tB.reads = t.reads ∧ tB.made ≤ t.made + 4 := by
  have hr : refL nz4 t false = 0 := ref2 (live2 hL.stop hcl hcd) rfl rfl
  refine (h.sync hr (by decide) (hrm.le (by decide)) (by decide)).mono ?_
  rintro e W' hp
  obtain ⟨e1, tB, r, l, n1, n2, n3, n4⟩ := names_head hp nz4_blocks hL (by rw [h1]; exact blkF_can (by omega)) (by rw [h2]; exact blkF_can (by omega))
  obtain ⟨_, ⟨x', s', hs, hx⟩, _⟩ := hp
  rw [r] at hs
  obtain ⟨c, mb, v, hs2⟩ := hs.toSits
  rw [h1, h2] at l
  exact ⟨e1, tB, hs2.drop fun p hp => List.mem_cons_of_mem _ hp, l, n1.trans hcl, n2, n3⟩
theorem names_tg (hL : LiveT t 400 (-1) cur []) (hc : cur 1 = H.headF [50, 51]) : tgT 400 32 t = [50, 51] ∧ tgE 400 32 t = 0 :=
  tg_head (by rw [hL.cur]; exact hc) (by omega) (by decide) (by omega)
theorem names_inval (h : Sits w W d t ks) (hL : LiveT t 400 (-1) cur []) (hc : cur 1 = H.headF [50, 51]) (hrm : Rm t 30) : Calls Try.prog 8 #[ptr d, .agg (layA 400 32 60)] W fun e W' => e = .returned (.tuple #[.pointer none, .int .i64 4]) ∧ Sits w W' d (readS t) ks ∧ LiveT (readS t) 400 (-1) cur [] ∧ Rm (readS t) 29 := by
  obtain ⟨T, E⟩ := names_tg hL hc
  refine (newL_some h nFine (by rw [hL.n]; omega) hL.stop (hrm.le (by omega)) (by rw [T]; decide) E (by rw [T]; decide)).mono ?_
  rintro e W' ⟨rfl, h1⟩
  exact ⟨rfl, h1, hL.readS, hrm.readS⟩
theorem names_recov (h : Sits w W d t ks) (hL : LiveT t 400 (-1) cur []) (hc : cur 1 = H.headF [50, 51]) (h3 : cur 3 = blkF 6) (hrm : Rm t 29) : Calls Try.prog 10 #[ptr d, .agg (layA 400 32 60)] W fun e W' => e = .returned (.tuple #[.int .i64 2, .int .i64 0]) ∧ ∃ t9, Sits w W' d t9 ks ∧ t9.stopped = false ∧ t9.n = 400 ∧ curV t9 51 = blkF 6 ∧ Room t9 := by
  obtain ⟨T, E⟩ := names_tg hL hc
  have hT : (tgT 400 32 t).length = 2 := by rw [T]; rfl
  refine (recover_some h nFine (by rw [hL.n]; omega) hL.stop (by rw [T]; decide) E (by rw [hT]; omega) (by rw [hT]; exact hrm.le (by omega))).mono ?_
  rintro e W' ⟨rfl, h1⟩
  rw [T] at h1 ⊢
  obtain ⟨r1, r2⟩ := names_rec hL.readS
  have hm := mv_nums [(2, 50), (3, 51)] (readS t)
  refine ⟨by rw [r1, if_pos rfl]; rfl, _, h1, r2.stop, r2.n, ?_, ?_⟩
  · rw [r2.cur]
    simp [h3]
  · have hrm2 : Rm (mV (mvs [50, 51] ([50, 51] : List Int).length) (readS t)) 20 := Rm.moves (hrm.readS.le (by rw [mvs_len]; decide))
    have hE : mE (mvs [50, 51] ([50, 51] : List Int).length) (readS t) = 0 := by
      by_cases q : mE (mvs [50, 51] ([50, 51] : List Int).length) (readS t) = 0
      · exact q
      · unfold rcE at r1
        rw [if_neg q] at r1
        exact r1
    have : rcV [50, 51] (readS t) = runV [none, some (1, nought), none] (mV (mvs [50, 51] ([50, 51] : List Int).length) (readS t)) := by unfold rcV; rw [if_pos hE]
    rw [this]
    exact Rm.room (n := 5) (Rm.run (hrm2.le (by decide)))
theorem names_read (h : Sits w W d t ks) (hs : t.stopped = false) (hn : t.n = 400) (hc : curV t 51 = blkF 6) (hr : Room t) : Calls Try.prog 34 #[ptr d, .int .i64 51] W fun e W' => e = .returned (.tuple #[.agg (blk (blkF 6)), .int .i64 0]) ∧ Sits w W' d (readS t) ks := by
  have href : refV t 51 = 0 := by unfold refV; rw [hs, if_neg (by simp), if_pos ⟨by omega, by rw [hn]; omega⟩]
  have q := sits_read h hr 51
  unfold readB readV at q
  rw [href, if_pos rfl, if_pos rfl, hc] at q
  exact q
end Go.Proofs.Ytahaiciciljijaa
