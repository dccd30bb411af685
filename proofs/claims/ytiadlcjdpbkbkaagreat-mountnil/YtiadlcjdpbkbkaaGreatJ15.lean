/- Several texts joined, each with its own remark; no condition. -/
import Derived.Test.YtiadlcjdpbkbkaaGreatJ12
import Derived.Test.YtiadlcjdpbkbkaaGreatJ14
/- Mount of a disk with the document's empty file system, whatever was in its log; what mkfs makes of a new disk of 400 blocks. -/
namespace Go.Proofs.YtiadlcjdpbkbkaaGreatD
open Go.RowKit Go.Maps
/-- What a disk holds on which the example's empty file system may be mounted, its log empty. -/
structure MoS (t : St) : Prop where
  n : t.n = 400
  live : t.stopped = false
  fu : t.fuse = -1
  sup : curV t 0 = Go.Proofs.YtiadlcjdpbkbkaaGreatP.superF 400 32 60
  hd : curV t 1 = nought
  sh : ∀ q : Nat, q ≤ 3 → curV t (33 + (q : Int)) = Go.Proofs.YtiadlcjdpbkbkaaGreat.coF 400 32 60 (33 + (q : Int))
  byt : ∀ k, Go.Proofs.YtiadlcjdpbkbkaaGreat.Byt (curV t k)
  rm : Rm t 2000
theorem MoS.read {t : St} (h : MoS t) (hr : Rm (readS t) 2000) : MoS (readS t) := ⟨h.n, h.live, h.fu, h.sup, h.hd, h.sh, h.byt, hr⟩
theorem fineH : H.Fine 400 32 60 := by decide
theorem head_nought : H.decL 33 400 31 nought = [] ∧ H.decN 33 400 31 nought = 0 := by
  constructor <;> decide +kernel
theorem MoS.head {t : St} (h : MoS t) : tgT 400 32 t = [] ∧ tgE 400 32 t = 0 := by
  unfold tgT tgE
  rw [h.hd]
  exact head_nought
theorem kd_co : ∀ j : Fin 61, 1 ≤ j.val → Go.Proofs.YtiadlcjdpbkbkaaGreatK.numN (Go.Proofs.YtiadlcjdpbkbkaaGreat.frB (Go.Proofs.YtiadlcjdpbkbkaaGreat.coF 400 32 60 (33 + ((j.val / 16 : Nat) : Int))) (j.val % 16 * 64)) 0 2 = 0 ∨ Go.Proofs.YtiadlcjdpbkbkaaGreatK.numN (Go.Proofs.YtiadlcjdpbkbkaaGreat.frB (Go.Proofs.YtiadlcjdpbkbkaaGreat.coF 400 32 60 (33 + ((j.val / 16 : Nat) : Int))) (j.val % 16 * 64)) 2 2 ≠ 0 := by decide +kernel
theorem MoS.no {t : St} (h : MoS t) : ∀ j, 1 ≤ j → j ≤ 60 → Go.Proofs.YtiadlcjdpbkbkaaGreat.kdP (curV t) j = 0 ∨ Go.Proofs.YtiadlcjdpbkbkaaGreat.lkP (curV t) j ≠ 0 := fun j h1 h2 => by
  unfold Go.Proofs.YtiadlcjdpbkbkaaGreat.kdP Go.Proofs.YtiadlcjdpbkbkaaGreat.lkP
  rw [h.sh (j / 16) (by omega)]
  exact kd_co ⟨j, by omega⟩ h1
/-- Behind Recover: the log, told as a log that lives. -/
theorem MoS.log {w W : World} {g d : Nat} {t : St} {ks : List (Nat × Obj)} (h : MoS t) (hL : LogI w W g d (newX 400 32 60 (claimN t)) (claimV (readS t)) (curV t) ks) : Go.Proofs.YtiadlcjdpbkbkaaGreat.RLog t.made w W g d (newX 400 32 60 (claimN t)) (curV t) 904 ks := by
  have hl := h.live
  obtain ⟨r1, r2, r3, r4⟩ := h.rm
  have hc : claimV (readS t) = { readS t with claims := t.claims + 1, claimed := true } := by unfold claimV; rw [if_neg (by rw [show (readS t).stopped = false from hl]; simp)]; rfl
  refine ⟨_, hL, ⟨?_, ?_, ?_, ?_, ?_⟩, ?_⟩
  · show claimedV (claimV (readS t)) (claimN t) = true
    rw [hc]
    unfold claimedV claimN
    rw [hl, show (readS t).stopped = false from hl]
    simp
  · rw [hc]; rfl
  · rw [hc]; rfl
  · rw [hc]; exact h.n
  · rw [hc]; exact h.fu
  · rw [hc]
    refine ⟨?_, ?_, ?_, ?_⟩
    · show t.ops.length + (904 + 1) < _; omega
    · show t.made + ((904 + 1 : Nat) : Int) < _; omega
    · show t.reads + 1 + ((904 + 1 : Nat) : Int) < _; omega
    · show t.claims + 1 + ((904 + 1 : Nat) : Int) < _; omega
theorem layA_nine : (layA 400 32 60).size = lay0R.size := rfl
/-- Mounted: whatever Recover finds to do, if the log is empty behind it. -/
theorem mount_any {w W : World} {d : Nat} {t t1 : St} {ks : List (Nat × Obj)} (h : Sits w W d t ks) (hn : t.n = 400) (hs : t.stopped = false) (hr : Room t) (h0 : curV t 0 = Go.Proofs.YtiadlcjdpbkbkaaGreatP.superF 400 32 60) (hm : MoS t1)
    (hRc : ∀ V ks', Sits w V d (readS t) ks' → Calls Tryz.prog 57 #[.pointer (some ⟨d, 0, none⟩), .agg (layA 400 32 60)] V fun e W' => (∃ k : Int, e = .returned (.tuple #[.int .i64 k, .int .i64 0])) ∧ Sits w W' d t1 ks') :
    Calls Tryz.prog 9 #[.pointer (some ⟨d, 0, none⟩)] W fun e W' => ∃ gv g gk bk, e = .returned (.tuple #[.pointer (some ⟨gv, 0, none⟩), .int .i64 0]) ∧ Go.Proofs.YtiadlcjdpbkbkaaGreat.VolAt t1.made w W' gv g gk bk d (newX 400 32 60 (claimN t1)) (curV t1) 900 [] ks := by
  refine Go.Proofs.YtiadlcjdpbkbkaaGreat.mount_gen (t0 := t) (t1 := readS t) (L := layA 400 32 60) h (layA_info _ _ _) (layA_one _ _ _) layA_nine (fun V ks' hV => found_ok hV fine_small (by omega) (by omega) hs hr h0) (fun V ks' hV => ?_) rfl rfl ⟨rfl, rfl, rfl⟩ hm.byt hm.no
  have hrm : Rm t1 3 := hm.rm.le (by omega)
  refine (recovered_gen hV fineH (by rw [hm.n]; omega) hm.live hrm hm.head.1 hm.head.2 hRc).mono ?_
  rintro e W' ⟨g, rfl, hL⟩
  exact ⟨g, rfl, hm.log hL⟩
/-- Mounted with nothing to recover. -/
theorem mount_fine {w W : World} {d : Nat} {t : St} {ks : List (Nat × Obj)} (h : Sits w W d t ks) (hm : MoS t) (hm2 : MoS (readS (readS t))) :
    Calls Tryz.prog 9 #[.pointer (some ⟨d, 0, none⟩)] W fun e W' => ∃ gv g gk bk, e = .returned (.tuple #[.pointer (some ⟨gv, 0, none⟩), .int .i64 0]) ∧ Go.Proofs.YtiadlcjdpbkbkaaGreat.VolAt t.made w W' gv g gk bk d (newX 400 32 60 (claimN t)) (curV t) 900 [] ks := by
  have hrm : Rm (readS t) 2 := (Rm.readS (n := 1999) hm.rm).le (by omega)
  exact mount_any (t1 := readS (readS t)) h hm.n hm.live (Rm.room (n := 1999) hm.rm) hm.sup hm2 fun V ks' hV => (recover_empty hV fineH (by show (400 : Int) ≤ t.n; rw [hm.n]; omega) hm.live hrm hm.head.1).mono fun e W' ⟨h1, h2⟩ => ⟨⟨0, by rw [h1]; exact congrArg (fun x => Ending.returned (.tuple #[.int .i64 0, .int .i64 x])) hm.head.2⟩, h2⟩
/-- What mkfs makes of a new disk. -/
def tE : St := mkV 400 32 60 (newV 400)
theorem tE_facts : mkE 400 32 60 (newV 400) = 0 ∧ tE.made = 12 ∧ tE.n = 400 ∧ tE.stopped = false ∧ tE.reads = 0 ∧ tE.claims = 1 ∧ tE.ops.length = 12 ∧ tE.fuse = -1 := by
  obtain ⟨q1, q2, q3, q4, q5, q6, q7, q8⟩ := mk_done (s := newV 400) fine_small (by show (400 : Int) ≤ 400; omega) rfl (.inl rfl)
  rw [mkN_small] at q3
  refine ⟨q1, q3, q4, q5, q6, q7, ?_, q8⟩
  show (mkV 400 32 60 (newV 400)).ops.length = 12
  rw [q2, allV_ops, mkL_len, mkN_small]
  rfl
theorem tE_get (k : Int) : curV tE k = if k = 0 then Go.Proofs.YtiadlcjdpbkbkaaGreatP.superF 400 32 60 else lastV nought (mkBs 400 32 60) k := by
  obtain ⟨_, q2, _⟩ := mk_done (s := newV 400) fine_small (by show (400 : Int) ≤ 400; omega) rfl (.inl rfl)
  obtain ⟨g1, g2⟩ := mk_get (b := 400) (l := 32) (i := 60) fine_small (claimV (newV 400)) rfl
  have hE : tE = allV (claimV (newV 400)) (mkL 400 32 60 0) := q2
  have h2 := g2 k
  rw [← hE] at g1 h2
  rw [curV_last, g1]
  exact h2
theorem dataAt_small : Go.Proofs.YtiadlcjdpbkbkaaGreatP.dataAt 400 32 60 = 38 := by
  unfold Go.Proofs.YtiadlcjdpbkbkaaGreatP.dataAt Go.Proofs.YtiadlcjdpbkbkaaGreatP.bitsAt Go.Proofs.YtiadlcjdpbkbkaaGreatP.nodeB Go.Proofs.YtiadlcjdpbkbkaaGreatP.bitsB
  decide
theorem lastV_can {k : Int} : ∀ (l : List Cel) (x : Nat → Int), Can x → (∀ c ∈ l, Can c.2) → Can (lastV x l k)
  | [], x, hx, _ => hx
  | c :: t, x, hx, hl => by
    show Can (lastV (if c.1 = k then c.2 else x) t k)
    exact lastV_can t _ (by split; exact hl c (List.mem_cons_self ..); exact hx) fun d hd => hl d (List.mem_cons_of_mem _ hd)
theorem tE_can (k : Int) : Can (curV tE k) := by
  rw [tE_get]
  split
  · exact can_super _ _ _
  · exact lastV_can _ _ can_nought fun c hc => (mkBs_pos fine_small c hc).2
theorem tE_mos : MoS tE := by
  obtain ⟨_, h1, h2, h3, h4, h5, h6, h7⟩ := tE_facts
  refine ⟨h2, h3, h7, (tE_get 0).trans (if_pos rfl), ?_, fun q hq => ?_, fun k => (tE_can k).1, ?_⟩
  · rw [tE_get, if_neg (by omega)]
    unfold mkBs
    show lastV (if (1 : Int) = 1 then nought else _) ((List.range (mkN 400 32 60)).map fun (q : Nat) => ((1 + 32 + (q : Int), Go.Proofs.YtiadlcjdpbkbkaaGreat.coF 400 32 60 (1 + 32 + (q : Int))) : Cel)) 1 = _
    rw [if_pos rfl]
    refine lastV_none _ _ fun c hc => ?_
    obtain ⟨q, _, rfl⟩ := List.mem_map.1 hc
    show (1 : Int) + 32 + (q : Int) ≠ 1
    omega
  · rw [tE_get, if_neg (by omega)]
    exact lastV_co fine_small (by rw [dataAt_small]; omega) _
  · exact ⟨by rw [h6]; omega, by rw [h1]; omega, by rw [h4]; omega, by rw [h5]; omega⟩
end Go.Proofs.YtiadlcjdpbkbkaaGreatD
/- The law's own helpers: a disk with the document's empty file system; it is mounted, and nothing is written by that. -/
namespace Go.Proofs.YtiadlcjdpbkbkaaGreatD
open Go.RowKit Go.Maps
variable {w W W' : World} {g d n : Nat} {t : St} {ks : List (Nat × Obj)}
theorem Sits.has (h : Sits w W d t ks) : Has (SoP w ks) W d t := by
  obtain ⟨L, hd, h⟩ := h
  exact ⟨L, hd, h.disk, h.new, h.below, h.keep⟩
theorem Has.sits (h : Has (SoP w ks) W d t) : Sits w W d t ks := by
  obtain ⟨L, hd, h, hp⟩ := h
  exact ⟨L, hd, h, hp.new, hp.below, hp.keep⟩
theorem geV (b l i : Int) : Go.Proofs.YtiadlcjdpbkbkaaGreatP.geoV b l i = .agg (Go.Proofs.YtiadlcjdpbkbkaaGreat.geoRow b l i) := rfl
/-- The example's file system is made of a new disk. -/
theorem makes_ok (h : Sits w W d (newV 400) ks) : Calls Tryz.prog 25 #[.pointer (some ⟨d, 0, none⟩), .agg (Go.Proofs.YtiadlcjdpbkbkaaGreat.geoRow 400 32 60)] W fun e W' => e = .returned (.int .i64 0) ∧ Sits w W' d tE ks := by
  have hm := make_ok (soP_stays w ks) h.has 400 32 60 (by unfold Go.Proofs.YtiadlcjdpbkbkaaGreatP.I64; omega) (wide_new 400) (by show (0 : Int) < _; omega)
  refine hm.mono ?_
  rintro e W' ⟨rfl, h1⟩
  exact ⟨by rw [tE_facts.1], h1.sits⟩
theorem tE_rm : Rm tE 10000 := by
  obtain ⟨_, h1, h2, h3, h4, h5, h6, h7⟩ := tE_facts
  exact ⟨by rw [h6]; omega, by rw [h1]; omega, by rw [h4]; omega, by rw [h5]; omega⟩
theorem tE_mos2 : MoS (readS (readS tE)) := by
  have r1 : Rm (readS tE) 9999 := tE_rm.readS
  have r2 : Rm (readS (readS tE)) 9998 := r1.readS
  exact (tE_mos.read (r1.le (by omega))).read (r2.le (by omega))
theorem sits_made2 (h : Sits w W d t ks) : Calls Tryz.prog 12 #[.pointer (some ⟨d, 0, none⟩)] W fun e W' => e = .returned (.int .i64 t.made) ∧ W' = W := by
  obtain ⟨L, rfl, hS⟩ := h
  exact made_of hS.disk
set_option maxRecDepth 20000 in
set_option maxHeartbeats 1600000 in
/-- empty, beside rows that are there. -/
theorem empty_ok (hB : Below w.heap.size w W) (hk : ∀ p ∈ ks, W.heap[p.1]? = some p.2) :
    Calls Tryz.prog 6 #[] W fun e W' => ∃ d, e = .returned (.tuple #[.pointer (some ⟨d, 0, none⟩), .bool true]) ∧ Sits w W' d tE ks := by
  have hnw := sits_new (n := 400) (by decide) hB hk
  have HMk : Hid (∀ V d, Sits w V d (newV 400) ks → Calls Tryz.prog 25 #[.pointer (some ⟨d, 0, none⟩), .agg (Go.Proofs.YtiadlcjdpbkbkaaGreat.geoRow 400 32 60)] V fun e W' => e = .returned (.int .i64 0) ∧ Sits w W' d tE ks) := fun V d hV => makes_ok hV
  clear hB hk
  go_enter Tryz.func6, Tryz.ntmps6
  go_wp2_with (go_at_call 7; fail)
  refine hnw.mono ?_
  rintro e W1 ⟨d, rfl, h1⟩
  have hmk := HMk.out W1 d h1
  clear hnw h1 HMk
  go_wp2_with (go_at_call 25; fail)
  refine hmk.mono ?_
  rintro e W2 ⟨rfl, h2⟩
  have HS := Hid.mk' h2
  clear hmk h2
  go_wp2
  go_ret2
  exact ⟨d, rfl, HS.out⟩
end Go.Proofs.YtiadlcjdpbkbkaaGreatD
namespace Go.Proofs.YtiadlcjdpbkbkaaGreat
open Go.RowKit Go.Maps
section
variable {M : Int} {w W W' : World} {gv g gk bk d n : Nat} {x x1 : Go.Proofs.YtiadlcjdpbkbkaaGreatD.LSt} {book : Int → Nat → Int} {L : List (Int × Int)} {ks ks' : List (Nat × Obj)}
/-- The disk below a log that lives. -/
theorem RLog.disk (h : RLog M w W g d x book n ks) : ∃ t, Go.Proofs.YtiadlcjdpbkbkaaGreatD.Sits w W d t ks ∧ t.made = M ∧ t.stopped = false ∧ Go.Proofs.YtiadlcjdpbkbkaaGreatD.curV t = book ∧ t.n = 400 ∧ t.fuse = -1 ∧ Go.Proofs.YtiadlcjdpbkbkaaGreatD.Rm t (n + 1) := by
  obtain ⟨t, ⟨s, hs, hI⟩, ⟨h1, h2, h3, h4, h5⟩, h6⟩ := h
  obtain ⟨c, mb, v, hS⟩ := hs.toSits
  refine ⟨t, hS.drop fun p hp => List.mem_cons_of_mem _ hp, h2, ?_, h3, h4, h5, h6⟩
  unfold Go.Proofs.YtiadlcjdpbkbkaaGreatD.claimedV at h1
  cases hq : t.stopped
  · rfl
  · rw [hq] at h1; simp at h1
theorem RLog.dmade (h : RLog M w W g d x book n ks) : Calls Tryz.prog 12 #[.pointer (some ⟨d, 0, none⟩)] W fun e W' => e = .returned (.int .i64 M) ∧ W' = W := by
  obtain ⟨t, hS, h1, _⟩ := h.disk
  rw [← h1]
  exact Go.Proofs.YtiadlcjdpbkbkaaGreatD.sits_made2 hS
theorem VolAt.dmade (h : VolAt M w W gv g gk bk d x book n L ks) : Calls Tryz.prog 12 #[.pointer (some ⟨d, 0, none⟩)] W fun e W' => e = .returned (.int .i64 M) ∧ W' = W := by
  obtain ⟨oK, oB, h, _⟩ := h
  exact h.dmade
theorem VolAt.disk (h : VolAt M w W gv g gk bk d x book n L ks) : ∃ t, Go.Proofs.YtiadlcjdpbkbkaaGreatD.Sits w W d t ks ∧ t.made = M ∧ t.stopped = false ∧ Go.Proofs.YtiadlcjdpbkbkaaGreatD.curV t = book ∧ t.n = 400 ∧ t.fuse = -1 ∧ Go.Proofs.YtiadlcjdpbkbkaaGreatD.Rm t (n + 1) := by
  obtain ⟨oK, oB, h, _⟩ := h
  obtain ⟨t, hS, h⟩ := h.disk
  exact ⟨t, hS.drop fun p hp => List.mem_cons_of_mem _ (List.mem_cons_of_mem _ (List.mem_cons_of_mem _ hp)), h⟩
end
set_option maxRecDepth 20000 in
set_option maxHeartbeats 3200000 in
/-- awake: true, and it turns nothing that was there. -/
theorem awake_ok (W : World) : Calls Tryz.prog 8 #[] W fun e W' => e = .returned (.bool true) ∧ Below W.heap.size W W' := by
  have hem := Go.Proofs.YtiadlcjdpbkbkaaGreatD.empty_ok (w := W) (W := W) (ks := []) (Below.refl _ _) (fun p hp => by cases hp)
  have HMd : Hid (∀ V d, Go.Proofs.YtiadlcjdpbkbkaaGreatD.Sits W V d Go.Proofs.YtiadlcjdpbkbkaaGreatD.tE [] → Calls Tryz.prog 12 #[.pointer (some ⟨d, 0, none⟩)] V fun e W' => e = .returned (.int .i64 12) ∧ W' = V) := fun V d hV => by
    have := Go.Proofs.YtiadlcjdpbkbkaaGreatD.sits_made2 hV
    rwa [Go.Proofs.YtiadlcjdpbkbkaaGreatD.tE_facts.2.1] at this
  have HMt : Hid (∀ V d, Go.Proofs.YtiadlcjdpbkbkaaGreatD.Sits W V d Go.Proofs.YtiadlcjdpbkbkaaGreatD.tE [] → Calls Tryz.prog 9 #[.pointer (some ⟨d, 0, none⟩)] V fun e W' => ∃ gv g gk bk x book, e = .returned (.tuple #[.pointer (some ⟨gv, 0, none⟩), .int .i64 0]) ∧ VolAt 12 W W' gv g gk bk d x book 900 [] [] ∧ x.opn = false ∧ x.blocks = []) := fun V d hV => by
    have hm := Go.Proofs.YtiadlcjdpbkbkaaGreatD.tE_mos
    have hr := Go.Proofs.YtiadlcjdpbkbkaaGreatD.tE_mos2
    refine (Go.Proofs.YtiadlcjdpbkbkaaGreatD.mount_fine hV hm hr).mono ?_
    rintro e W' ⟨gv, g, gk, bk, rfl, hv⟩
    rw [Go.Proofs.YtiadlcjdpbkbkaaGreatD.tE_facts.2.1] at hv
    exact ⟨gv, g, gk, bk, _, _, rfl, hv, rfl, rfl⟩
  go_enter Tryz.func8, Tryz.ntmps8
  go_wp2_with (go_at_call 6; fail)
  refine hem.mono ?_
  rintro e W1 ⟨d, rfl, h1⟩
  have hmd := HMd.out _ _ h1
  have H1 := Hid.mk' h1
  clear hem h1 HMd
  go_wp2_with (go_at_call 12; fail)
  refine hmd.mono ?_
  rintro e W2 ⟨rfl, rfl⟩
  have hmt := HMt.out _ _ H1.out
  clear hmd HMt H1
  go_wp2_with (go_at_call 9; fail)
  refine hmt.mono ?_
  rintro e W3 ⟨gv, g, gk, bk, x, book, rfl, hv, ho, hb⟩
  have hl := hv.vlog
  have hk := hv.vdesk
  have hd := hv.dmade
  have hs := hv.vsync ho hb
  clear hmt hv ho hb
  go_wp2_with (first | (go_at_call 13; refine hl.mono ?_; rintro e V ⟨rfl, rfl⟩) | (go_at_call 14; refine hk.mono ?_; rintro e V ⟨rfl, rfl⟩) | (go_at_call 12; refine hd.mono ?_; rintro e V ⟨rfl, rfl⟩) | (go_at_call 17; fail))
  refine hs.mono ?_
  rintro e W4 ⟨rfl, h4⟩
  have HB := Hid.mk' h4.below
  clear hl hk hd hs h4
  go_wp2
  go_ret
  exact ⟨rfl, HB.out⟩
end Go.Proofs.YtiadlcjdpbkbkaaGreat
/- A disk of 400 blocks that lives and has no fuse, told by what it holds: what a write, a barrier, a recovery of one block make of it. -/
namespace Go.Proofs.YtiadlcjdpbkbkaaGreatD
open Go.RowKit Go.Maps
structure Li (M : Int) (bk : Int → Nat → Int) (r : Nat) (t : St) : Prop where
  n : t.n = 400
  live : t.stopped = false
  fu : t.fuse = -1
  made : t.made = M
  cur : ∀ k, curV t k = bk k
  rm : Rm t r
  ok : Ok t
variable {M : Int} {bk : Int → Nat → Int} {r : Nat} {t : St} {w W : World} {d : Nat} {ks : List (Nat × Obj)}
theorem holdAll_ok : ∀ (l : List Cel) (s : St), Ok s → (∀ c ∈ l, (0 ≤ c.1 ∧ c.1 < s.n) ∧ Can c.2) → Ok (holdAll s l)
  | [], s, h, _ => h
  | c :: l, s, h, hl => by
    obtain ⟨h1, h2⟩ := hl c (List.mem_cons_self ..)
    exact holdAll_ok l (holdV s c.1 c.2) (holdV_ok h h1 h2) fun e he => hl e (List.mem_cons_of_mem _ he)
theorem barS_ok2 (h : Ok t) : Ok (barS t) := barS_ok (holdAll_ok _ _ (letV_ok h) fun c hc => by rw [letV_n]; exact h.wait c hc)
theorem Li.ref (h : Li M bk r t) {k : Int} (hk : 0 ≤ k ∧ k < 400) : refV t k = 0 := by
  unfold refV
  rw [h.live, if_neg (by simp), if_pos ⟨hk.1, by rw [h.n]; exact hk.2⟩]
theorem Li.lets (h : Li M bk r t) : lets t = true := by unfold Go.Proofs.YtiadlcjdpbkbkaaGreatD.lets; rw [h.fu]; rfl
theorem Li.room (h : Li M bk (r + 1) t) : Room t := Rm.room h.rm
theorem Li.le {q : Nat} (h : Li M bk r t) (hq : q ≤ r) : Li M bk q t := ⟨h.n, h.live, h.fu, h.made, h.cur, h.rm.le hq, h.ok⟩
theorem Li.as {bk2 : Int → Nat → Int} (h : Li M bk r t) (hq : ∀ k, bk k = bk2 k) : Li M bk2 r t := ⟨h.n, h.live, h.fu, h.made, fun k => (h.cur k).trans (hq k), h.rm, h.ok⟩
theorem let_live (hf : t.fuse = -1) : letV t = { t with fuse := -1, made := t.made + 1 } := by
  unfold letV
  rw [hf, if_neg (by omega), if_pos rfl]
theorem Li.write (h : Li M bk (r + 1) t) {k : Int} (hk : 0 ≤ k ∧ k < 400) {f : Nat → Int} (hf : Can f) : writeE t k = 0 ∧ Li (M + 1) (fun j => if k = j then f else bk j) r (writeV t k f) := by
  have hr := h.ref hk
  have hl := h.lets
  have hv : writeV t k f = writeS t k f := by unfold writeV; rw [if_pos hr, if_pos hl]
  refine ⟨by unfold writeE; rw [if_pos hr, if_pos hl], ?_⟩
  have e1 := let_live h.fu
  refine ⟨?_, ?_, ?_, ?_, fun j => ?_, Rm.dop (o := some (k, f)) h.rm, ?_⟩
  · rw [hv]; show (letV t).n = 400; rw [letV_n]; exact h.n
  · rw [hv]; show (letV t).stopped = false; rw [e1]; exact h.live
  · rw [hv]; show (letV t).fuse = -1; rw [e1]
  · rw [hv]; show (letV t).made = M + 1; rw [e1, ← h.made]
  · rw [cur_write hl hr, h.cur]
  · rw [hv]; exact writeS_ok h.ok ⟨hk.1, by rw [h.n]; exact hk.2⟩ hf
theorem Li.bar (h : Li M bk (r + 1) t) : barE t = 0 ∧ Li (M + 1) bk r (barV t) := by
  have hl := h.lets
  have hv : barV t = barS t := by unfold barV; rw [h.live, hl]; rfl
  refine ⟨by unfold barE; rw [h.live, hl]; rfl, ?_⟩
  have e1 := let_live h.fu
  have hb := barS_nums t
  refine ⟨?_, ?_, ?_, ?_, fun j => ?_, Rm.dop (o := none) h.rm, ?_⟩
  · rw [hv, hb.2.2.2.2.1]; exact h.n
  · rw [hv, hb.2.2.2.2.2.1, e1]; exact h.live
  · rw [hv, hb.2.2.2.2.2.2, e1]
  · rw [hv, hb.1, e1, ← h.made]
  · rw [hv, cur_bar h.ok, h.cur]
  · rw [hv]; exact barS_ok2 h.ok
theorem Li.read (h : Li M bk (r + 1) t) : Li M bk r (readS t) := ⟨h.n, h.live, h.fu, h.made, h.cur, Go.Proofs.YtiadlcjdpbkbkaaGreat.rm_read h.rm, readS_ok h.ok⟩
/-- Recovered: the one block that the header names stands in its place, the header is noughts. -/
theorem Li.recover (h : Li M bk (r + 6) t) {y : Int} (hy : 0 ≤ y ∧ y < 400) (hc : ∀ k, Can (bk k)) :
    rcE [y] t = 0 ∧ Li (M + 4) (fun k => if k = 1 then nought else if k = y then bk 2 else bk k) r (rcV [y] t) := by
  have h2 := h.ref (k := 2) (by omega)
  have hc2 : curV t 2 = bk 2 := h.cur 2
  obtain ⟨w1, w2⟩ := (h.read (r := r + 5)).write (r := r + 4) hy (hc 2)
  have m1 : moE t (2, y) = 0 := by unfold moE; rw [if_pos h2]; exact w1
  have m2 : moV t (2, y) = writeV (readS t) y (bk 2) := by unfold moV; rw [if_pos h2, hc2]
  have v1 : mvs [y] [y].length = [(2, y)] := rfl
  have q1 : mE (mvs [y] [y].length) t = 0 := by rw [v1]; show (if moE t (2, y) = 0 then 0 else moE t (2, y)) = 0; rw [m1]; rfl
  have q2 : mV (mvs [y] [y].length) t = writeV (readS t) y (bk 2) := by rw [v1]; show (if moE t (2, y) = 0 then moV t (2, y) else moV t (2, y)) = _; rw [m1, if_pos rfl, m2]
  obtain ⟨b1, b2⟩ := w2.bar (r := r + 3)
  obtain ⟨x1, x2⟩ := b2.write (r := r + 2) (k := 1) (by omega) can_nought
  obtain ⟨y1, y2⟩ := x2.bar (r := r + 1)
  generalize writeV (readS t) y (bk 2) = t1 at *
  have d1 : dopE t1 none = 0 := b1
  have d2 : dopV t1 none = barV t1 := rfl
  have d3 : dopE (barV t1) (some (1, nought)) = 0 := x1
  have d4 : dopV (barV t1) (some (1, nought)) = writeV (barV t1) 1 nought := rfl
  have d5 : dopE (writeV (barV t1) 1 nought) none = 0 := y1
  have d6 : dopV (writeV (barV t1) 1 nought) none = barV (writeV (barV t1) 1 nought) := rfl
  have e1 : runE [none, some (1, nought), none] t1 = 0 := by
    show (if dopE t1 none = 0 then (if dopE (dopV t1 none) (some (1, nought)) = 0 then (if dopE (dopV (dopV t1 none) (some (1, nought))) none = 0 then 0 else _) else _) else _) = (0 : Int)
    rw [d1, if_pos rfl, d2, d3, if_pos rfl, d4, d5, if_pos rfl]
  have e2 : runV [none, some (1, nought), none] t1 = barV (writeV (barV t1) 1 nought) := by
    show (if dopE t1 none = 0 then (if dopE (dopV t1 none) (some (1, nought)) = 0 then (if dopE (dopV (dopV t1 none) (some (1, nought))) none = 0 then dopV (dopV (dopV t1 none) (some (1, nought))) none else _) else _) else _) = _
    rw [d1, if_pos rfl, d2, d3, if_pos rfl, d4, d5, if_pos rfl, d6]
  refine ⟨by unfold rcE; rw [if_pos q1, q2, e1], ?_⟩
  have hV : rcV [y] t = barV (writeV (barV t1) 1 nought) := by unfold rcV; rw [if_pos q1, q2, e2]
  rw [hV]
  have z := (y2.le (q := r) (by omega)).as (bk2 := fun k => if k = 1 then nought else if k = y then bk 2 else bk k) fun k => by
    by_cases e : k = 1
    · rw [if_pos e, if_pos e.symm]
    · rw [if_neg e, if_neg fun q => e q.symm]
      by_cases e2 : k = y
      · rw [if_pos e2, if_pos e2.symm]
      · rw [if_neg e2, if_neg fun q => e2 q.symm]
  rw [show M + 4 = M + 1 + 1 + 1 + 1 by omega]
  exact z
theorem tE_li (ok : Ok tE) : Li 12 (curV tE) 10000 tE := by
  obtain ⟨_, h1, h2, h3, h4, h5, h6, h7⟩ := tE_facts
  exact ⟨h2, h3, h7, h1, fun _ => rfl, tE_rm, ok⟩
end Go.Proofs.YtiadlcjdpbkbkaaGreatD
/- What is no disk and no volume: Mount of it; MountNil's walk. -/
namespace Go.Proofs.YtiadlcjdpbkbkaaGreatD
open Go.RowKit Go.Maps
set_option maxRecDepth 20000 in
theorem dread_none {w : World} {v : Value} (h : NoneAt w v) (k : Int) : Calls Tryz.prog 24 #[v, .int .i64 k] w fun e w' => e = .returned (.tuple #[.agg (blk nought), .int .i64 1]) ∧ Below w.heap.size w w' := by
  have hR := refuses_none (h.later (below_new w (.cells (blk nought) 47))) k
  have hbd := built58
  have z25 := zero25
  clear h
  generalize nought = N at *
  go_enter Tryz.func24, Tryz.ntmps24
  go_wp2_with (first | (go_at_call 49; refine hR.mono ?_; rintro e W ⟨rfl, rfl⟩) | refine wpList_build58 rfl rfl hbd ?_ | refine wpList_store25_new rfl _ _ rfl _ _ rfl rfl ?_)
  exact retBT rfl w.heap.size _ rfl (heap_alloc_new _ _) rfl ⟨rfl, below_new _ _⟩
theorem build0Ly (u : World) : (Instr.build 43 #[]).run Tryz.prog u = .ok (.agg lay0R) u := by
  have z := zeroLyR
  generalize lay0R = Z at *
  simp [Instr.build, z, run_underlying Tryz.underlying43, Instr.fill, Value.cells, go_sem]
theorem exec_build0Ly {o : Oper} {a : Act} {W : World} (ho : o.op = .build 43 #[]) : (execOp a.eval o).run Tryz.prog W = .ok (.value (.agg lay0R)) W := by
  have e := build0Ly W
  generalize lay0R = Z at *
  simp [execOp, ho, e]
theorem lay0R_info : (Tryz.prog.info? 43).map (·.size) = some lay0R.size := by show _ = some 9; kernel_rfl
theorem lay0R_one : lay0R.all (·.oneCell') = true := by simp [lay0R, Value.oneCell']
set_option maxRecDepth 20000 in
set_option maxHeartbeats 1600000 in
theorem found_none {w : World} {v : Value} (h : NoneAt w v) : Calls Tryz.prog 27 #[v] w fun e w' => e = .returned (.tuple #[.agg lay0R, .int .i64 1]) ∧ Below w.heap.size w w' := by
  have zl := zeroLyR
  have z25 := zero25
  have hb0 := below_new w (.cells lay0R 43)
  have hrd := dread_none (h.later hb0) 0
  have HB0 := Hid.mk' hb0
  have HR0 := Hid.mk' (heap_alloc_new w (.cells lay0R 43))
  have HI := Hid.mk' lay0R_info
  have HO := Hid.mk' lay0R_one
  have HE : Hid (∀ {o : Oper} {a : Act} {W : World}, o.op = .build 43 #[] → (execOp a.eval o).run Tryz.prog W = .ok (.value (.agg lay0R)) W) := fun ho => exec_build0Ly ho
  clear h hb0
  generalize lay0R = L at *
  generalize nought = N at *
  go_enter Tryz.func27, Tryz.ntmps27
  go_wp2_with (go_at_call 24; fail)
  refine hrd.mono ?_
  rintro e W1 ⟨rfl, h1⟩
  have hb1 := below_next h1 (below_new W1 (.cells (blk N) 47))
  have hrow := heap_kept HR0.out hb1
  have HB1 := Hid.mk' (below_next HB0.out hb1)
  clear hrd h1 hb1 HR0 HB0
  have HBl : Hid (Below w.heap.size w ((W1.alloc (.cells (blk N) 47)).setRow w.heap.size L)) := HB1.out.trans ((Fr.setRow _ w.heap.size L).below (fun i hi => by omega) HB1.out.size)
  go_wp2_with (first | refine wpList_store25_new rfl _ _ rfl _ _ rfl rfl ?_ | (with_reducible refine YtiadlcjdpbkbkaaGreat.isBuildR 43 ?_; refine YtiadlcjdpbkbkaaGreat.wpList_ex rfl (HE.out rfl) ?_) | (with_reducible refine YtiadlcjdpbkbkaaGreat.isStoreR 43 ?_; refine YtiadlcjdpbkbkaaGreat.wpList_stR 43 rfl _ _ rfl w.heap.size L L 43 HI.out rfl HO.out rfl rfl hrow ?_))
  exact Go.Proofs.YtiadlcjdpbkbkaaGreat.retCT Tryz.underlying43 rfl rfl w.heap.size L 43 HI.out rfl (setRow_heap _ _ _ _ _ _ hrow) rfl ⟨rfl, HBl.out⟩
set_option maxRecDepth 20000 in
set_option maxHeartbeats 1600000 in
theorem mount_none {w : World} {v : Value} (h : NoneAt w v) : Calls Tryz.prog 9 #[v] w fun e w' => e = .returned (.tuple #[.pointer none, .int .i64 1]) ∧ Below w.heap.size w w' := by
  have zl := zeroLyR
  have hfd := found_none h
  have HI := Hid.mk' lay0R_info
  have HO := Hid.mk' lay0R_one
  clear h
  generalize lay0R = L at *
  go_enter Tryz.func9, Tryz.ntmps9
  go_wp2_with (go_at_call 27; fail)
  refine hfd.mono ?_
  rintro e W1 ⟨rfl, h1⟩
  have HB := Hid.mk' (below_next h1 (below_new W1 (.cells L 43)))
  clear hfd h1
  go_wp2_with (first | (with_reducible refine YtiadlcjdpbkbkaaGreat.isStoreR 43 ?_; refine YtiadlcjdpbkbkaaGreat.wpList_stNew 43 rfl _ _ rfl W1.heap.size L L 43 HI.out rfl HO.out rfl rfl rfl ?_))
  go_ret2
  exact ⟨rfl, HB.out⟩
end Go.Proofs.YtiadlcjdpbkbkaaGreatD
namespace Go.Proofs.YtiadlcjdpbkbkaaGreat
open Go.RowKit Go.Maps
def diZ : Array Value := #[.pointer none, .int .i64 0, .map none, .slice none 0 0, .int .i64 0, .map none, .int .i64 0, .bool false, .int .i64 0, .int .i64 0, .int .i64 0, .bool false]
theorem zeroDi : ∀ w, (zeroValue 59).run Tryz.prog w = .ok (.agg diZ) w := (zero_of_info (show (Tryz.prog.info? 59).map (fun i => (i.zero, i.size)) = some (some (.agg diZ), 12) by kernel_rfl)).1
def voZ : Array Value := #[.pointer none, .pointer none, .pointer none]
theorem zeroVo : ∀ w, (zeroValue 61).run Tryz.prog w = .ok (.agg voZ) w := (zero_of_info (show (Tryz.prog.info? 61).map (fun i => (i.zero, i.size)) = some (some (.agg voZ), 3) by kernel_rfl)).1
theorem NoVol.later {w w' : World} {v : Value} (h : NoVol w v) (hb : Below w.heap.size w w') : NoVol w' v := by
  rcases h with h | ⟨g, h1, h2⟩
  · exact .inl h
  · exact .inr ⟨g, h1, (hb.cell (p := ⟨g, 0, none⟩) (World.block_lt_of_cell? w _ h2)).trans h2⟩
set_option maxRecDepth 20000 in
set_option maxHeartbeats 4000000 in
theorem law_nil (w : World) : Calls Tryz.prog 5 #[] w fun e w' => e = .returned (.bool true) ∧ Below w.heap.size w w' := by
  have zd := zeroDi
  have zv := zeroVo
  have hD0 : diZ[0]? = some (.pointer none) := rfl
  have hV0 : voZ[0]? = some (.pointer none) := rfl
  have HD0 := Hid.mk' hD0
  have HV0 := Hid.mk' hV0
  clear hD0 hV0
  generalize diZ = D at *
  generalize voZ = V at *
  have hm0 : ∀ U : World, Calls Tryz.prog 9 #[.pointer none] U fun e w' => e = .returned (.tuple #[.pointer none, .int .i64 1]) ∧ Below U.heap.size U w' := fun U => Go.Proofs.YtiadlcjdpbkbkaaGreatD.mount_none (.inl rfl)
  have HAw : Hid (∀ U : World, Calls Tryz.prog 8 #[] U fun e w' => e = .returned (.bool true) ∧ Below U.heap.size U w') := awake_ok
  have HM1 : Hid (∀ (U : World) (g : Nat), U.heap[g]? = some (.cells D 59) → Calls Tryz.prog 9 #[.pointer (some ⟨g, 0, none⟩)] U fun e w' => e = .returned (.tuple #[.pointer none, .int .i64 1]) ∧ Below U.heap.size U w') := fun U g hg => Go.Proofs.YtiadlcjdpbkbkaaGreatD.mount_none (.inr ⟨g, rfl, (Joins.cell_of_block hg 0).trans HD0.out⟩)
  have HNv : Hid (∀ (U : World) (g : Nat), U.heap[g]? = some (.cells V 61) → NoVol U (.pointer (some ⟨g, 0, none⟩))) := fun U g hg => .inr ⟨g, rfl, (Joins.cell_of_block hg 0).trans HV0.out⟩
  have b0 := below_next (below_new w (.cells D 59)) (below_new (w.alloc (.cells D 59)) (.cells V 61))
  have r0 := heap_kept (heap_alloc_new w (.cells D 59)) (below_new (w.alloc (.cells D 59)) (.cells V 61))
  have r1 := heap_alloc_new (w.alloc (.cells D 59)) (.cells V 61)
  rw [World.size_alloc] at r1
  have B0 := Hid.mk' b0
  have R0 := Hid.mk' r0
  have R1 := Hid.mk' r1
  clear b0 r0 r1 HD0 HV0
  go_enter Tryz.func5, Tryz.ntmps5
  go_wp2_with (go_at_call 9; fail)
  refine (hm0 _).mono ?_
  rintro e W1 ⟨rfl, hb1⟩
  have hm1 := HM1.out W1 _ (heap_kept R0.out hb1)
  have B1 := Hid.mk' (below_next B0.out hb1)
  have R2 := Hid.mk' (heap_kept R1.out hb1)
  clear hm0 hb1 B0 R0 R1 HM1
  go_wp2_with (go_at_call 9; fail)
  refine hm1.mono ?_
  rintro e W2 ⟨rfl, hb2⟩
  have haw := HAw.out W2
  have B2 := Hid.mk' (below_next B1.out hb2)
  have R3 := Hid.mk' (heap_kept R2.out hb2)
  clear hm1 hb2 B1 R2 HAw
  go_wp2_with (go_at_call 8; fail)
  refine haw.mono ?_
  rintro e W3 ⟨rfl, hb3⟩
  have B3 := Hid.mk' (below_next B2.out hb3)
  have R4 := Hid.mk' (heap_kept R3.out hb3)
  clear haw hb3 B2 R3
  go_upto_region 6 with fail
  have b4 := below_new W3 (.cells #[.pointer none, .pointer (some ⟨w.heap.size + 1, 0, none⟩)] 29)
  have l0 := heap_alloc_new W3 (.cells #[.pointer none, .pointer (some ⟨w.heap.size + 1, 0, none⟩)] 29)
  have B4 := Hid.mk' (below_next B3.out b4)
  have hv := HNv.out _ _ (heap_kept R4.out b4)
  clear B3 R4 b4 HNv
  generalize W3.alloc (.cells #[.pointer none, .pointer (some ⟨w.heap.size + 1, 0, none⟩)] 29) = X at *
  generalize W3.heap.size = gl at *
  have e0 : X.cell? ⟨gl, 0, none⟩ = some (.pointer none) := Joins.cell_of_block l0 0
  have e1 : X.cell? ⟨gl, 1, none⟩ = some (.pointer (some ⟨w.heap.size + 1, 0, none⟩)) := Joins.cell_of_block l0 1
  have HN : Hid (NoVol X (.pointer none)) := .inl rfl
  have HV := Hid.mk' hv
  clear hv l0
  go_loopw [8] (fun s8 wx => ∃ j : Int, (j = 0 ∨ j = 1 ∨ j = 2) ∧ s8 = .int .i64 j ∧ wx = X) (fun s8 _ => 2 - (intOf s8).toNat)
  case atStart => exact ⟨0, .inl rfl, rfl, rfl⟩
  case round =>
    obtain ⟨j, hj, rfl, rfl⟩ := hrel
    rcases hj with rfl | rfl | rfl
    · go_wp2_with (first | (go_at_call 13; refine (vlog_none HN.out).mono ?_; rintro e V ⟨rfl, rfl⟩) | (go_at_call 14; refine (vdesk_none HN.out).mono ?_; rintro e V ⟨rfl, rfl⟩) | (go_at_call 17; refine (vsync_none HN.out).mono ?_; rintro e V ⟨rfl, rfl⟩) | (go_at_call 18; refine (vclose_none HN.out).mono ?_; rintro e V ⟨rfl, rfl⟩))
      exact ⟨⟨1, by omega, rfl, trivial⟩, by simp [intOf]⟩
    · go_wp2_with (first | (go_at_call 13; refine (vlog_none HV.out).mono ?_; rintro e V ⟨rfl, rfl⟩) | (go_at_call 14; refine (vdesk_none HV.out).mono ?_; rintro e V ⟨rfl, rfl⟩) | (go_at_call 17; refine (vsync_none HV.out).mono ?_; rintro e V ⟨rfl, rfl⟩) | (go_at_call 18; refine (vclose_none HV.out).mono ?_; rintro e V ⟨rfl, rfl⟩))
      exact ⟨⟨2, by omega, rfl, trivial⟩, by simp [intOf]⟩
    · go_wp2
      go_ret
      exact ⟨rfl, B4.out⟩
end Go.Proofs.YtiadlcjdpbkbkaaGreat
/- Mount of a disk whose log names one block; of one whose log names what may not be; the header's bytes; a block of three bytes. -/
namespace Go.Proofs.YtiadlcjdpbkbkaaGreatD
open Go.RowKit Go.Maps
variable {M : Int} {bk : Int → Nat → Int} {r : Nat} {t : St} {w W : World} {d : Nat} {ks : List (Nat × Obj)}
def hF : Nat → Int := H.headF [39]
/-- 7, 8, 9, and noughts. -/
def bF : Nat → Int := fun j => if j = 0 then 7 else if j = 1 then 8 else if j = 2 then 9 else 0
/-- The header with 5 for 39. -/
def cF : Nat → Int := fun j => if j < 1023 ∧ hF j = 39 then 5 else hF j
theorem hF_can : Can hF := by
  refine ⟨fun i => H.wordF_byte _ _, fun i hi => ?_⟩
  unfold hF H.headF H.wordF
  rw [show List.getD (([39] : List Int).length :: [39] : List Int) (i / 4) 0 = 0 from by
    rw [List.getD_eq_getElem?_getD, List.getElem?_eq_none (by simp; omega)]; rfl]
  simp
theorem bF_can : Can bF := by
  refine ⟨fun i => ?_, fun i hi => ?_⟩
  · unfold bF
    (repeat' split) <;> omega
  · unfold bF
    rw [if_neg (by omega), if_neg (by omega), if_neg (by omega)]
theorem cF_can : Can cF := by
  obtain ⟨h1, h2⟩ := hF_can
  refine ⟨fun i => ?_, fun i hi => ?_⟩
  · unfold cF
    split
    · omega
    · exact h1 i
  · unfold cF
    rw [if_neg (by omega)]
    exact h2 i hi
theorem hF_tg : H.decL 33 400 31 hF = [39] ∧ H.decN 33 400 31 hF = 0 := by
  constructor <;> decide +kernel
theorem cF_tg : H.decL 33 400 31 cF = [] ∧ H.decN 33 400 31 cF = 4 := by
  constructor <;> decide +kernel
theorem tg_of {F : Nat → Int} {T : List Int} {e : Int} (h : curV t 1 = F) (hF : H.decL 33 400 31 F = T ∧ H.decN 33 400 31 F = e) : tgT 400 32 t = T ∧ tgE 400 32 t = e := by
  unfold tgT tgE
  rw [h]
  exact hF
theorem Li.mos (h : Li M bk 2000 t) (h0 : bk 0 = Go.Proofs.YtiadlcjdpbkbkaaGreatP.superF 400 32 60) (h1 : bk 1 = nought) (h2 : ∀ q : Nat, q ≤ 3 → bk (33 + (q : Int)) = Go.Proofs.YtiadlcjdpbkbkaaGreat.coF 400 32 60 (33 + (q : Int))) : MoS t :=
  ⟨h.n, h.live, h.fu, (h.cur 0).trans h0, (h.cur 1).trans h1, fun q hq => (h.cur _).trans (h2 q hq), fun k => (curV_can h.ok k).1, h.rm⟩
theorem Li.of (hS : Sits w W d t ks) (h1 : t.made = M) (h2 : t.stopped = false) (h3 : curV t = bk) (h4 : t.n = 400) (h5 : t.fuse = -1) (h6 : Rm t r) : Li M bk r t := ⟨h4, h2, h5, h1, fun k => by rw [h3], h6, hS.ok⟩
/-- Mounted, one block put in place. -/
theorem mount_put (h : Sits w W d t ks) (hl : Li M bk 3000 t) (h0 : bk 0 = Go.Proofs.YtiadlcjdpbkbkaaGreatP.superF 400 32 60) (h1 : bk 1 = hF) (h2 : ∀ q : Nat, q ≤ 3 → bk (33 + (q : Int)) = Go.Proofs.YtiadlcjdpbkbkaaGreat.coF 400 32 60 (33 + (q : Int))) :
    Calls Tryz.prog 9 #[.pointer (some ⟨d, 0, none⟩)] W fun e W' => ∃ gv g gk bk' x book, e = .returned (.tuple #[.pointer (some ⟨gv, 0, none⟩), .int .i64 0]) ∧ Go.Proofs.YtiadlcjdpbkbkaaGreat.VolAt (M + 4) w W' gv g gk bk' d x book 900 [] ks ∧ ∀ k, book k = if k = 1 then nought else if k = 39 then bk 2 else bk k := by
  have hc : ∀ k, Can (bk k) := fun k => by rw [← hl.cur k]; exact curV_can h.ok k
  have hr2 : Li M bk 2998 (readS (readS t)) := (hl.read (r := 2999)).read (r := 2998)
  obtain ⟨c1, c2⟩ := hr2.recover (r := 2992) (y := 39) (by omega) hc
  obtain ⟨g1, g2⟩ := tg_of (t := readS t) ((hl.read (r := 2999)).cur 1 |>.trans h1) hF_tg
  have hm : MoS (rcV [39] (readS (readS t))) := (c2.le (q := 2000) (by omega)).mos ((if_neg (by omega)).trans ((if_neg (by omega)).trans h0)) (if_pos rfl) fun q hq => (if_neg (by omega)).trans ((if_neg (by omega)).trans (h2 q hq))
  have hR : ∀ V ks', Sits w V d (readS t) ks' → Calls Tryz.prog 57 #[.pointer (some ⟨d, 0, none⟩), .agg (layA 400 32 60)] V fun e W' => (∃ k : Int, e = .returned (.tuple #[.int .i64 k, .int .i64 0])) ∧ Sits w W' d (rcV [39] (readS (readS t))) ks' := fun V ks' hV => by
    have h3 := recover_some (b := 400) (l := 32) (i := 60) hV fineH (by rw [(hl.read (r := 2999)).n]; omega) (hl.read (r := 2999)).live (by rw [g1]; simp) g2 (by rw [g1]; simp) (by rw [g1]; exact (hl.read (r := 2999)).rm.le (by simp))
    rw [g1] at h3
    refine h3.mono ?_
    rintro e W' ⟨rfl, h4⟩
    exact ⟨⟨_, by rw [c1]⟩, h4⟩
  refine (mount_any h hl.n hl.live (hl.room (r := 2999)) ((hl.cur 0).trans h0) hm hR).mono ?_
  rintro e W' ⟨gv, g, gk, bk', rfl, hv⟩
  rw [c2.made] at hv
  exact ⟨gv, g, gk, bk', _, _, rfl, hv, c2.cur⟩
set_option maxRecDepth 20000 in
set_option maxHeartbeats 1600000 in
/-- No log of a disk whose header may not be. -/
theorem recovered_bad {t1 : St} {E : Int} (hE : E ≠ 0) {L : Array Value} (h : Sits w W d t ks) (hL : (Tryz.prog.info? 43).map (·.size) = some L.size)
    (hRc : ∀ V ks', Sits w V d t ks' → Calls Tryz.prog 57 #[.pointer (some ⟨d, 0, none⟩), .agg L] V fun e W' => e = .returned (.tuple #[.int .i64 0, .int .i64 E]) ∧ Sits w W' d t1 ks') :
    Calls Tryz.prog 28 #[.pointer (some ⟨d, 0, none⟩), .agg L] W fun e W' => e = .returned (.tuple #[.pointer none, .int .i64 E]) ∧ Sits w W' d t1 ks := by
  have hA := h.add (.cells L 43)
  have hrow := hA.blk (List.mem_cons_self ..)
  have hrc := hRc _ _ hA
  have HI := Hid.mk' hL
  have hEb : (E != 0) = true := by simpa using hE
  clear h hA hRc hL hE
  go_enter Tryz.func28, Tryz.ntmps28
  go_wp2_with (first | (with_reducible refine YtiadlcjdpbkbkaaGreat.isLoadR 43 ?_; refine YtiadlcjdpbkbkaaGreat.wpList_ldR 43 Tryz.underlying43 rfl rfl _ rfl W.heap.size rfl L 43 (0, 0) HI.out hrow ?_) | (go_at_call 57; fail))
  refine hrc.mono ?_
  rintro e W1 ⟨rfl, h1⟩
  have HL := Hid.mk' (h1.drop (ks' := ks) fun p hp => List.mem_cons_of_mem _ hp)
  clear hrc h1 hrow
  go_wp2
  go_ret2
  exact ⟨rfl, HL.out⟩
set_option maxRecDepth 20000 in
set_option maxHeartbeats 1600000 in
/-- Nor is it mounted. -/
theorem mount_bad {t1 t2 : St} {E : Int} (hE : E ≠ 0) {L : Array Value} (h : Sits w W d t ks) (hL : (Tryz.prog.info? 43).map (·.size) = some L.size) (hL1 : L.all (·.oneCell') = true) (hL9 : L.size = lay0R.size)
    (hF : ∀ V ks', Sits w V d t ks' → Calls Tryz.prog 27 #[.pointer (some ⟨d, 0, none⟩)] V fun e W' => e = .returned (.tuple #[.agg L, .int .i64 0]) ∧ Sits w W' d t1 ks')
    (hR : ∀ V ks', Sits w V d t1 ks' → Calls Tryz.prog 28 #[.pointer (some ⟨d, 0, none⟩), .agg L] V fun e W' => e = .returned (.tuple #[.pointer none, .int .i64 E]) ∧ Sits w W' d t2 ks') :
    Calls Tryz.prog 9 #[.pointer (some ⟨d, 0, none⟩)] W fun e W' => e = .returned (.tuple #[.pointer none, .int .i64 E]) ∧ Sits w W' d t2 ks := by
  have zl := zeroLyR
  have hfd := hF W ks h
  have HR := Hid.mk' (hR)
  have HI := Hid.mk' (hL)
  have HO := Hid.mk' (hL1)
  have H9 := Hid.mk' (hL9)
  have hEb : (E != 0) = true := by simpa using hE
  clear h hF hR hL hL1 hL9 hE
  go_enter Tryz.func9, Tryz.ntmps9
  go_wp2_with (go_at_call 27; fail)
  refine hfd.mono ?_
  rintro e W1 ⟨rfl, h1⟩
  have h2 := h1.add (.cells L 43)
  have hrow := h2.blk (List.mem_cons_self ..)
  have hrc := HR.out _ _ h2
  clear hfd h1 h2 HR
  go_wp2_with (first | (with_reducible refine YtiadlcjdpbkbkaaGreat.isStoreR 43 ?_; refine YtiadlcjdpbkbkaaGreat.wpList_stNew 43 rfl _ _ rfl W1.heap.size L lay0R 43 HI.out H9.out.symm HO.out rfl rfl rfl ?_) | (with_reducible refine YtiadlcjdpbkbkaaGreat.isLoadR 43 ?_; refine YtiadlcjdpbkbkaaGreat.wpList_ldR 43 Tryz.underlying43 rfl rfl _ rfl W1.heap.size rfl L 43 (0, 0) HI.out hrow ?_) | (go_at_call 28; fail))
  refine hrc.mono ?_
  rintro e W2 ⟨rfl, h3⟩
  have HL := Hid.mk' (h3.drop (ks' := ks) fun p hp => List.mem_cons_of_mem _ hp)
  clear hrc h3 hrow
  go_wp2
  go_ret2
  exact ⟨rfl, HL.out⟩
/-- A header that may not be. -/
theorem mount_head (h : Sits w W d t ks) (hl : Li M bk 100 t) (h0 : bk 0 = Go.Proofs.YtiadlcjdpbkbkaaGreatP.superF 400 32 60) (h1 : bk 1 = cF) :
    Calls Tryz.prog 9 #[.pointer (some ⟨d, 0, none⟩)] W fun e W' => e = .returned (.tuple #[.pointer none, .int .i64 4]) ∧ Sits w W' d (readS (readS t)) ks := by
  have hr1 := hl.read (r := 99)
  obtain ⟨g1, g2⟩ := tg_of (t := readS t) (hr1.cur 1 |>.trans h1) cF_tg
  refine mount_bad (t1 := readS t) (by omega) h (layA_info _ _ _) (layA_one _ _ _) layA_nine (fun V ks' hV => found_ok hV fine_small (by rw [hl.n]; omega) (by rw [hl.n]; omega) hl.live (hl.room (r := 99)) ((hl.cur 0).trans h0)) (fun V ks' hV => recovered_bad (by omega) hV (layA_info _ _ _) fun V ks' hV => ?_)
  have h3 := recover_empty (b := 400) (l := 32) (i := 60) hV fineH (by rw [hr1.n]; omega) hr1.live (hr1.rm.le (by omega)) g1
  rwa [g2] at h3
/-- The example's layout, and the header of one block, as the law asks for them. -/
theorem of_small (W : World) : Calls Tryz.prog 21 #[.agg (Go.Proofs.YtiadlcjdpbkbkaaGreat.geoRow 400 32 60)] W fun e W' => e = .returned (.tuple #[.agg (layA 400 32 60), .int .i64 0]) ∧ Below W.heap.size W W' := by
  have h := Go.Proofs.YtiadlcjdpbkbkaaGreatP.of_any 400 32 60 W (by unfold Go.Proofs.YtiadlcjdpbkbkaaGreatP.I64; omega)
  unfold Go.Proofs.YtiadlcjdpbkbkaaGreatP.ofV Go.Proofs.YtiadlcjdpbkbkaaGreatP.ofE at h
  rw [if_pos fine_small, if_pos fine_small] at h
  exact h
theorem enc_small {g : Nat} (hg : W.heap[g]? = some (.cells #[.int .i64 39] 3)) : Calls Tryz.prog 22 #[.agg (layA 400 32 60), .agg #[.slice (some ⟨g, 0, none⟩) 1 1]] W fun e W' => e = .returned (.tuple #[.agg (blk hF), .int .i64 0]) ∧ Below W.heap.size W W' := by
  have h := H.enc_ok 400 32 60 1 33 (H.nodeB 60) (H.bitsAt 32 60) (H.bitsB 400) (H.dataAt 400 32 60) [39] (some ⟨g, 0, none⟩) 1 W (by unfold H.I64; omega) (lay_fine fineH) (by omega) (H.listRow_at hg) (fun x hx => by rw [List.mem_singleton.1 hx]; unfold H.U32; omega) (by simp) (by decide)
  exact h
theorem buildB3 (u : World) : (Instr.build 47 #[(0, .int .u8 7), (1, .int .u8 8), (2, .int .u8 9)]).run Tryz.prog u = .ok (.agg (blk bF)) u := by kernel_rfl
theorem exec_buildB3 {o : Oper} {a : Act} {W : World} {x y u : Operand} (ho : o.op = .build 47 #[(0, x), (1, y), (2, u)]) (hx : a.eval x = .int .u8 7) (hy : a.eval y = .int .u8 8) (hu : a.eval u = .int .u8 9) : (execOp a.eval o).run Tryz.prog W = .ok (.value (.agg (blk bF))) W := by
  have e := buildB3 W
  generalize blk bF = Y at *
  simp [execOp, ho, hx, hy, hu, e]
end Go.Proofs.YtiadlcjdpbkbkaaGreatD
/- A log that lives: a step begun and ended, refused with one open, closed; a volume closed; a desk beside it holds inodes. -/
namespace Go.Proofs.YtiadlcjdpbkbkaaGreatD
open Go.RowKit Go.Maps
theorem LogI.row19 {w W : World} {g d : Nat} {x : LSt} {t : St} {book : Int → Nat → Int} {ks : List (Nat × Obj)} (h : LogI w W g d x t book ks) : ∃ R, R.size = 19 ∧ W.heap[g]? = some (.cells R 85) ∧ w.heap.size ≤ g ∧ (∀ q ∈ ks, q.1 ≠ g) := by
  obtain ⟨s, ⟨c, mb, v, os, h⟩, hI⟩ := h
  exact ⟨_, rfl, h.log.row, (h.own g (.inl rfl)).1, fun q hq e => h.ap q hq (.inl e)⟩
end Go.Proofs.YtiadlcjdpbkbkaaGreatD
namespace Go.Proofs.YtiadlcjdpbkbkaaGreat
open Go.RowKit Go.Maps
def lgZ : Array Value := #[.pointer none, .pointer none, .int .i64 0, .int .i64 0, .int .i64 0, .int .i64 0, .int .i64 0, .int .i64 0, .int .i64 0, .int .i64 0, .int .i64 0, .int .i64 0, .pointer none, .slice none 0 0, .map none, .bool false, .int .i64 0, .int .i64 0, .int .i64 0]
theorem lgZ_info : (Tryz.prog.info? 85).map (·.size) = some lgZ.size := by show _ = some 19; kernel_rfl
theorem lgZ_one : lgZ.all (·.oneCell') = true := by simp [lgZ, Value.oneCell']
theorem zeroPL : ∀ w, (zeroValue 85).run Tryz.prog w = .ok (.agg lgZ) w := (zero_of_info (show (Tryz.prog.info? 85).map (fun i => (i.zero, i.size)) = some (some (.agg lgZ), 19) by kernel_rfl)).1
theorem build0Lg (u : World) : (Instr.build 85 #[]).run Tryz.prog u = .ok (.agg lgZ) u := by
  have z := zeroPL
  generalize lgZ = Z at *
  simp [Instr.build, z, run_underlying Tryz.underlying85, Instr.fill, Value.cells, go_sem]
theorem exec_build0Lg {o : Oper} {a : Act} {W : World} (ho : o.op = .build 85 #[]) : (execOp a.eval o).run Tryz.prog W = .ok (.value (.agg lgZ)) W := by
  have e := build0Lg W
  generalize lgZ = Z at *
  simp [execOp, ho, e]
theorem build0Vo (u : World) : (Instr.build 61 #[]).run Tryz.prog u = .ok (.agg voZ) u := by
  have z := zeroVo
  generalize voZ = Z at *
  simp [Instr.build, z, run_underlying Tryz.underlying61, Instr.fill, Value.cells, go_sem]
theorem exec_build0Vo {o : Oper} {a : Act} {W : World} (ho : o.op = .build 61 #[]) : (execOp a.eval o).run Tryz.prog W = .ok (.value (.agg voZ)) W := by
  have e := build0Vo W
  generalize voZ = Z at *
  simp [execOp, ho, e]
theorem voZ_info : (Tryz.prog.info? 61).map (·.size) = some voZ.size := by show _ = some 3; kernel_rfl
theorem voZ_one : voZ.all (·.oneCell') = true := by simp [voZ, Value.oneCell']
section
variable {M : Int} {w W W' : World} {gv g gk bk d n : Nat} {x x1 : Go.Proofs.YtiadlcjdpbkbkaaGreatD.LSt} {book : Int → Nat → Int} {L : List (Int × Int)} {ks ks' : List (Nat × Obj)}
theorem RLog.begin (h : RLog M w W g d x book n ks) (ho : x.opn = false) (hb : x.blocks = []) (hl : x.l = 32) : Calls Tryz.prog 16 #[.pointer (some ⟨g, 0, none⟩), .int .i64 1] W fun e W' => e = .returned (.int .i64 0) ∧ RLog M w W' g d { x with opn := true, room := 1 } book n ks := by
  obtain ⟨t, h, h1, h2⟩ := h
  refine (Go.Proofs.YtiadlcjdpbkbkaaGreatD.LogI.begin h (r := 1) (ref_of h1.1 ho) (by omega) (by rw [hb, hl]; simp)).mono ?_
  rintro e W' ⟨rfl, h3⟩
  exact ⟨rfl, t, h3, h1, h2⟩
theorem RLog.ends (h : RLog M w W g d x book n ks) (ho : x.opn = true) (hs : x.steps = 0) : Calls Tryz.prog 19 #[.pointer (some ⟨g, 0, none⟩)] W fun e W' => e = .returned (.int .i64 0) ∧ RLog M w W' g d (Go.Proofs.YtiadlcjdpbkbkaaGreatD.endX x) book n ks := by
  obtain ⟨t, h, h1, h2⟩ := h
  refine (Go.Proofs.YtiadlcjdpbkbkaaGreatD.LogI.ends h (ref_of h1.1 ho) (by rw [hs]; omega)).mono ?_
  rintro e W' ⟨rfl, h3⟩
  exact ⟨rfl, t, h3, h1, h2⟩
/-- With a step open nothing is committed. -/
theorem RLog.syncOpen (h : RLog M w W g d x book n ks) (ho : x.opn = true) : Calls Tryz.prog 191 #[.pointer (some ⟨g, 0, none⟩)] W fun e W' => e = .returned (.int .i64 180) ∧ RLog M w W' g d x book n ks := by
  obtain ⟨t, ⟨s, hs, hI⟩, h1, h2⟩ := h
  have hr : Go.Proofs.YtiadlcjdpbkbkaaGreatD.refL x t false = 180 := by unfold Go.Proofs.YtiadlcjdpbkbkaaGreatD.refL; rw [if_pos h1.1, ho]; rfl
  refine (Go.Proofs.YtiadlcjdpbkbkaaGreatD.syncL_ref hs hr (by omega)).mono ?_
  rintro e W' ⟨rfl, h3⟩
  exact ⟨rfl, t, ⟨s, h3, hI⟩, h1, h2⟩
set_option maxHeartbeats 1600000 in
theorem RLog.closeOpen (h : RLog M w W g d x book n ks) (ho : x.opn = true) : Calls Tryz.prog 193 #[.pointer (some ⟨g, 0, none⟩)] W fun e W' => e = .returned (.int .i64 180) ∧ RLog M w W' g d x book n ks := by
  have hs := h.syncOpen ho
  clear h ho
  go_enter Tryz.func193, Tryz.ntmps193
  go_wp2_with (go_at_call 191; fail)
  refine hs.mono ?_
  rintro e W1 ⟨rfl, h1⟩
  have H := Hid.mk' h1
  clear hs h1
  go_wp2
  go_ret
  exact ⟨rfl, H.out⟩
set_option maxHeartbeats 1600000 in
/-- A log with nothing to commit is closed. -/
theorem RLog.close (h : RLog M w W g d x book n ks) (ho : x.opn = false) (hb : x.blocks = []) :
    Calls Tryz.prog 193 #[.pointer (some ⟨g, 0, none⟩)] W fun e W' => e = .returned (.int .i64 0) ∧ Go.Proofs.YtiadlcjdpbkbkaaGreatD.NoneAt W' (.pointer (some ⟨g, 0, none⟩)) ∧ (∀ q ∈ ks, W'.heap[q.1]? = some q.2) ∧ Below w.heap.size w W' := by
  have HS := Hid.mk' (h.sync ho hb)
  clear h hb ho
  go_enter Tryz.func193, Tryz.ntmps193
  go_wp2_with (go_at_call 191; fail)
  refine HS.out.mono ?_
  rintro e W1 ⟨rfl, h1⟩
  obtain ⟨R, hs, hrow, hge, hne⟩ : ∃ R, R.size = 19 ∧ W1.heap[g]? = some (.cells R 85) ∧ w.heap.size ≤ g ∧ (∀ q ∈ ks, q.1 ≠ g) := by
    obtain ⟨t, h, _⟩ := h1
    exact h.row19
  have HZ : Hid ((W1.setRow g lgZ).heap[g]? = some (.cells lgZ 85)) := setRow_heap _ _ _ _ _ _ hrow
  have HK : Hid (∀ q ∈ ks, (W1.setRow g lgZ).heap[q.1]? = some q.2) := fun q hq => by
    have k1 := h1.obj (q := q.1) (o := q.2) hq
    exact ((Go.Proofs.YtiadlcjdpbkbkaaGreatD.Fr.setRow W1 g lgZ).block q.1 (Array.getElem?_eq_some_iff.1 k1).1 (hne q hq)).trans k1
  have HB : Hid (Below w.heap.size w (W1.setRow g lgZ)) := h1.below.trans ((Go.Proofs.YtiadlcjdpbkbkaaGreatD.Fr.setRow W1 g lgZ).below (fun i hi => by omega) h1.below.size)
  have hs2 : R.size = lgZ.size := hs
  have hz0 : lgZ[0]? = some (.pointer none) := rfl
  have HZ0 : Hid (lgZ[0]? = some (.pointer none)) := hz0
  have HI : Hid ((Tryz.prog.info? 85).map (·.size) = some lgZ.size) := lgZ_info
  have HO : Hid (lgZ.all (·.oneCell') = true) := lgZ_one
  have HE : Hid (∀ {o : Oper} {a : Act} {W : World}, o.op = .build 85 #[] → (execOp a.eval o).run Tryz.prog W = .ok (.value (.agg lgZ)) W) := fun ho => exec_build0Lg ho
  clear HS h1 hge hne hs hz0
  generalize lgZ = Z at *
  go_wp2_with (first | (with_reducible refine isBuildR 85 ?_; refine wpList_ex rfl (HE.out rfl) ?_) | (with_reducible refine isStoreR 85 ?_; refine wpList_stR 85 rfl _ _ rfl g Z R 85 HI.out hs2 HO.out rfl rfl hrow ?_))
  go_ret
  exact ⟨rfl, .inr ⟨g, rfl, (Joins.cell_of_block HZ.out 0).trans HZ0.out⟩, HK.out, HB.out⟩
end
theorem methE_sync (v : Value) (w : World) : (method 363 87 (.agg #[v]) "Sync").run Tryz.prog w = .ok (192, .agg #[v]) w := by kernel_rfl
set_option maxRecDepth 20000 in
set_option maxHeartbeats 1600000 in
/-- Whoever commits is the end of a log. -/
theorem endSync_ok {g : Nat} {W : World} {Q : Ending → World → Prop} (hQ : ∀ W1, Below W.heap.size W W1 → Calls Tryz.prog 193 #[.pointer (some ⟨g, 0, none⟩)] W1 fun e W' => ∃ v : Int, e = .returned (.int .i64 v) ∧ Q e W') :
    Calls Tryz.prog 192 #[.agg #[.pointer (some ⟨g, 0, none⟩)]] W Q := by
  have h := hQ _ (below_new W (.cells #[.pointer (some ⟨g, 0, none⟩)] 87))
  have c0 : (W.alloc (.cells #[.pointer (some ⟨g, 0, none⟩)] 87)).cell? ⟨W.heap.size, 0, none⟩ = some (.pointer (some ⟨g, 0, none⟩)) := Joins.cell_of_block (heap_alloc_new _ _) 0
  clear hQ
  go_enter Tryz.func192, Tryz.ntmps192
  go_wp2_with (go_at_call 193; fail)
  refine h.mono ?_
  rintro e W1 ⟨v, rfl, hq⟩
  have HQ := Hid.mk' (hq)
  clear h hq
  go_wp2
  exact HQ.out
set_option maxRecDepth 20000 in
set_option maxHeartbeats 1600000 in
theorem commitE_ok {g : Nat} {W : World} {Q : Ending → World → Prop} (h : Calls Tryz.prog 192 #[.agg #[.pointer (some ⟨g, 0, none⟩)]] W fun e W' => ∃ v : Int, e = .returned (.int .i64 v) ∧ Q e W') :
    Calls Tryz.prog 30 #[.iface 87 (.agg #[.pointer (some ⟨g, 0, none⟩)])] W Q := by
  have h2 := methE_sync
  go_enter Tryz.func30, Tryz.ntmps30
  go_wp2_with (go_at_call 192; fail)
  refine h.mono ?_
  rintro e W1 ⟨v, rfl, hq⟩
  have HQ := Hid.mk' (hq)
  clear h hq
  go_wp2
  exact HQ.out
end Go.Proofs.YtiadlcjdpbkbkaaGreat
