/- Several texts joined: the log, its cache and its disk, of the program and of the document; no condition. -/
import Derived.Test.YtichojdcoegboaaGreatK36
namespace Go.Proofs.YtichojdcoegboaaGreatW
open Go.RowKit Go.Maps
section
variable {w W W' : World} {g q d r m : Nat} {x x' : LSt} {s : CSt} {t t' : St} {book book' : Int → Nat → Int} {y y' : RL} {u u' : RSt} {l : List Part} {row : Array Value} {G : Int × Int × Int}
theorem cmt_two {fp : FuncId} {ap : Array Value} (h : LvOk x t book y u G m) (hI : Inv x s t book) (hk : Ok t) {fd : FuncId} {ad : Array Value} {x2 : LSt} {y2 : RL} (hM : Mt x2 book y2) (hc : x2.claim = x.claim) (hb : x2.b = x.b ∧ x2.l = x.l ∧ x2.i = x.i) (hn : x2.steps ≤ x.steps + 1 ∧ x2.commits ≤ x.commits + 1) (hwl : y2.wrote.length ≤ y.wrote.length + 1)
  (hp : ∀ W ks, LogI w W g d x t book ks → Calls Tryz.prog fp ap W fun e W' => e = .returned (.int .i64 (runE (cmtOps x book) t)) ∧ (∃ x' s', LogSit w W' g d x' s' (runV (cmtOps x book) t) ks ∧ x'.claim = x.claim) ∧ (runE (cmtOps x book) t = 0 → LogI w W' g d x2 (runV (cmtOps x book) t) book ks))
  (hd : ∀ W l', DL w W q r y u l' → Calls Tryz.prog fd ad W fun e W' => e = .returned (.int .i64 (rcmE y u)) ∧ DL w W' q r (if rcmE y u = 0 then y2 else y) (rrunV (rcOps y) u) l') :
  ∃ E, Two l (fun W => Lv w W g q d r x t book y u l) fp fd ap ad (.int .i64 E) (Aft w g q d r G (m + 600) t l) := by
 refine ⟨runE (cmtOps x book) t, ?_⟩
 rw [h.rcmE hI hk] at hd
 by_cases he : runE (cmtOps x book) t = 0
 ·refine (two_live (x' := x2) (t' := runV (cmtOps x book) t) (book' := book) (y' := y2) (u' := rrunV (rcOps y) u) (fun W ks hL => (hp W ks hL).mono fun _ _ ⟨a, _, c⟩ => ⟨a, c he⟩) fun W l' hL => ?_).mono (h.commit hI hk he hM hc hb hn hwl)
  have := hd W l' hL
  rw [if_pos he] at this
  exact this
 ·refine (two_dead (t' := runV (cmtOps x book) t) (y' := y) (u' := rrunV (rcOps y) u) (fun W ks hL => (hp W ks hL).mono fun _ _ ⟨a, b, _⟩ => ⟨a, b⟩) fun W l' hL => ?_).mono (h.stop hI hk he h.mt.made h.mt.mine)
  have := hd W l' hL
  rw [if_neg he] at this
  exact this
theorem rWr_len (y : RL) (k : Int) (f : Nat → Int) : (rWr y k f).wrote.length ≤ y.wrote.length + 1 := by
 show (if k ∈ y.wrote then y.wrote else y.wrote ++ [k]).length ≤ _
 split
 ·omega
 ·simp
theorem live_begin (h : LvOk x t book y u G m) (hI : Inv x s t book) (hk : Ok t) (hm : m ≤ 1000000) (n : Int) :
  ∃ E, Two l (fun W => Lv w W g q d r x t book y u l) 19 34 #[.pointer (some ⟨g, 0, none⟩), .int .i64 n] #[.pointer (some ⟨q, 0, none⟩), .int .i64 n] (.int .i64 E) (Aft w g q d r G (m + 600) t l) := by
 have hl2 : 32 ≤ x.l ∧ x.l ≤ 256 := ⟨hI.fine.1, hI.fine.2.1⟩
 have hyl : y.l = x.l := h.mt.l
 cases ho : x.opn
 ·have hys : y.step = false := h.mt.step.trans ho
  by_cases ha : n < 1 ∨ x.l - 1 < n
  ·refine ⟨2, (two_live (fun W ks hL => ?_) fun W l' hL => hL.begin_arg h.rch hys (by rw [hyl]; exact hl2) (by rw [hyl]; exact ha)).mono (h.same (by omega))⟩
   obtain ⟨s, hs, hI'⟩ := hL
   exact (beginL_arg hs (h.ref0 ho) hl2 ha).mono fun _ _ ⟨a, b⟩ => ⟨a, s, b, hI'⟩
  ·by_cases hr : (x.blocks.length : Int) + n ≤ x.l - 1
   ·refine ⟨0, (two_live (fun W ks hL => hL.begin (h.ref0 ho) (by omega) hr) fun W l' hL => hL.begin_ok h.rch hys (by rw [hyl]; exact hl2) ⟨by omega, by rw [hyl, h.mt.len]; exact hr⟩).mono (h.logs (h.mt.begin ho) rfl ⟨rfl, rfl, rfl⟩ ⟨by show x.steps ≤ _; omega, by show x.commits ≤ _; omega⟩ (Nat.zero_le _) (by omega))⟩
   ·have hlen := hI.len
    refine cmt_two h hI hk (x2 := { forgotL x with commits := x.commits + 1, opn := true, room := n }) (h.mt.beginOver ho (n := n)) rfl ⟨rfl, rfl, rfl⟩ ⟨by show x.steps ≤ _; omega, by show x.commits + 1 ≤ _; omega⟩ (Nat.zero_le _) (fun W ks hL => hL.beginOver (h.ref0 ho) (by omega) (by omega) (by omega) (h.cap.rm2 hm (by omega)) (by have := h.cnt.2; omega)) fun W l' hL => ?_
    refine (hL.begin_over h.rch hys (h.can hI hk hm) (n := n) ⟨by omega, by rw [hyl]; omega, by rw [hyl, h.mt.len]; omega⟩).mono ?_
    rintro e W' ⟨a, b⟩
    refine ⟨a, ?_⟩
    have hE := h.rcmE hI hk
    have hO : rrunE (rcOps y) u = 0 ↔ rcmE y u = 0 := by
     unfold Go.Proofs.YtichojdcoegboaaGreatW.rcmE
     split
     ·rename_i q; exact ⟨fun _ => rfl, fun _ => q⟩
     ·rename_i q; exact ⟨fun q' => absurd q' q, fun q' => by omega⟩
    by_cases he : rcmE y u = 0
    ·rw [if_pos he] at b ⊢
     unfold rcmY at b
     rw [if_pos (hO.2 he)] at b
     exact b
    ·rw [if_neg he] at b ⊢
     unfold rcmY at b
     rw [if_neg fun q => he (hO.1 q)] at b
     exact b
 ·have hys : y.step = true := h.mt.step.trans ho
  refine ⟨180, (two_live (fun W ks hL => ?_) fun W l' hL => hL.begin_no h.rch hys n).mono (h.same (by omega))⟩
  obtain ⟨s, hs, hI'⟩ := hL
  exact (beginL_ref hs (h.ref1 (o := false) (by rw [ho]; simp)) (by omega)).mono fun _ _ ⟨a, b⟩ => ⟨a, s, b, hI'⟩
theorem live_end (h : LvOk x t book y u G m) (hm : m ≤ 1000000) (hst : 0 ≤ x.steps) :
  ∃ E, Two l (fun W => Lv w W g q d r x t book y u l) 22 35 #[.pointer (some ⟨g, 0, none⟩)] #[.pointer (some ⟨q, 0, none⟩)] (.int .i64 E) (Aft w g q d r G (m + 600) t l) := by
 cases ho : x.opn
 ·refine ⟨180, (two_live (fun W ks hL => ?_) fun W l' hL => hL.end_no h.rch (h.mt.step.trans ho)).mono (h.same (by omega))⟩
  obtain ⟨s, hs, hI'⟩ := hL
  exact (endL_ref hs (h.ref1 (o := true) (by rw [ho]; simp)) (by omega)).mono fun _ _ ⟨a, b⟩ => ⟨a, s, b, hI'⟩
 ·have hc := h.cnt.1
  refine ⟨0, (two_live (fun W ks hL => hL.ends (h.ref0 ho) (by omega)) fun W l' hL => hL.end_ok h.rch (h.mt.step.trans ho) (by rw [h.mt.over]; omega)).mono (h.logs (h.mt.ends ho) rfl ⟨rfl, rfl, rfl⟩ ⟨by show x.steps + 1 ≤ _; omega, by show x.commits ≤ _; omega⟩ (Nat.le_succ _) (by omega))⟩
theorem live_check (h : LvOk x t book y u G m) :
  Two l (fun W => Lv w W g q d r x t book y u l) 50 51 #[.pointer (some ⟨g, 0, none⟩)] #[.pointer (some ⟨q, 0, none⟩)] (.int .i64 0) (fun W => Lv w W g q d r x t book y u l) :=
 two_live (fun _ _ hL => hL.chk h.chk) fun _ _ hL => (hL.live h.rch).mono fun _ _ ⟨a, _, b⟩ => ⟨a, b⟩
theorem live_sync (h : LvOk x t book y u G m) (hI : Inv x s t book) (hk : Ok t) (hm : m ≤ 1000000) :
  ∃ E, Two l (fun W => Lv w W g q d r x t book y u l) 26 39 #[.pointer (some ⟨g, 0, none⟩)] #[.pointer (some ⟨q, 0, none⟩)] (.int .i64 E) (Aft w g q d r G (m + 600) t l) := by
 have hlen := hI.len
 have hl := hI.fine.2.1
 cases ho : x.opn
 ·have hys : y.step = false := h.mt.step.trans ho
  by_cases hb : x.blocks = []
  ·have hg : y.grp = [] := List.map_eq_nil_iff.1 (h.mt.keys.trans hb)
   exact ⟨0, (two_live (fun W ks hL => hL.syncNone (h.ref0 ho) hb) fun W l' hL => hL.sync_none h.rch hys hg).mono (h.same (by omega))⟩
  ·have hg : y.grp ≠ [] := fun q => hb (by rw [← h.mt.keys, q]; rfl)
   refine cmt_two h hI hk (x2 := { forgotL x with commits := x.commits + 1 }) (h.mt.sync ho) rfl ⟨rfl, rfl, rfl⟩ ⟨by show x.steps ≤ _; omega, by show x.commits + 1 ≤ _; omega⟩ (Nat.le_succ _) (fun W ks hL => hL.sync (h.ref0 ho) hb (h.cap.rm2 hm (by omega)) (by have := h.cnt.2; omega)) fun W l' hL => ?_
   refine (hL.sync_ok h.rch hys hg (h.can hI hk hm)).mono ?_
   rintro e W' ⟨a, b⟩
   refine ⟨a, ?_⟩
   have hO : rrunE (rcOps y) u = 0 ↔ rcmE y u = 0 := by
    unfold Go.Proofs.YtichojdcoegboaaGreatW.rcmE
    split
    ·rename_i q; exact ⟨fun _ => rfl, fun _ => q⟩
    ·rename_i q; exact ⟨fun q' => absurd q' q, fun q' => by omega⟩
   unfold rcmY at b
   by_cases he : rcmE y u = 0
   ·rw [if_pos (hO.2 he)] at b
    rw [if_pos he]
    exact b
   ·rw [if_neg fun q => he (hO.1 q)] at b
    rw [if_neg he]
    exact b
 ·refine ⟨180, (two_live (fun W ks hL => ?_) fun W l' hL => hL.sync_no h.rch (h.mt.step.trans ho)).mono (h.same (by omega))⟩
  obtain ⟨s, hs, hI'⟩ := hL
  exact (syncL_ref hs (h.ref1 (o := false) (by rw [ho]; simp)) (by omega)).mono fun _ _ ⟨a, b⟩ => ⟨a, s, b, hI'⟩
theorem live_write (h : LvOk x t book y u G m) (hI : Inv x s t book) (hm : m ≤ 1000000) (n : Int) {f : Nat → Int} (hf : Can f) :
  ∃ E, Two l (fun W => Lv w W g q d r x t book y u l) 20 38 #[.pointer (some ⟨g, 0, none⟩), .int .i64 n, .agg (blk f)] #[.pointer (some ⟨q, 0, none⟩), .int .i64 n, .agg (blk f)] (.int .i64 E) (Aft w g q d r G (m + 600) t l) := by
 have hl2 : 32 ≤ x.l ∧ x.l ≤ 256 := ⟨hI.fine.1, hI.fine.2.1⟩
 have hyl : y.l = x.l := h.mt.l
 have hyb : y.b = x.b := h.mt.b
 have hgl : y.grp.length ≤ 1000000 := by
  have := hI.len
  rw [h.mt.len]
  omega
 cases ho : x.opn
 ·refine ⟨180, (two_live (fun W ks hL => ?_) fun W l' hL => hL.write_no h.rch (h.mt.step.trans ho)).mono (h.same (by omega))⟩
  obtain ⟨s, hs, hI'⟩ := hL
  exact (writeL_ref hs (h.ref1 (o := true) (by rw [ho]; simp)) (by omega)).mono fun _ _ ⟨a, b⟩ => ⟨a, s, b, hI'⟩
 ·have hys : y.step = true := h.mt.step.trans ho
  have hroom := h.mt.room ho
  have hr2 := hI.room
  by_cases ha : n < 1 ∨ x.b ≤ n ∨ (1 ≤ n ∧ n < 1 + x.l)
  ·refine ⟨2, (two_live (fun W ks hL => ?_) fun W l' hL => hL.write_arg h.rch hys (by rw [hyl]; exact hl2) (by unfold outB; rw [hyl, hyb]; rcases ha with q | q | q <;> omega)).mono (h.same (by omega))⟩
   obtain ⟨s, hs, hI'⟩ := hL
   exact (writeL_arg hs (h.ref0 ho) (by rcases ha with q | q | q; exact .inl q; exact .inr (.inl q); exact .inr (.inr (decide_eq_true q)))).mono fun _ _ ⟨a, b⟩ => ⟨a, s, b, hI'⟩
  ·have hin : 1 + x.l ≤ n ∧ n < x.b := by omega
   have hout : ¬ outB y n := by unfold outB; rw [hyl, hyb]; omega
   have hwl : y.wrote.length ≤ 1000000 := by
    have := h.wl
    omega
   cases hby : byB x n x.steps
   ·have hnw : n ∉ y.wrote := fun q => by rw [(h.mt.wrote ho n).1 q] at hby; cases hby
    by_cases hz : x.room = 0
    ·refine ⟨181, (two_live (fun W ks hL => ?_) fun W l' hL => hL.write_tight h.rch hys (by rw [hyl]; exact hl2) hout hwl hnw (by omega)).mono (h.same (by omega))⟩
     obtain ⟨s, hs, hI'⟩ := hL
     exact (writeL_tight hs (h.ref0 ho) hin hl2.1 hI.fine.2.2.2.2.1 hby hz).mono fun _ _ ⟨a, b⟩ => ⟨a, s, b, hI'⟩
    ·exact ⟨0, (two_live (fun W ks hL => hL.write hf (h.ref0 ho) hin hby hz) fun W l' hL => hL.write_ok h.rch hys (by rw [hyl]; exact hl2) hout hwl hgl (.inr (by omega))).mono (h.logs (h.mt.first ho hI.nd (hI.last n) hby) rfl ⟨rfl, rfl, rfl⟩ ⟨by show x.steps ≤ _; omega, by show x.commits ≤ _; omega⟩ (rWr_len _ _ _) (by omega))⟩
   ·exact ⟨0, (two_live (fun W ks hL => hL.rewrite hf (h.ref0 ho) hin hby) fun W l' hL => hL.write_ok h.rch hys (by rw [hyl]; exact hl2) hout hwl hgl (.inl ((h.mt.wrote ho n).2 hby))).mono (h.logs (h.mt.again ho hI.nd (hI.last n) hby) rfl ⟨rfl, rfl, rfl⟩ ⟨by omega, by omega⟩ (rWr_len _ _ _) (by omega))⟩
end
section
variable {w W : World} {g d c mb : Nat} {v : Value} {x : LSt} {s : CSt} {t : St} {os ks : List (Nat × Obj)} {base : Nat} {book : Int → Nat → Int}
theorem LogI.used (h : LogI w W g d x t book ks) (hc : chkE x t = 0) : Calls Tryz.prog 23 #[.pointer (some ⟨g, 0, none⟩)] W fun e W' => e = .returned (.int .i64 (x.blocks.length : Int)) ∧ LogI w W' g d x t book ks := by
 have H0 := Hid.mk' h
 obtain ⟨s, ⟨c, mb, v, os, h⟩, hI⟩ := h
 have h0 := h.check
 have c1 : ∀ m, (W.drewN m).cell? ⟨g, 13, none⟩ = some v := fun m => (h.log.later (below_drewN W m)).c13
 obtain ⟨p, cp, hv, _, _, _⟩ := h.log.own.ints
 subst hv
 clear h hI
 unfold ptr at *
 rw [hc] at h0
 go_enter Tryz.func23, Tryz.ntmps23
 go_wp2_with (first | (go_at_call 50; refine h0.mono ?_; rintro e W1 ⟨rfl, m, rfl⟩; have c1 := c1 m))
 go_ret
 exact ⟨rfl, H0.out.later (below_drewN W m)⟩
theorem LogI.commits (h : LogI w W g d x t book ks) (hc : chkE x t = 0) : Calls Tryz.prog 27 #[.pointer (some ⟨g, 0, none⟩)] W fun e W' => e = .returned (.int .i64 x.commits) ∧ LogI w W' g d x t book ks := by
 have H0 := Hid.mk' h
 obtain ⟨s, ⟨c, mb, v, os, h⟩, hI⟩ := h
 have h0 := h.check
 have c1 : ∀ m, (W.drewN m).cell? ⟨g, 17, none⟩ = some (.int .i64 x.commits) := fun m => (h.log.later (below_drewN W m)).c17
 clear h hI
 unfold ptr at *
 rw [hc] at h0
 go_enter Tryz.func27, Tryz.ntmps27
 go_wp2_with (first | (go_at_call 50; refine h0.mono ?_; rintro e W1 ⟨rfl, m, rfl⟩; have c1 := c1 m))
 go_ret
 exact ⟨rfl, H0.out.later (below_drewN W m)⟩
theorem LogI.steps (h : LogI w W g d x t book ks) (hc : chkE x t = 0) : Calls Tryz.prog 24 #[.pointer (some ⟨g, 0, none⟩)] W fun e W' => e = .returned (.int .i64 x.steps) ∧ LogI w W' g d x t book ks := by
 have H0 := Hid.mk' h
 obtain ⟨s, ⟨c, mb, v, os, h⟩, hI⟩ := h
 have h0 := h.check
 have c1 : ∀ m, (W.drewN m).cell? ⟨g, 18, none⟩ = some (.int .i64 x.steps) := fun m => (h.log.later (below_drewN W m)).c18
 clear h hI
 unfold ptr at *
 rw [hc] at h0
 go_enter Tryz.func24, Tryz.ntmps24
 go_wp2_with (first | (go_at_call 50; refine h0.mono ?_; rintro e W1 ⟨rfl, m, rfl⟩; have c1 := c1 m))
 go_ret
 exact ⟨rfl, H0.out.later (below_drewN W m)⟩
set_option maxHeartbeats 800000 in
theorem LogI.isOpen (h : LogI w W g d x t book ks) (hc : chkE x t = 0) : Calls Tryz.prog 55 #[.pointer (some ⟨g, 0, none⟩)] W fun e W' => e = .returned (.bool x.opn) ∧ LogI w W' g d x t book ks := by
 have H0 := Hid.mk' h
 obtain ⟨s, ⟨c, mb, v, os, h⟩, hI⟩ := h
 have h0 := h.check
 have c1 : ∀ m, (W.drewN m).cell? ⟨g, 15, none⟩ = some (.bool x.opn) := fun m => (h.log.later (below_drewN W m)).c15
 clear h hI
 unfold ptr at *
 rw [hc] at h0
 generalize x.opn = o at *
 go_enter Tryz.func55, Tryz.ntmps55
 go_wp2_with (first | (go_at_call 50; refine h0.mono ?_; rintro e W1 ⟨rfl, m, rfl⟩; have c1 := c1 m))
 go_ret
 exact ⟨rfl, H0.out.later (below_drewN W m)⟩
end
theorem pick_any (i n : Int) (hn : 1 ≤ n ∧ n ≤ 1048576) (w : World) : Calls Tryz.prog 33 #[.int .i64 i, .int .i64 n] w fun e w' => e = .returned (.int .i64 (i % n)) ∧ w' = w := by
 have h0 : n ≠ 0 := by omega
 have hb : -n < Int.tmod i n ∧ Int.tmod i n < n := by
  have h1 := Int.natAbs_tmod i n
  have h2 : (Int.tmod i n).natAbs < n.natAbs := by
   rw [Int.natAbs_tmod]
   exact Nat.mod_lt _ (by omega)
  omega
 have hw : IntKind.i64.wrap (Int.tmod i n) = Int.tmod i n := by rw [IntKind.wrap_i64]; omega
 have hm : Int.tmod i n % n = i % n := by
  have h1 := Int.tmod_add_mul_tdiv i n
  have h2 : i % n = (Int.tmod i n + n * Int.tdiv i n) % n := by rw [h1]
  rw [h2, Int.add_mul_emod_self_left]
 by_cases hneg : Int.tmod i n < 0
 ·have he : Int.tmod i n + n = i % n := by
   rw [← hm, ← Int.add_emod_right, Int.emod_eq_of_lt (by omega) (by omega)]
  have hw2 : IntKind.i64.wrap (Int.tmod i n + n) = Int.tmod i n + n := by rw [IntKind.wrap_i64]; omega
  rw [← he]
  clear hm he
  go_enter Tryz.func33, Tryz.ntmps33
  go_wp2
  go_ret
  exact ⟨rfl, rfl⟩
 ·have he : Int.tmod i n = i % n := by rw [← hm, Int.emod_eq_of_lt (by omega) (by omega)]
  rw [← he]
  clear hm he
  go_enter Tryz.func33, Tryz.ntmps33
  go_wp2
  go_ret
  exact ⟨rfl, rfl⟩
set_option maxRecDepth 20000 in
set_option maxHeartbeats 1000000 in
theorem block_any (v : Int) (hv : 0 ≤ v ∧ v ≤ 255) (w : World) : Calls Tryz.prog 21 #[.int .u8 v] w fun e w' => e = .returned (.agg (blk (blkF v))) ∧ Below w.heap.size w w' := by
 have z25 := zero25
 have hset := blk_set
 have hg0 := fun f => blk_get f 0 (by omega)
 have hg1 := fun f => blk_get f 1023 (by omega)
 have HF : Hid (blk (blkF v) = blk (upd (upd nought 0 v) 1023 (v / 2))) := rfl
 have hq : IntKind.u8.wrap (v.tdiv 2) = v / 2 := by
  rw [IntKind.wrap_u8, Int.tdiv_eq_ediv_of_nonneg hv.1]
  omega
 generalize blk (blkF v) = R at *
 go_enter Tryz.func21, Tryz.ntmps21
 go_wp2_with (first | refine wpList_load25 rfl _ rfl _ rfl _ (heap_alloc2_new _ _ _) ?_ | refine wpList_store25 rfl _ _ rfl _ _ rfl rfl _ (heap_alloc2_old _ _ _) ?_)
 exact ret25 rfl w.heap.size _ rfl (setRow_heap _ _ _ _ _ _ (heap_alloc2_old _ _ _)) rfl ⟨by rw [HF.out], below_setRow (((Below.refl _ _).alloc (Nat.le_refl _) _).alloc (by simp) _) (Nat.le_refl _) _⟩
theorem exec_zero59 {o : Oper} {a : Act} {W : World} (ho : o.op = .build 59 #[]) : (execOp a.eval o).run Tryz.prog W = .ok (.value (.agg (H.lay9 0 0 0 0 0 0 0 0 0))) W := by
 simp [execOp, ho, Instr.build, Result.andThen]
 rfl
theorem isBuild59 {ops : Array Oper} {rest : List Oper} {a : Act} {w : World} {Q : Exit → Act → World → Prop} {dst : Option Tmp} {ty : TypeId} {pos : String} {aft : Array Edge} {gd : Option (Nat × Bool)} (h : wpList Tryz.prog ops Q (⟨dst, .build 59 #[], ty, pos, aft, gd⟩ :: rest) a w) : wpList Tryz.prog ops Q (⟨dst, .build 59 #[], ty, pos, aft, gd⟩ :: rest) a w := h
section
variable {x0 x1 x2 x3 x4 x5 x6 x7 x8 E : Int}
set_option maxRecDepth 20000 in
set_option maxHeartbeats 2000000 in
theorem where_1 (b l i : Int) (hc : ∀ w, Calls Tryz.prog 73 #[H.geoV b l i] w fun e w' => e = .returned (.tuple #[.agg (H.lay9 x0 x1 x2 x3 x4 x5 x6 x7 x8), .int .i64 E]) ∧ Below w.heap.size w w') (hx : 0 ≤ x1 ∧ x1 ≤ 4000000) (w : World) : Calls Tryz.prog 18 #[H.geoV b l i, .int .i64 1] w fun e w' => e = .returned (.agg (H.lay9 x0 (x1 + 1) x2 x3 x4 x5 x6 x7 x8)) ∧ Below w.heap.size w w' := by
 unfold H.geoV at *
 go_enter Tryz.func18, Tryz.ntmps18
 go_wp2_with (first | (go_at_call 73; fail))
 refine (hc _).mono ?_
 rintro e' W1 ⟨rfl, hb1⟩
 have h4 := heap_kept (heap_alloc2_new w _ _) hb1
 have HB1 : Hid (Below w.heap.size w W1) := below_next (H.bel_al (below_new _ _) _) hb1
 have hsz : w.heap.size + 1 < W1.heap.size := (Array.getElem?_eq_some_iff.1 h4).1
 have hV := heap_alloc_new W1 (.cells (H.lay9 x0 x1 x2 x3 x4 x5 x6 x7 x8) 59)
 have h4' := heap_kept h4 (below_new W1 (.cells (H.lay9 x0 x1 x2 x3 x4 x5 x6 x7 x8) 59))
 have HB2 : Hid (Below w.heap.size w (W1.alloc (.cells (H.lay9 x0 x1 x2 x3 x4 x5 x6 x7 x8) 59))) := H.bel_al HB1.out _
 have hsz2 : w.heap.size ≤ W1.heap.size := by omega
 clear hb1 hc
 have c1 : (W1.alloc (.cells (H.lay9 x0 x1 x2 x3 x4 x5 x6 x7 x8) 59)).cell? ⟨W1.heap.size, 1, none⟩ = some (.int .i64 x1) := Joins.cell_of_block hV 1
 have c2 : (W1.alloc (.cells (H.lay9 x0 x1 x2 x3 x4 x5 x6 x7 x8) 59)).frozen? ⟨W1.heap.size, 1, none⟩ = false := Joins.unfrozen_of_block hV 1
 have h5 : (W1.alloc (.cells ((H.lay9 x0 x1 x2 x3 x4 x5 x6 x7 x8).setIfInBounds 1 (.int .i64 (x1 + 1))) 59)).heap[W1.heap.size]? = some (.cells (H.lay9 x0 (x1 + 1) x2 x3 x4 x5 x6 x7 x8) 59) := heap_alloc_new _ _
 have h6 : (W1.alloc (.cells ((H.lay9 x0 x1 x2 x3 x4 x5 x6 x7 x8).setIfInBounds 1 (.int .i64 (x1 + 1))) 59)).heap[w.heap.size + 1]? = some (.cells (H.lay9 0 0 0 0 0 0 0 0 0) 59) := heap_kept h4 (below_new W1 _)
 have HB3 : Hid (Below w.heap.size w (W1.alloc (.cells ((H.lay9 x0 x1 x2 x3 x4 x5 x6 x7 x8).setIfInBounds 1 (.int .i64 (x1 + 1))) 59))) := H.bel_al HB1.out _
 clear hV h4 h4' HB1 HB2
 go_wp2_with (first | (with_reducible refine H.isStore 59 ?_; refine H.wpList_storeL_new rfl (.tmp 5) _ rfl _ _ rfl rfl (by simp [H.lay9, Value.oneCell']) _ rfl rfl rfl ?_) | (with_reducible refine H.isLoad 59 ?_; refine H.wpList_loadL rfl _ rfl _ rfl _ rfl h5 ?_) | (with_reducible refine H.isStore 59 ?_; refine wpList_storeL rfl (.tmp 4) _ rfl _ _ _ rfl rfl h6 rfl rfl (by simp [H.lay9, Value.oneCell']) ?_))
 exact retL rfl (w.heap.size + 1) _ rfl rfl (setRow_heap _ _ _ _ _ _ h6) rfl ⟨rfl, below_setRow HB3.out (by omega) _⟩
set_option maxRecDepth 20000 in
set_option maxHeartbeats 2000000 in
theorem where_2 (b l i : Int) (hc : ∀ w, Calls Tryz.prog 73 #[H.geoV b l i] w fun e w' => e = .returned (.tuple #[.agg (H.lay9 x0 x1 x2 x3 x4 x5 x6 x7 x8), .int .i64 E]) ∧ Below w.heap.size w w') (hx : 0 ≤ x3 ∧ x3 ≤ 4000000) (w : World) : Calls Tryz.prog 18 #[H.geoV b l i, .int .i64 2] w fun e w' => e = .returned (.agg (H.lay9 x0 x1 x2 (x3 + 1) x4 x5 x6 x7 x8)) ∧ Below w.heap.size w w' := by
 unfold H.geoV at *
 go_enter Tryz.func18, Tryz.ntmps18
 go_wp2_with (first | (go_at_call 73; fail))
 refine (hc _).mono ?_
 rintro e' W1 ⟨rfl, hb1⟩
 have h4 := heap_kept (heap_alloc2_new w _ _) hb1
 have HB1 : Hid (Below w.heap.size w W1) := below_next (H.bel_al (below_new _ _) _) hb1
 have hsz : w.heap.size + 1 < W1.heap.size := (Array.getElem?_eq_some_iff.1 h4).1
 have hV := heap_alloc_new W1 (.cells (H.lay9 x0 x1 x2 x3 x4 x5 x6 x7 x8) 59)
 have h4' := heap_kept h4 (below_new W1 (.cells (H.lay9 x0 x1 x2 x3 x4 x5 x6 x7 x8) 59))
 have HB2 : Hid (Below w.heap.size w (W1.alloc (.cells (H.lay9 x0 x1 x2 x3 x4 x5 x6 x7 x8) 59))) := H.bel_al HB1.out _
 have hsz2 : w.heap.size ≤ W1.heap.size := by omega
 clear hb1 hc
 have c1 : (W1.alloc (.cells (H.lay9 x0 x1 x2 x3 x4 x5 x6 x7 x8) 59)).cell? ⟨W1.heap.size, 3, none⟩ = some (.int .i64 x3) := Joins.cell_of_block hV 3
 have c2 : (W1.alloc (.cells (H.lay9 x0 x1 x2 x3 x4 x5 x6 x7 x8) 59)).frozen? ⟨W1.heap.size, 3, none⟩ = false := Joins.unfrozen_of_block hV 3
 have h5 : (W1.alloc (.cells ((H.lay9 x0 x1 x2 x3 x4 x5 x6 x7 x8).setIfInBounds 3 (.int .i64 (x3 + 1))) 59)).heap[W1.heap.size]? = some (.cells (H.lay9 x0 x1 x2 (x3 + 1) x4 x5 x6 x7 x8) 59) := heap_alloc_new _ _
 have h6 : (W1.alloc (.cells ((H.lay9 x0 x1 x2 x3 x4 x5 x6 x7 x8).setIfInBounds 3 (.int .i64 (x3 + 1))) 59)).heap[w.heap.size + 1]? = some (.cells (H.lay9 0 0 0 0 0 0 0 0 0) 59) := heap_kept h4 (below_new W1 _)
 have HB3 : Hid (Below w.heap.size w (W1.alloc (.cells ((H.lay9 x0 x1 x2 x3 x4 x5 x6 x7 x8).setIfInBounds 3 (.int .i64 (x3 + 1))) 59))) := H.bel_al HB1.out _
 clear hV h4 h4' HB1 HB2
 go_wp2_with (first | (with_reducible refine H.isStore 59 ?_; refine H.wpList_storeL_new rfl (.tmp 5) _ rfl _ _ rfl rfl (by simp [H.lay9, Value.oneCell']) _ rfl rfl rfl ?_) | (with_reducible refine H.isLoad 59 ?_; refine H.wpList_loadL rfl _ rfl _ rfl _ rfl h5 ?_) | (with_reducible refine H.isStore 59 ?_; refine wpList_storeL rfl (.tmp 4) _ rfl _ _ _ rfl rfl h6 rfl rfl (by simp [H.lay9, Value.oneCell']) ?_))
 exact retL rfl (w.heap.size + 1) _ rfl rfl (setRow_heap _ _ _ _ _ _ h6) rfl ⟨rfl, below_setRow HB3.out (by omega) _⟩
set_option maxRecDepth 20000 in
set_option maxHeartbeats 2000000 in
theorem where_3 (b l i : Int) (hc : ∀ w, Calls Tryz.prog 73 #[H.geoV b l i] w fun e w' => e = .returned (.tuple #[.agg (H.lay9 x0 x1 x2 x3 x4 x5 x6 x7 x8), .int .i64 E]) ∧ Below w.heap.size w w') (hx : 0 ≤ x4 ∧ x4 ≤ 4000000) (w : World) : Calls Tryz.prog 18 #[H.geoV b l i, .int .i64 3] w fun e w' => e = .returned (.agg (H.lay9 x0 x1 x2 x3 (x4 + 1) x5 x6 x7 x8)) ∧ Below w.heap.size w w' := by
 unfold H.geoV at *
 go_enter Tryz.func18, Tryz.ntmps18
 go_wp2_with (first | (go_at_call 73; fail))
 refine (hc _).mono ?_
 rintro e' W1 ⟨rfl, hb1⟩
 have h4 := heap_kept (heap_alloc2_new w _ _) hb1
 have HB1 : Hid (Below w.heap.size w W1) := below_next (H.bel_al (below_new _ _) _) hb1
 have hsz : w.heap.size + 1 < W1.heap.size := (Array.getElem?_eq_some_iff.1 h4).1
 have hV := heap_alloc_new W1 (.cells (H.lay9 x0 x1 x2 x3 x4 x5 x6 x7 x8) 59)
 have h4' := heap_kept h4 (below_new W1 (.cells (H.lay9 x0 x1 x2 x3 x4 x5 x6 x7 x8) 59))
 have HB2 : Hid (Below w.heap.size w (W1.alloc (.cells (H.lay9 x0 x1 x2 x3 x4 x5 x6 x7 x8) 59))) := H.bel_al HB1.out _
 have hsz2 : w.heap.size ≤ W1.heap.size := by omega
 clear hb1 hc
 have c1 : (W1.alloc (.cells (H.lay9 x0 x1 x2 x3 x4 x5 x6 x7 x8) 59)).cell? ⟨W1.heap.size, 4, none⟩ = some (.int .i64 x4) := Joins.cell_of_block hV 4
 have c2 : (W1.alloc (.cells (H.lay9 x0 x1 x2 x3 x4 x5 x6 x7 x8) 59)).frozen? ⟨W1.heap.size, 4, none⟩ = false := Joins.unfrozen_of_block hV 4
 have h5 : (W1.alloc (.cells ((H.lay9 x0 x1 x2 x3 x4 x5 x6 x7 x8).setIfInBounds 4 (.int .i64 (x4 + 1))) 59)).heap[W1.heap.size]? = some (.cells (H.lay9 x0 x1 x2 x3 (x4 + 1) x5 x6 x7 x8) 59) := heap_alloc_new _ _
 have h6 : (W1.alloc (.cells ((H.lay9 x0 x1 x2 x3 x4 x5 x6 x7 x8).setIfInBounds 4 (.int .i64 (x4 + 1))) 59)).heap[w.heap.size + 1]? = some (.cells (H.lay9 0 0 0 0 0 0 0 0 0) 59) := heap_kept h4 (below_new W1 _)
 have HB3 : Hid (Below w.heap.size w (W1.alloc (.cells ((H.lay9 x0 x1 x2 x3 x4 x5 x6 x7 x8).setIfInBounds 4 (.int .i64 (x4 + 1))) 59))) := H.bel_al HB1.out _
 clear hV h4 h4' HB1 HB2
 go_wp2_with (first | (with_reducible refine H.isStore 59 ?_; refine H.wpList_storeL_new rfl (.tmp 5) _ rfl _ _ rfl rfl (by simp [H.lay9, Value.oneCell']) _ rfl rfl rfl ?_) | (with_reducible refine H.isLoad 59 ?_; refine H.wpList_loadL rfl _ rfl _ rfl _ rfl h5 ?_) | (with_reducible refine H.isStore 59 ?_; refine wpList_storeL rfl (.tmp 4) _ rfl _ _ _ rfl rfl h6 rfl rfl (by simp [H.lay9, Value.oneCell']) ?_))
 exact retL rfl (w.heap.size + 1) _ rfl rfl (setRow_heap _ _ _ _ _ _ h6) rfl ⟨rfl, below_setRow HB3.out (by omega) _⟩
set_option maxRecDepth 20000 in
set_option maxHeartbeats 2000000 in
theorem where_4 (b l i : Int) (hc : ∀ w, Calls Tryz.prog 73 #[H.geoV b l i] w fun e w' => e = .returned (.tuple #[.agg (H.lay9 x0 x1 x2 x3 x4 x5 x6 x7 x8), .int .i64 E]) ∧ Below w.heap.size w w') (hx : 0 ≤ x6 ∧ x6 ≤ 4000000) (w : World) : Calls Tryz.prog 18 #[H.geoV b l i, .int .i64 4] w fun e w' => e = .returned (.agg (H.lay9 x0 x1 x2 x3 x4 x5 (x6 - 1) x7 x8)) ∧ Below w.heap.size w w' := by
 unfold H.geoV at *
 go_enter Tryz.func18, Tryz.ntmps18
 go_wp2_with (first | (go_at_call 73; fail))
 refine (hc _).mono ?_
 rintro e' W1 ⟨rfl, hb1⟩
 have h4 := heap_kept (heap_alloc2_new w _ _) hb1
 have HB1 : Hid (Below w.heap.size w W1) := below_next (H.bel_al (below_new _ _) _) hb1
 have hsz : w.heap.size + 1 < W1.heap.size := (Array.getElem?_eq_some_iff.1 h4).1
 have hV := heap_alloc_new W1 (.cells (H.lay9 x0 x1 x2 x3 x4 x5 x6 x7 x8) 59)
 have h4' := heap_kept h4 (below_new W1 (.cells (H.lay9 x0 x1 x2 x3 x4 x5 x6 x7 x8) 59))
 have HB2 : Hid (Below w.heap.size w (W1.alloc (.cells (H.lay9 x0 x1 x2 x3 x4 x5 x6 x7 x8) 59))) := H.bel_al HB1.out _
 have hsz2 : w.heap.size ≤ W1.heap.size := by omega
 clear hb1 hc
 have c1 : (W1.alloc (.cells (H.lay9 x0 x1 x2 x3 x4 x5 x6 x7 x8) 59)).cell? ⟨W1.heap.size, 6, none⟩ = some (.int .i64 x6) := Joins.cell_of_block hV 6
 have c2 : (W1.alloc (.cells (H.lay9 x0 x1 x2 x3 x4 x5 x6 x7 x8) 59)).frozen? ⟨W1.heap.size, 6, none⟩ = false := Joins.unfrozen_of_block hV 6
 have h5 : (W1.alloc (.cells ((H.lay9 x0 x1 x2 x3 x4 x5 x6 x7 x8).setIfInBounds 6 (.int .i64 (x6 - 1))) 59)).heap[W1.heap.size]? = some (.cells (H.lay9 x0 x1 x2 x3 x4 x5 (x6 - 1) x7 x8) 59) := heap_alloc_new _ _
 have h6 : (W1.alloc (.cells ((H.lay9 x0 x1 x2 x3 x4 x5 x6 x7 x8).setIfInBounds 6 (.int .i64 (x6 - 1))) 59)).heap[w.heap.size + 1]? = some (.cells (H.lay9 0 0 0 0 0 0 0 0 0) 59) := heap_kept h4 (below_new W1 _)
 have HB3 : Hid (Below w.heap.size w (W1.alloc (.cells ((H.lay9 x0 x1 x2 x3 x4 x5 x6 x7 x8).setIfInBounds 6 (.int .i64 (x6 - 1))) 59))) := H.bel_al HB1.out _
 clear hV h4 h4' HB1 HB2
 go_wp2_with (first | (with_reducible refine H.isStore 59 ?_; refine H.wpList_storeL_new rfl (.tmp 5) _ rfl _ _ rfl rfl (by simp [H.lay9, Value.oneCell']) _ rfl rfl rfl ?_) | (with_reducible refine H.isLoad 59 ?_; refine H.wpList_loadL rfl _ rfl _ rfl _ rfl h5 ?_) | (with_reducible refine H.isStore 59 ?_; refine wpList_storeL rfl (.tmp 4) _ rfl _ _ _ rfl rfl h6 rfl rfl (by simp [H.lay9, Value.oneCell']) ?_))
 exact retL rfl (w.heap.size + 1) _ rfl rfl (setRow_heap _ _ _ _ _ _ h6) rfl ⟨rfl, below_setRow HB3.out (by omega) _⟩
set_option maxRecDepth 20000 in
set_option maxHeartbeats 2000000 in
theorem where_5 (b l i : Int) (hc : ∀ w, Calls Tryz.prog 73 #[H.geoV b l i] w fun e w' => e = .returned (.tuple #[.agg (H.lay9 x0 x1 x2 x3 x4 x5 x6 x7 x8), .int .i64 E]) ∧ Below w.heap.size w w') (hx : 0 ≤ x8 ∧ x8 ≤ 4000000) (w : World) : Calls Tryz.prog 18 #[H.geoV b l i, .int .i64 5] w fun e w' => e = .returned (.agg (H.lay9 x0 x1 x2 x3 x4 x5 x6 x7 (x8 + 1))) ∧ Below w.heap.size w w' := by
 unfold H.geoV at *
 go_enter Tryz.func18, Tryz.ntmps18
 go_wp2_with (first | (go_at_call 73; fail))
 refine (hc _).mono ?_
 rintro e' W1 ⟨rfl, hb1⟩
 have h4 := heap_kept (heap_alloc2_new w _ _) hb1
 have HB1 : Hid (Below w.heap.size w W1) := below_next (H.bel_al (below_new _ _) _) hb1
 have hsz : w.heap.size + 1 < W1.heap.size := (Array.getElem?_eq_some_iff.1 h4).1
 have hV := heap_alloc_new W1 (.cells (H.lay9 x0 x1 x2 x3 x4 x5 x6 x7 x8) 59)
 have h4' := heap_kept h4 (below_new W1 (.cells (H.lay9 x0 x1 x2 x3 x4 x5 x6 x7 x8) 59))
 have HB2 : Hid (Below w.heap.size w (W1.alloc (.cells (H.lay9 x0 x1 x2 x3 x4 x5 x6 x7 x8) 59))) := H.bel_al HB1.out _
 have hsz2 : w.heap.size ≤ W1.heap.size := by omega
 clear hb1 hc
 have c1 : (W1.alloc (.cells (H.lay9 x0 x1 x2 x3 x4 x5 x6 x7 x8) 59)).cell? ⟨W1.heap.size, 8, none⟩ = some (.int .i64 x8) := Joins.cell_of_block hV 8
 have c2 : (W1.alloc (.cells (H.lay9 x0 x1 x2 x3 x4 x5 x6 x7 x8) 59)).frozen? ⟨W1.heap.size, 8, none⟩ = false := Joins.unfrozen_of_block hV 8
 have h5 : (W1.alloc (.cells ((H.lay9 x0 x1 x2 x3 x4 x5 x6 x7 x8).setIfInBounds 8 (.int .i64 (x8 + 1))) 59)).heap[W1.heap.size]? = some (.cells (H.lay9 x0 x1 x2 x3 x4 x5 x6 x7 (x8 + 1)) 59) := heap_alloc_new _ _
 have h6 : (W1.alloc (.cells ((H.lay9 x0 x1 x2 x3 x4 x5 x6 x7 x8).setIfInBounds 8 (.int .i64 (x8 + 1))) 59)).heap[w.heap.size + 1]? = some (.cells (H.lay9 0 0 0 0 0 0 0 0 0) 59) := heap_kept h4 (below_new W1 _)
 have HB3 : Hid (Below w.heap.size w (W1.alloc (.cells ((H.lay9 x0 x1 x2 x3 x4 x5 x6 x7 x8).setIfInBounds 8 (.int .i64 (x8 + 1))) 59))) := H.bel_al HB1.out _
 clear hV h4 h4' HB1 HB2
 go_wp2_with (first | (with_reducible refine H.isStore 59 ?_; refine H.wpList_storeL_new rfl (.tmp 5) _ rfl _ _ rfl rfl (by simp [H.lay9, Value.oneCell']) _ rfl rfl rfl ?_) | (with_reducible refine H.isLoad 59 ?_; refine H.wpList_loadL rfl _ rfl _ rfl _ rfl h5 ?_) | (with_reducible refine H.isStore 59 ?_; refine wpList_storeL rfl (.tmp 4) _ rfl _ _ _ rfl rfl h6 rfl rfl (by simp [H.lay9, Value.oneCell']) ?_))
 exact retL rfl (w.heap.size + 1) _ rfl rfl (setRow_heap _ _ _ _ _ _ h6) rfl ⟨rfl, below_setRow HB3.out (by omega) _⟩
set_option maxRecDepth 20000 in
set_option maxHeartbeats 2000000 in
theorem where_6 (b l i : Int) (hc : ∀ w, Calls Tryz.prog 73 #[H.geoV b l i] w fun e w' => e = .returned (.tuple #[.agg (H.lay9 x0 x1 x2 x3 x4 x5 x6 x7 x8), .int .i64 E]) ∧ Below w.heap.size w w') (hx : 0 ≤ x0 ∧ x0 ≤ 4000000) (w : World) : Calls Tryz.prog 18 #[H.geoV b l i, .int .i64 6] w fun e w' => e = .returned (.agg (H.lay9 (x0 + 1) x1 x2 x3 x4 x5 x6 x7 x8)) ∧ Below w.heap.size w w' := by
 unfold H.geoV at *
 go_enter Tryz.func18, Tryz.ntmps18
 go_wp2_with (first | (go_at_call 73; fail))
 refine (hc _).mono ?_
 rintro e' W1 ⟨rfl, hb1⟩
 have h4 := heap_kept (heap_alloc2_new w _ _) hb1
 have HB1 : Hid (Below w.heap.size w W1) := below_next (H.bel_al (below_new _ _) _) hb1
 have hsz : w.heap.size + 1 < W1.heap.size := (Array.getElem?_eq_some_iff.1 h4).1
 have hV := heap_alloc_new W1 (.cells (H.lay9 x0 x1 x2 x3 x4 x5 x6 x7 x8) 59)
 have h4' := heap_kept h4 (below_new W1 (.cells (H.lay9 x0 x1 x2 x3 x4 x5 x6 x7 x8) 59))
 have HB2 : Hid (Below w.heap.size w (W1.alloc (.cells (H.lay9 x0 x1 x2 x3 x4 x5 x6 x7 x8) 59))) := H.bel_al HB1.out _
 have hsz2 : w.heap.size ≤ W1.heap.size := by omega
 clear hb1 hc
 have c1 : (W1.alloc (.cells (H.lay9 x0 x1 x2 x3 x4 x5 x6 x7 x8) 59)).cell? ⟨W1.heap.size, 0, none⟩ = some (.int .i64 x0) := Joins.cell_of_block hV 0
 have c2 : (W1.alloc (.cells (H.lay9 x0 x1 x2 x3 x4 x5 x6 x7 x8) 59)).frozen? ⟨W1.heap.size, 0, none⟩ = false := Joins.unfrozen_of_block hV 0
 have h5 : (W1.alloc (.cells ((H.lay9 x0 x1 x2 x3 x4 x5 x6 x7 x8).setIfInBounds 0 (.int .i64 (x0 + 1))) 59)).heap[W1.heap.size]? = some (.cells (H.lay9 (x0 + 1) x1 x2 x3 x4 x5 x6 x7 x8) 59) := heap_alloc_new _ _
 have h6 : (W1.alloc (.cells ((H.lay9 x0 x1 x2 x3 x4 x5 x6 x7 x8).setIfInBounds 0 (.int .i64 (x0 + 1))) 59)).heap[w.heap.size + 1]? = some (.cells (H.lay9 0 0 0 0 0 0 0 0 0) 59) := heap_kept h4 (below_new W1 _)
 have HB3 : Hid (Below w.heap.size w (W1.alloc (.cells ((H.lay9 x0 x1 x2 x3 x4 x5 x6 x7 x8).setIfInBounds 0 (.int .i64 (x0 + 1))) 59))) := H.bel_al HB1.out _
 clear hV h4 h4' HB1 HB2
 go_wp2_with (first | (with_reducible refine H.isStore 59 ?_; refine H.wpList_storeL_new rfl (.tmp 5) _ rfl _ _ rfl rfl (by simp [H.lay9, Value.oneCell']) _ rfl rfl rfl ?_) | (with_reducible refine H.isLoad 59 ?_; refine H.wpList_loadL rfl _ rfl _ rfl _ rfl h5 ?_) | (with_reducible refine H.isStore 59 ?_; refine wpList_storeL rfl (.tmp 4) _ rfl _ _ _ rfl rfl h6 rfl rfl (by simp [H.lay9, Value.oneCell']) ?_))
 exact retL rfl (w.heap.size + 1) _ rfl rfl (setRow_heap _ _ _ _ _ _ h6) rfl ⟨rfl, below_setRow HB3.out (by omega) _⟩
set_option maxRecDepth 20000 in
set_option maxHeartbeats 2000000 in
theorem where_7 (b l i : Int) (hc : ∀ w, Calls Tryz.prog 73 #[H.geoV b l i] w fun e w' => e = .returned (.tuple #[.agg (H.lay9 x0 x1 x2 x3 x4 x5 x6 x7 x8), .int .i64 E]) ∧ Below w.heap.size w w') (w : World) : Calls Tryz.prog 18 #[H.geoV b l i, .int .i64 7] w fun e w' => e = .returned (.agg (H.lay9 0 0 0 0 0 0 0 0 0)) ∧ Below w.heap.size w w' := by
 unfold H.geoV at *
 go_enter Tryz.func18, Tryz.ntmps18
 go_wp2_with (first | (go_at_call 73; fail))
 refine (hc _).mono ?_
 rintro e' W1 ⟨rfl, hb1⟩
 have h4 := heap_kept (heap_alloc2_new w _ _) hb1
 have HB1 : Hid (Below w.heap.size w W1) := below_next (H.bel_al (below_new _ _) _) hb1
 have hsz : w.heap.size + 1 < W1.heap.size := (Array.getElem?_eq_some_iff.1 h4).1
 have hV := heap_alloc_new W1 (.cells (H.lay9 x0 x1 x2 x3 x4 x5 x6 x7 x8) 59)
 have h4' := heap_kept h4 (below_new W1 (.cells (H.lay9 x0 x1 x2 x3 x4 x5 x6 x7 x8) 59))
 have HB2 : Hid (Below w.heap.size w (W1.alloc (.cells (H.lay9 x0 x1 x2 x3 x4 x5 x6 x7 x8) 59))) := H.bel_al HB1.out _
 have hsz2 : w.heap.size ≤ W1.heap.size := by omega
 clear hb1 hc
 have h5 : (W1.alloc (.cells (H.lay9 0 0 0 0 0 0 0 0 0) 59)).heap[W1.heap.size]? = some (.cells (H.lay9 0 0 0 0 0 0 0 0 0) 59) := heap_alloc_new _ _
 have h6 : (W1.alloc (.cells (H.lay9 0 0 0 0 0 0 0 0 0) 59)).heap[w.heap.size + 1]? = some (.cells (H.lay9 0 0 0 0 0 0 0 0 0) 59) := heap_kept h4 (below_new W1 _)
 have HB3 : Hid (Below w.heap.size w (W1.alloc (.cells (H.lay9 0 0 0 0 0 0 0 0 0) 59))) := H.bel_al HB1.out _
 clear h4 h4' HB1 HB2
 go_wp2_with (first | (with_reducible refine H.isStore 59 ?_; refine H.wpList_storeL_new rfl (.tmp 5) _ rfl _ _ rfl rfl (by simp [H.lay9, Value.oneCell']) _ rfl rfl rfl ?_) | (with_reducible refine isBuild59 ?_; refine wpList_ex8 rfl (exec_zero59 rfl) ?_) | (with_reducible refine H.isLoad 59 ?_; refine H.wpList_loadL rfl _ rfl _ rfl _ rfl h5 ?_) | (with_reducible refine H.isStore 59 ?_; refine wpList_storeL rfl (.tmp 4) _ rfl _ _ _ rfl rfl h6 rfl rfl (by simp [H.lay9, Value.oneCell']) ?_))
 exact retL rfl (w.heap.size + 1) _ rfl rfl (setRow_heap _ _ _ _ _ _ h6) rfl ⟨rfl, below_setRow HB3.out (by omega) _⟩
set_option maxRecDepth 20000 in
set_option maxHeartbeats 2000000 in
theorem where_0 (b l i : Int) (k : Int) (hc : ∀ w, Calls Tryz.prog 73 #[H.geoV b l i] w fun e w' => e = .returned (.tuple #[.agg (H.lay9 x0 x1 x2 x3 x4 x5 x6 x7 x8), .int .i64 E]) ∧ Below w.heap.size w w') (hk : k ≠ 1 ∧ k ≠ 2 ∧ k ≠ 3 ∧ k ≠ 4 ∧ k ≠ 5 ∧ k ≠ 6 ∧ k ≠ 7) (w : World) : Calls Tryz.prog 18 #[H.geoV b l i, .int .i64 k] w fun e w' => e = .returned (.agg (H.lay9 x0 x1 x2 x3 x4 x5 x6 x7 x8)) ∧ Below w.heap.size w w' := by
 obtain ⟨k1, k2, k3, k4, k5, k6, k7⟩ := hk
 unfold H.geoV at *
 go_enter Tryz.func18, Tryz.ntmps18
 go_wp2_with (first | (go_at_call 73; fail))
 refine (hc _).mono ?_
 rintro e' W1 ⟨rfl, hb1⟩
 have h4 := heap_kept (heap_alloc2_new w _ _) hb1
 have HB1 : Hid (Below w.heap.size w W1) := below_next (H.bel_al (below_new _ _) _) hb1
 have hsz : w.heap.size + 1 < W1.heap.size := (Array.getElem?_eq_some_iff.1 h4).1
 have hV := heap_alloc_new W1 (.cells (H.lay9 x0 x1 x2 x3 x4 x5 x6 x7 x8) 59)
 have h4' := heap_kept h4 (below_new W1 (.cells (H.lay9 x0 x1 x2 x3 x4 x5 x6 x7 x8) 59))
 have HB2 : Hid (Below w.heap.size w (W1.alloc (.cells (H.lay9 x0 x1 x2 x3 x4 x5 x6 x7 x8) 59))) := H.bel_al HB1.out _
 have hsz2 : w.heap.size ≤ W1.heap.size := by omega
 clear hb1 hc
 have h5 := hV
 have h6 := h4'
 have HB3 := HB2
 clear hV h4 h4' HB1 HB2
 go_wp2_with (first | (with_reducible refine H.isStore 59 ?_; refine H.wpList_storeL_new rfl (.tmp 5) _ rfl _ _ rfl rfl (by simp [H.lay9, Value.oneCell']) _ rfl rfl rfl ?_) | (with_reducible refine H.isLoad 59 ?_; refine H.wpList_loadL rfl _ rfl _ rfl _ rfl h5 ?_) | (with_reducible refine H.isStore 59 ?_; refine wpList_storeL rfl (.tmp 4) _ rfl _ _ _ rfl rfl h6 rfl rfl (by simp [H.lay9, Value.oneCell']) ?_))
 exact retL rfl (w.heap.size + 1) _ rfl rfl (setRow_heap _ _ _ _ _ _ h6) rfl ⟨rfl, below_setRow HB3.out (by omega) _⟩
theorem nine_of (b l i : Int) : ∃ x0 x1 x2 x3 x4 x5 x6 x7 x8, H.ofV b l i = .agg (H.lay9 x0 x1 x2 x3 x4 x5 x6 x7 x8) ∧ (0 ≤ x0 ∧ x0 ≤ 1048576) ∧ (0 ≤ x1 ∧ x1 ≤ 1048576) ∧ (0 ≤ x3 ∧ x3 ≤ 1048576) ∧ (0 ≤ x4 ∧ x4 ≤ 1048576) ∧ (0 ≤ x6 ∧ x6 ≤ 1048576) ∧ (0 ≤ x8 ∧ x8 ≤ 1048576) ∧ (H.Fine b l i ∧ x1 = l ∧ x4 = 1 + l ∨ x1 = 0) := by
 unfold H.ofV
 by_cases h : H.Fine b l i
 ·rw [if_pos h]
  refine ⟨_, _, _, _, _, _, _, _, _, rfl, ?_, ?_, ?_, ?_, ?_, ?_, .inl ⟨h, rfl, rfl⟩⟩ <;> (have hp := h.pos; unfold H.Fine H.dataAt H.bitsAt H.nodeB H.bitsB at *; omega)
 ·rw [if_neg h]
  exact ⟨0, 0, 0, 0, 0, 0, 0, 0, 0, rfl, by omega, by omega, by omega, by omega, by omega, by omega, .inr rfl⟩
theorem stands_of {b l i a c d e f g : Int} (h : H.standsB b l i a c d e f g = true) : H.Fine b l i ∧ H.lay9 b l i a c d e f g = layA b l i := by
 have h' := of_decide_eq_true (show decide _ = true from h)
 obtain ⟨h0, rfl, rfl, rfl, rfl, rfl, rfl⟩ := h'
 exact ⟨h0, rfl⟩
theorem where_any (b l i k : Int) : ∃ x0 x1 x2 x3 x4 x5 x6 x7 x8, H.I64 x0 ∧ (H.standsB x0 x1 x2 x3 x4 x5 x6 x7 x8 = true → x1 = l) ∧ ∀ w, Calls Tryz.prog 18 #[H.geoV b l i, .int .i64 k] w fun e w' => e = .returned (.agg (H.lay9 x0 x1 x2 x3 x4 x5 x6 x7 x8)) ∧ Below w.heap.size w w' := by
 obtain ⟨x0, x1, x2, x3, x4, x5, x6, x7, x8, hv, h0, h1, h3, h4, h6, h8, hl⟩ := nine_of b l i
 have hc := fun w => H.refOf_any b l i w
 rw [hv] at hc
 have hnot : ∀ {y0 y2 y3 y4 y5 y6 y7 y8 : Int}, H.standsB y0 x1 y2 y3 y4 y5 y6 y7 y8 = true → x1 = l := fun q => by
  rcases hl with q2 | q2
  ·exact q2.2.1
  ·have := (stands_of q).1.1
   omega
 have hI : H.I64 x0 := by unfold H.I64; omega
 by_cases k1 : k = 1
 ·subst k1
  refine ⟨_, _, _, _, _, _, _, _, _, hI, fun q => ?_, where_1 b l i hc (by omega)⟩
  have h' := of_decide_eq_true (show decide _ = true from q)
  have e1 := h'.2.2.1
  have e2 := h'.1.1
  rcases hl with q2 | q2
  ·omega
  ·omega
 by_cases k2 : k = 2
 ·subst k2
  exact ⟨_, _, _, _, _, _, _, _, _, hI, hnot, where_2 b l i hc (by omega)⟩
 by_cases k3 : k = 3
 ·subst k3
  exact ⟨_, _, _, _, _, _, _, _, _, hI, hnot, where_3 b l i hc (by omega)⟩
 by_cases k4 : k = 4
 ·subst k4
  exact ⟨_, _, _, _, _, _, _, _, _, hI, hnot, where_4 b l i hc (by omega)⟩
 by_cases k5 : k = 5
 ·subst k5
  exact ⟨_, _, _, _, _, _, _, _, _, hI, hnot, where_5 b l i hc (by omega)⟩
 by_cases k6 : k = 6
 ·subst k6
  exact ⟨_, _, _, _, _, _, _, _, _, by unfold H.I64; omega, hnot, where_6 b l i hc (by omega)⟩
 by_cases k7 : k = 7
 ·subst k7
  refine ⟨_, _, _, _, _, _, _, _, _, by unfold H.I64; omega, fun q => ?_, where_7 b l i hc⟩
  have := (stands_of q).1.1
  omega
 ·exact ⟨_, _, _, _, _, _, _, _, _, hI, hnot, where_0 b l i k hc ⟨k1, k2, k3, k4, k5, k6, k7⟩⟩
def qn (n : Int) : Nat → Int
 | 0 => n
 | j + 1 => (qn n j).tdiv 2
def btB (n : Int) (j : Nat) : Bool := Int.tmod (qn n j) 2 != 0
def bits (n : Int) (i : Nat) : List Bool := (List.range i).map (btB n)
theorem bits_len (n : Int) (i : Nat) : (bits n i).length = i := by simp [bits]
theorem bits_succ (n : Int) (i : Nat) : bits n (i + 1) = bits n i ++ [btB n i] := by simp [bits, List.range_succ]
def enO (b : Bool) : List Value := [.bool b]
theorem lenO (x : Bool) : (enO x).length = 1 := rfl
theorem oneO (x : Bool) : ∀ u ∈ enO x, u.oneCell' = true := fun u hu => by simp [enO] at hu; subst hu; rfl
theorem info4 : (Tryz.prog.info? 4).map (fun i => (i.zero, i.size, i.bytes)) = some (some (.bool false), 1, 1) := by kernel_rfl
end
theorem tdiv_i64 {q : Int} (h : H.I64 q) : H.I64 (q.tdiv 2) := by
 unfold H.I64 at *
 rcases Int.lt_or_le q 0 with h0 | h0
 ·have e : q.tdiv 2 = -((-q) / 2) := by
   rw [← Int.tdiv_eq_ediv_of_nonneg (by omega : (0 : Int) ≤ -q), Int.neg_tdiv, Int.neg_neg]
  rw [e]
  omega
 ·rw [Int.tdiv_eq_ediv_of_nonneg h0]
  omega
theorem tmod_two (q : Int) : -2 < Int.tmod q 2 ∧ Int.tmod q 2 < 2 := by
 have h2 : (Int.tmod q 2).natAbs < 2 := by
  rw [Int.natAbs_tmod]
  exact Nat.mod_lt _ (by omega)
 omega
set_option maxRecDepth 20000 in
set_option maxHeartbeats 2000000 in
theorem bools_any (n : Int) (hn : H.I64 n) (w : World) : Calls Tryz.prog 42 #[.int .i64 n, .int .i64 70] w fun e w' => ∃ p c, e = .returned (.slice p 70 c) ∧ w'.ownsRow w.heap.size 4 1 (.slice p 70 c) 70 ((bits n 70).flatMap enO) ∧ Below w.heap.size w w' := by
 have HN : Hid (H.I64 (qn n 0)) := hn
 clear hn
 go_enter Tryz.func42, Tryz.ntmps42
 go_wp2
 go_loopw [0, 5, 6] (fun s0 s5 s6 wx => ∃ i : Nat, i ≤ 70 ∧ s6 = .int .i64 i ∧ s0 = .int .i64 (qn n i) ∧ Hid (H.I64 (qn n i)) ∧ Hid (wx.ownsRow w.heap.size 4 1 s5 i ((bits n i).flatMap enO) ∧ Below w.heap.size w wx)) (fun _ _ s6 _ => 70 - (intOf s6).toNat)
 case atStart => exact ⟨0, by omega, rfl, rfl, HN.out, World.ownsRow_nil _ _ _ _, Below.refl _ _⟩
 case round =>
  obtain ⟨i, hi, rfl, rfl, HQ, HO⟩ := hrel
  clear HN
  obtain ⟨ho, hb⟩ := HO.out
  obtain ⟨p, c, rfl, _⟩ := own_slice ho
  by_cases hi2 : (i : Int) < 70
  ·obtain ⟨i0, hi0, hz0, hz1, hz2⟩ := info_parts info4
   have ho' : wr.ownsRow w.heap.size 4 1 (.slice p i c) (bits n i).length ((bits n i).flatMap enO) := by rw [bits_len]; exact ho
   obtain ⟨v', W5, hr, hown, hbe, hF, hor⟩ := own_pushL lenO oneO Tryz.underlying80 hi0 hz0 hz1 hz2 rfl (by omega) (by omega) ho' hb.size (by rw [bits_len]; omega) (btB n i) 80
   have HO2 : Hid (W5.ownsRow w.heap.size 4 1 v' (i + 1) ((bits n (i + 1)).flatMap enO) ∧ Below w.heap.size w W5) := by
    rw [← bits_succ, bits_len] at hown
    exact ⟨hown, hb.trans hbe⟩
   have HQ2 : Hid (H.I64 (qn n (i + 1))) := tdiv_i64 HQ.out
   have hq2 : qn n (i + 1) = (qn n i).tdiv 2 := rfl
   have hw2 : IntKind.i64.wrap ((qn n i).tdiv 2) = qn n (i + 1) := by
    rw [IntKind.wrap_i64, hq2]
    have := tdiv_i64 HQ.out
    unfold H.I64 at this
    omega
   have hm := tmod_two (qn n i)
   have hw1 : IntKind.i64.wrap (Int.tmod (qn n i) 2) = Int.tmod (qn n i) 2 := by rw [IntKind.wrap_i64]; omega
   have hbt : btB n i = (Int.tmod (qn n i) 2 != 0) := rfl
   have HR : Hid ((Builtin.append_ #[80, 80] 80 #[.slice p i c, .slice (some ⟨wr.heap.size, 0, none⟩) 1 1]).run Tryz.prog (wr.alloc (.cells #[.bool (btB n i)] 4)) = .ok v' W5) := hr
   have hpush : ∃ p' c', v' = .slice p' (i + 1) c' := by obtain ⟨p', c', e, _⟩ := own_slice HO2.out.1; exact ⟨p', c', e⟩
   rw [hbt] at HR
   generalize hq' : qn n (i + 1) = q' at *
   have HQE := Hid.mk' hq'
   clear hq'
   generalize qn n i = q at *
   clear ho hb ho' hr hown hbe hF hor HO hq2 hbt hi0 hz0 hz1 hz2
   go_wp2_with (first | (at_builtin; refine wpList_exec rfl (exec_pushY rfl rfl rfl HR.out) ?_))
   exact ⟨⟨i + 1, by omega, by go_num, by rw [HQE.out], by rw [HQE.out]; exact HQ2.out, HO2.out⟩, by simp [intOf]; omega⟩
  ·obtain rfl : i = 70 := by omega
   go_wp2
   go_ret
   exact ⟨p, c, rfl, HO.out.1, HO.out.2⟩
def Gone (d r : Nat) (t : St) (vl vm : Value) (ps : List Part) : Prop :=
 (vl = .pointer none ∧ vm = .pointer none ∧ ps = []) ∨
 (∃ g row Y y, vl = .pointer (some ⟨g, 0, none⟩) ∧ vm = .pointer (some ⟨Y.q, 0, none⟩) ∧ ps = [oP g (.cells row 110), rlP r Y y] ∧ GoneRow d g t row y)
theorem GoneRow.to {d g : Nat} {t t' : St} {row : Array Value} {y : RL} (h : GoneRow d g t row y) (hl : ∀ n, Lost t n → Lost t' n) : GoneRow d g t' row y := by
 rcases h with h | ⟨c, mb, v, x, h1, h2, h3, h4⟩
 ·exact .inl h
 ·exact .inr ⟨c, mb, v, x, h1, h2, h3, hl _ h4⟩
theorem Gone.to {d r : Nat} {t t' : St} {vl vm : Value} {ps : List Part} (h : Gone d r t vl vm ps) (hl : ∀ n, Lost t n → Lost t' n) : Gone d r t' vl vm ps := by
 rcases h with h | ⟨g, row, Y, y, h1, h2, h3, h4⟩
 ·exact .inl h
 ·exact .inr ⟨g, row, Y, y, h1, h2, h3, h4.to hl⟩
section
variable {w W W' : World} {d r : Nat} {t t' : St} {u u' : RSt} {vl vm : Value} {ps l : List Part} {L : Loc} {R : RLoc}
theorem Gone.chk {I : World → Prop} (h : Gone d r t vl vm ps) (hX : SimX u t) (hI : ∀ W, I W → ∃ L R l, L.d = d ∧ R.g = r ∧ Sep w W (dkP L t :: l) ∧ rdP R u ∈ l ∧ ∀ p ∈ ps, p ∈ l) : ∃ e0, e0 ≠ 0 ∧ ∀ W, I W → PChk W vl e0 ∧ RChk W vm e0 := by
 rcases h with ⟨rfl, rfl, rfl⟩ | ⟨g, row, Y, y, rfl, rfl, rfl, hg⟩
 ·exact ⟨1, by omega, fun W _ => ⟨fun W1 _ => (check_none (.inl rfl)).mono fun _ _ ⟨a, b⟩ => ⟨a, 0, b⟩, fun W1 _ => (rcheck_nil W1).mono fun _ _ ⟨a, b⟩ => ⟨a, 0, b⟩⟩⟩
 ·have hr : ∀ e0, rchE y u = e0 → ∀ W, I W → RChk W (.pointer (some ⟨Y.q, 0, none⟩)) e0 := fun e0 he W hW W1 hb => by
   obtain ⟨L, R, l, hL, hR, hs, h2, h3⟩ := hI W hW
   have hrl : RLAt W1 Y.B Y.q r Y.gv Y.wv y := (hs.later hb).drop.say (rlP r Y y) (h3 _ (by simp))
   have hrd : RDAt W1 R.B r R.hv R.wv R.ov u := by
    have := (hs.later hb).drop.say (rdP R u) h2
    rw [← hR]
    exact this
   rw [← he]
   exact rcheck_at hrl fun _ => hrd
  rcases hg with ⟨rfl, hm⟩ | ⟨c, mb, v, x, rfl, hm, hmi, hlo⟩
  ·refine ⟨1, by omega, fun W hW => ⟨fun W1 hb => (check_none (.inr ⟨g, rfl, ?_⟩)).mono fun _ _ ⟨a, b⟩ => ⟨a, 0, b⟩, hr 1 (by unfold rchE; rw [hm]; rfl) W hW⟩⟩
   obtain ⟨L, R, l, hL, hR, hs, h2, h3⟩ := hI W hW
   have hrow : W1.heap[g]? = some (.cells lg0 110) := (hs.later hb).drop.say (oP g (.cells lg0 110)) (h3 _ (by simp))
   exact Joins.cell_of_block hrow 0
  ·refine ⟨3, by omega, fun W hW => ⟨fun W1 hb => ?_, hr 3 (by unfold rchE; rw [if_pos hm, hmi, hX.isClaimed, if_neg (by rw [hlo.not]; simp)]) W hW⟩⟩
   obtain ⟨L, R, l, hL, hR, hs, h2, h3⟩ := hI W hW
   have hs1 := hs.later hb
   have hrow : W1.heap[g]? = some (.cells (lgRow g d c mb v x) 110) := hs1.drop.say (oP g (.cells (lgRow g d c mb v x) 110)) (h3 _ (by simp))
   have hS : Sits w W1 L.d t [(g, .cells (lgRow g d c mb v x) 110)] := by
    refine ⟨L, rfl, hs1.head, fun k q => (hs1.headLt q).1, hs1.below, fun p hp => ?_⟩
    obtain rfl := List.mem_singleton.1 hp
    exact ⟨hrow, hs1.apartOf (h3 _ (show oP g (.cells (lgRow g d c mb v x) 110) ∈ _ by simp)) rfl⟩
   subst hL
   exact dead_check (c := c) (mb := mb) (v := v) hS (by simp) hlo.not
end
structure Pd (w W : World) (d r : Nat) (t : St) (u : RSt) (l : List Part) : Prop where
 out : ∃ (L : Loc) (R : RLoc), L.d = d ∧ R.g = r ∧ Sep w W (dkP L t :: rdP R u :: l)
section
variable {w W W' : World} {g q d r : Nat} {x : LSt} {book : Int → Nat → Int} {y : RL} {t t' : St} {u u' : RSt} {vl vm : Value} {l : List Part} {row : Array Value} {f : FuncId} {av : Array Value} {Q : Ending → Prop} {p : Part} {o : Obj}
theorem Pd.later (h : Pd w W d r t u l) (hb : Below W.heap.size W W') : Pd w W' d r t u l := by
 obtain ⟨L, R, hL, hR, hS⟩ := h.out
 exact ⟨L, R, hL, hR, hS.later hb⟩
theorem Pd.ok (h : Pd w W d r t u l) : Ok t := by
 obtain ⟨L, R, hL, hR, hS⟩ := h.out
 exact hS.ok
theorem Pd.kl (h : Pd w W d r t u l) : Kl l W := fun g o hm => by
 obtain ⟨L, R, hL, hR, hS⟩ := h.out
 exact hS.say (oP g o) (by simp [hm])
theorem Pd.perm {l' : List Part} (h : Pd w W d r t u l) (hp : l.Perm l') : Pd w W d r t u l' := by
 obtain ⟨L, R, hL, hR, hS⟩ := h.out
 exact ⟨L, R, hL, hR, hS.perm ((hp.cons _).cons _)⟩
theorem Pd.prog (h : Pd w W d r t u l) (hc : ∀ ks, Sits w W d t ks → Calls Tryz.prog f av W fun e W' => Q e ∧ Sits w W' d t' ks) : Calls Tryz.prog f av W fun e W' => Q e ∧ Pd w W' d r t' u l := by
 obtain ⟨L, R, hL, hR, hS⟩ := h.out
 refine (hS.callDisk (t' := t') (Q := Q) fun ks hs => by rw [hL] at hs ⊢; exact hc ks hs).mono ?_
 rintro e W' ⟨hq, L', hd', h3⟩
 exact ⟨hq, L', R, hd'.trans hL, hR, h3⟩
theorem Pd.doc (h : Pd w W d r t u l) (hc : ∀ l', RDs w W r u l' → Calls Tryz.prog f av W fun e W' => Q e ∧ RDs w W' r u' l') : Calls Tryz.prog f av W fun e W' => Q e ∧ Pd w W' d r t u' l := by
 obtain ⟨L, R, hL, hR, hS⟩ := h.out
 refine (hc (dkP L t :: l) ⟨R, hR, hS.swap⟩).mono ?_
 rintro e W' ⟨hq, hD⟩
 obtain ⟨R', hR', hS'⟩ := hD.out
 exact ⟨hq, L, R', hL, hR', hS'.swap⟩
theorem Lv.disk (h : Lv w W g q d r x t book y u l) (hn : t'.n = t.n) (hv : ∀ k, curV t' k = curV t k) (hc : ∀ ks, Sits w W d t ks → Calls Tryz.prog f av W fun e W' => Q e ∧ Sits w W' d t' ks) : Calls Tryz.prog f av W fun e W' => Q e ∧ Lv w W' g q d r x t' book y u l := by
 obtain ⟨Z, Y, R, hY, hR, hS⟩ := h.out
 exact (hS.callLive hn hv hc).mono fun e W' ⟨hq, Z', h3⟩ => ⟨hq, Z', Y, R, hY, hR, h3⟩
theorem Lv.docD (h : Lv w W g q d r x t book y u l) (hc : ∀ l', RDs w W r u l' → Calls Tryz.prog f av W fun e W' => Q e ∧ RDs w W' r u' l') : Calls Tryz.prog f av W fun e W' => Q e ∧ Lv w W' g q d r x t book y u' l := by
 obtain ⟨Z, Y, R, hY, hR, hS⟩ := h.out
 refine (hc (lgP w.heap.size g d x t book Z :: rlP r Y y :: l) ⟨R, hR, hS.third⟩).mono ?_
 rintro e W' ⟨hq, hD⟩
 obtain ⟨R', hR', hS'⟩ := hD.out
 exact ⟨hq, Z, Y, R', hY, hR', hS'.back⟩
theorem Dd.pd (h : Dd w W g q d r row t y u l) : ∃ Y : YLoc, Y.q = q ∧ Pd w W d r t u (oP g (.cells row 110) :: rlP r Y y :: l) := by
 obtain ⟨L, Y, R, hL, hY, hR, hS⟩ := h.out
 refine ⟨Y, hY, L, R, hL, hR, hS.perm (List.Perm.cons _ ?_)⟩
 have h1 : [oP g (.cells row 110), rlP r Y y, rdP R u].Perm [rdP R u, oP g (.cells row 110), rlP r Y y] := List.perm_append_comm (l₁ := [oP g (.cells row 110), rlP r Y y]) (l₂ := [rdP R u])
 exact h1.append_right l
theorem Pd.box (h : Pd w W d r t u l) (o : Obj) : Pd w (W.alloc o) d r t u (oP W.heap.size o :: l) := by
 obtain ⟨L, R, hL, hR, hS⟩ := h.out
 refine ⟨L, R, hL, hR, (hS.add (p := oP W.heap.size o) (below_new W o) (oP_good _ _) (heap_alloc_new _ _) fun k hk => ?_).back⟩
 obtain rfl : k = W.heap.size := hk
 simp
theorem Pd.add (h : Pd w W d r t u l) (hb : Below W.heap.size W W') (hg : p.Good) (hs : p.say W') (ho : ∀ k, p.own k → W.heap.size ≤ k ∧ k < W'.heap.size) : Pd w W' d r t u (p :: l) := by
 obtain ⟨L, R, hL, hR, hS⟩ := h.out
 exact ⟨L, R, hL, hR, (hS.add hb hg hs ho).back⟩
theorem Lv.add (h : Lv w W g q d r x t book y u l) (hb : Below W.heap.size W W') (hg : p.Good) (hs : p.say W') (ho : ∀ k, p.own k → W.heap.size ≤ k ∧ k < W'.heap.size) : Lv w W' g q d r x t book y u (p :: l) := by
 obtain ⟨Z, Y, R, hY, hR, hS⟩ := h.out
 refine ⟨Z, Y, R, hY, hR, (hS.add hb hg hs ho).perm ?_⟩
 have h1 : [p, lgP w.heap.size g d x t book Z, rlP r Y y, rdP R u].Perm [lgP w.heap.size g d x t book Z, rlP r Y y, rdP R u, p] := List.perm_append_comm (l₁ := [p]) (l₂ := [lgP w.heap.size g d x t book Z, rlP r Y y, rdP R u])
 exact h1.append_right l
theorem Lv.box (h : Lv w W g q d r x t book y u l) (o : Obj) : Lv w (W.alloc o) g q d r x t book y u (oP W.heap.size o :: l) := by
 refine h.add (below_new W o) (oP_good _ _) (heap_alloc_new _ _) fun k hk => ?_
 obtain rfl : k = W.heap.size := hk
 simp
theorem Pd.drop (h : Pd w W d r t u (p :: l)) : Pd w W d r t u l := by
 obtain ⟨L, R, hL, hR, hS⟩ := h.out
 exact ⟨L, R, hL, hR, hS.third.drop⟩
theorem Lv.drop (h : Lv w W g q d r x t book y u (p :: l)) : Lv w W g q d r x t book y u l := by
 obtain ⟨Z, Y, R, hY, hR, hS⟩ := h.out
 have h1 : [lgP w.heap.size g d x t book Z, rlP r Y y, rdP R u, p].Perm [p, lgP w.heap.size g d x t book Z, rlP r Y y, rdP R u] := List.perm_append_comm (l₁ := [lgP w.heap.size g d x t book Z, rlP r Y y, rdP R u]) (l₂ := [p])
 exact ⟨Z, Y, R, hY, hR, (hS.perm (h1.append_right l)).drop⟩
theorem Dd.drop (h : Dd w W g q d r row t y u (p :: l)) : Dd w W g q d r row t y u l := by
 obtain ⟨L, Y, R, hL, hY, hR, hS⟩ := h.out
 have h1 : [dkP L t, oP g (.cells row 110), rlP r Y y, rdP R u, p].Perm [p, dkP L t, oP g (.cells row 110), rlP r Y y, rdP R u] := List.perm_append_comm (l₁ := [dkP L t, oP g (.cells row 110), rlP r Y y, rdP R u]) (l₂ := [p])
 exact ⟨L, Y, R, hL, hY, hR, (hS.perm (h1.append_right l)).drop⟩
theorem Aft.drop {G : Int × Int × Int} {m : Nat} {t0 : St} (h : Aft w g q d r G m t0 (p :: l) W) : Aft w g q d r G m t0 l W := by
 rcases h with ⟨x, t, book, y, u, h1, h2⟩ | ⟨row, t, y, u, h1, h2⟩
 ·exact .inl ⟨x, t, book, y, u, h1.drop, h2⟩
 ·exact .inr ⟨row, t, y, u, h1.drop, h2⟩
theorem two_pd {fp fd : FuncId} {ap ad : Array Value} {v : Value} (hp : ∀ W ks, Sits w W d t ks → Calls Tryz.prog fp ap W fun e W' => e = .returned v ∧ Sits w W' d t' ks) (hd : ∀ W l', RDs w W r u l' → Calls Tryz.prog fd ad W fun e W' => e = .returned v ∧ RDs w W' r u' l') : Two l (fun W => Pd w W d r t u l) fp fd ap ad v (fun W => Pd w W d r t' u' l) :=
 ⟨fun W => Pd w W d r t' u l, fun _ _ h hb => h.later hb, fun _ h => h.kl, fun W h => h.prog fun ks hk => hp W ks hk, fun W h => h.doc fun l' hk => hd W l' hk⟩
theorem two_lv {fp fd : FuncId} {ap ad : Array Value} {v : Value} (hn : t'.n = t.n) (hv : ∀ k, curV t' k = curV t k) (hp : ∀ W ks, Sits w W d t ks → Calls Tryz.prog fp ap W fun e W' => e = .returned v ∧ Sits w W' d t' ks) (hd : ∀ W l', RDs w W r u l' → Calls Tryz.prog fd ad W fun e W' => e = .returned v ∧ RDs w W' r u' l') : Two l (fun W => Lv w W g q d r x t book y u l) fp fd ap ad v (fun W => Lv w W g q d r x t' book y u' l) :=
 ⟨fun W => Lv w W g q d r x t' book y u l, fun _ _ h hb => h.later hb, fun _ h => h.kl, fun W h => h.disk hn hv fun ks hk => hp W ks hk, fun W h => h.docD fun l' hk => hd W l' hk⟩
theorem RDs.crash (h : RDs w W r u l) (hr : RRoom u) {pk : Option Addr} {ck : Nat} {kl : List Bool} (hk : 0 < kl.length → ∃ b off, pk = some ⟨b, off, none⟩ ∧ b ≠ r ∧ b < W.heap.size ∧ ∀ i x, kl[i]? = some x → W.cell? ⟨b, off + i, none⟩ = some (.bool x)) (hkl : kl.length < 9223372036854775807) : Calls Tryz.prog 44 #[.pointer (some ⟨r, 0, none⟩), .slice pk kl.length ck] W fun e W' => e = .returned (.int .i64 0) ∧ RDs w W' r (rCrashS u kl) l := by
 obtain ⟨R, hD, hT⟩ := h.rd
 refine (rCrash_ok hD hk (by have := hr.wait; have := hr.held; omega) hkl).mono ?_
 rintro e W' ⟨rfl, hv', h2, h3, h4⟩
 refine ⟨rfl, hT _ _ _ _ _ h2 ⟨h3.mono fun i _ q => .inl q, fun b q => ?_⟩⟩
 rcases q with q | q | q | q
 ·exact .inl (.inl q)
 ·exact (h4 b q).elim (fun r => .inl (.inr (.inl r))) .inr
 ·cases q
 ·cases q
end
end Go.Proofs.YtichojdcoegboaaGreatW
