/- Several texts joined: the log, its cache and its disk, of the program and of the document; no condition. -/
import Derived.Test.YtichojdcoegboaaGreatK42
import Derived.Test.YtichojdcoegboaaGreatK40
namespace Go.Proofs.YtichojdcoegboaaGreatW
open Go.RowKit Go.Maps
theorem pairK_row (G : Int × Int × Int) (d r : Nat) (k : Bool) (la lb ma mb : Value) : pairK G d r k la lb ma mb = pairRow G d r (bif k then lb else la) (bif k then la else lb) (bif k then mb else ma) (bif k then ma else mb) := by cases k <;> rfl
structure Lc (l : List Part) (I : World → Prop) (vl vm : Value) (Q : World → Prop) : Prop where
 begin : ∀ n, ∃ E, Two l I 19 34 #[vl, .int .i64 n] #[vm, .int .i64 n] (.int .i64 E) Q
 ends : ∃ E, Two l I 22 35 #[vl] #[vm] (.int .i64 E) Q
 read : ∀ n, ∃ F E, TwoB l I 36 37 #[vl, .int .i64 n] #[vm, .int .i64 n] (.tuple #[.agg (blk F), .int .i64 E]) Q
 write : ∀ n f, Can f → ∃ E, Two l I 20 38 #[vl, .int .i64 n, .agg (blk f)] #[vm, .int .i64 n, .agg (blk f)] (.int .i64 E) Q
 sync : ∃ E, Two l I 26 39 #[vl] #[vm] (.int .i64 E) Q
 close : ∃ E, Two l I 48 49 #[vl] #[vm] (.int .i64 E) Q
 check : ∃ E, Two l I 50 51 #[vl] #[vm] (.int .i64 E) Q
theorem GI.lc {l : List Part} {I : World → Prop} {vl vm : Value} {e0 : Int} (h : GI l I vl vm e0) : Lc l I vl vm I :=
 ⟨fun n => ⟨_, h.begin n⟩, ⟨_, h.ends⟩, fun n => ⟨_, _, h.read n⟩, fun n f _ => ⟨_, h.write n f⟩, ⟨_, h.sync⟩, ⟨_, h.close⟩, ⟨_, h.check⟩⟩
section
variable {w W W' : World} {P g q d r m m' : Nat} {G : Int × Int × Int} {k : Bool} {la lb ma mb vl vm l0 l1 m0 m1 : Value} {t t0 t' : St} {u u' : RSt} {pa pb l l' : List Part} {x : LSt} {s : CSt} {y : RL} {book : Int → Nat → Int} {I Q : World → Prop} {on c n f tn : Int}
theorem LvOk.lc (h : LvOk x t book y u G m) (hI : Inv x s t book) (hk : Ok t) (hm : m ≤ 1000000) : Lc l (fun W => Lv w W g q d r x t book y u l) (.pointer (some ⟨g, 0, none⟩)) (.pointer (some ⟨q, 0, none⟩)) (Aft w g q d r G (m + 600) t l) :=
 ⟨fun n => live_begin h hI hk hm n, live_end h hm hI.steps.1, fun n => live_read h hI hk hm n, fun n _ hf => live_write h hI hm n hf, live_sync h hI hk hm, live_close h hI hk hm, ⟨0, (live_check h).mono (h.same (by omega))⟩⟩
theorem act_log (ha : ActI W I l P d r G l0 l1 m0 m1 vl vm on c n f tn) (hL : Lc l I vl vm Q) (hQl : ∀ W W', Q W → Below W.heap.size W W' → Q W') (hQK : ∀ W, Q W → Kl l W) (hc : c ≠ 5 ∧ c ≠ 6 ∧ c ≠ 7 ∧ c ≠ 8) (hf : 0 ≤ f ∧ f ≤ 255) : Calls Tryz.prog 8 #[.pointer (some ⟨P, 0, none⟩), .agg (actRow on c n f tn)] W fun e W' => e = .returned (.bool true) ∧ Q W' := by
 by_cases c0 : c = 0
 ·subst c0
  obtain ⟨E, hT⟩ := hL.begin n
  exact act_begin ha hT hQK
 by_cases c1 : c = 1
 ·subst c1
  obtain ⟨E, hT⟩ := hL.ends
  exact act_end ha hT
 by_cases c2 : c = 2
 ·subst c2
  obtain ⟨F, E, hT⟩ := hL.read n
  exact act_read ha hT hQl
 by_cases c3 : c = 3
 ·subst c3
  obtain ⟨E, hT⟩ := hL.write n (blkF f) (blkF_can hf)
  exact act_write ha hf hT hQK
 by_cases c4 : c = 4
 ·subst c4
  obtain ⟨E, hT⟩ := hL.sync
  exact act_sync ha hT
 by_cases c9 : c = 9
 ·subst c9
  obtain ⟨E, hT⟩ := hL.close
  exact act_close ha hT
 ·obtain ⟨E, hT⟩ := hL.check
  exact act_check ha ⟨c0, c1, c2, c3, c4, hc.1, hc.2.1, hc.2.2.1, hc.2.2.2, c9⟩ hT
def Of (k : Bool) (on : Int) : Prop := on % 2 = (bif k then 1 else 0)
theorem of_slot (h : Of k on) : (on % 2 = 0 ∧ (bif k then lb else la) = la ∧ (bif k then mb else ma) = ma) ∨ (on % 2 = 1 ∧ (bif k then la else lb) = la ∧ (bif k then ma else mb) = ma) := by
 unfold Of at h
 cases k
 ·exact .inl ⟨h, rfl, rfl⟩
 ·exact .inr ⟨h, rfl, rfl⟩
theorem ActI.ofPd (h : Pd w W d r t u (oP P (.cells (pairK G d r k la lb ma mb) 45) :: l)) (ho : Of k on) (c n f tn : Int) : ActI W (fun X => Pd w X d r t u (oP W.heap.size (.cells (actRow on c n f tn) 48) :: oP P (.cells (pairK G d r k la lb ma mb) 45) :: l)) (oP W.heap.size (.cells (actRow on c n f tn) 48) :: oP P (.cells (pairK G d r k la lb ma mb) 45) :: l) P d r G (bif k then lb else la) (bif k then la else lb) (bif k then mb else ma) (bif k then ma else mb) la ma on c n f tn :=
 ⟨h.box _, fun _ _ h hb => h.later hb, fun _ h => h.kl, by rw [← pairK_row]; simp, by simp, of_slot ho⟩
theorem ActI.ofLv (h : Lv w W g q d r x t book y u (oP P (.cells (pairK G d r k la lb ma mb) 45) :: l)) (ho : Of k on) (c n f tn : Int) : ActI W (fun X => Lv w X g q d r x t book y u (oP W.heap.size (.cells (actRow on c n f tn) 48) :: oP P (.cells (pairK G d r k la lb ma mb) 45) :: l)) (oP W.heap.size (.cells (actRow on c n f tn) 48) :: oP P (.cells (pairK G d r k la lb ma mb) 45) :: l) P d r G (bif k then lb else la) (bif k then la else lb) (bif k then mb else ma) (bif k then ma else mb) la ma on c n f tn :=
 ⟨h.box _, fun _ _ h hb => h.later hb, fun _ h => h.kl, by rw [← pairK_row]; simp, by simp, of_slot ho⟩
def S4 (w : World) (P d r : Nat) (G : Int × Int × Int) (m : Nat) (k : Bool) (W : World) : Prop := ∃ la lb ma mb, S3 w P d r G m k la lb ma mb W
theorem S3.log (h : S3 w P d r G m k la lb ma mb W) (hm : m ≤ 1000000) (ho : Of k on) (hc : c ≠ 5 ∧ c ≠ 6 ∧ c ≠ 7 ∧ c ≠ 8) (hf : 0 ≤ f ∧ f ≤ 255) : Calls Tryz.prog 8 #[.pointer (some ⟨P, 0, none⟩), .agg (actRow on c n f tn)] W fun e W' => e = .returned (.bool true) ∧ S4 w P d r G (m + 600) k W' := by
 rcases h with ⟨t, u, pa, pb, h1, h2, h3, h4, h5, h6⟩ | ⟨g, q, x, t, book, y, u, pb, rfl, rfl, h3, h4, h5⟩ | ⟨g, q, x, t, book, y, u, pb, rfl, rfl, h3, h4, h5⟩
 ·obtain ⟨e0, hG⟩ := GI.ofPd (w := w) (l := oP W.heap.size (.cells (actRow on c n f tn) 48) :: oP P (.cells (pairK G d r k la lb ma mb) 45) :: (pa ++ pb)) h1 h3 (fun p hp => by simp [hp])
  refine (act_log (ActI.ofPd h6 ho c n f tn) hG.lc hG.later hG.kl hc hf).mono ?_
  rintro e W' ⟨he, hp⟩
  exact ⟨he, la, lb, ma, mb, S3.mono (.inl ⟨t, u, pa, pb, h1, h2, h3, h4, h5, hp.drop⟩) (by omega)⟩
 ·obtain ⟨s, hI, hk⟩ := h5.inv
  refine (act_log (ActI.ofLv h5 ho c n f tn) (h4.lc hI hk hm) (fun _ _ h hb => h.later hb) (fun _ h => h.kl) hc hf).mono ?_
  rintro e W' ⟨he, hp⟩
  exact ⟨he, _, lb, _, mb, hp.drop.s3 h3⟩
 ·rw [pairK_flip] at h5
  obtain ⟨e0, hG⟩ := GI.ofLv (w := w) (g := g) (q := q) (x := x) (y := y) (book := book) (l := oP W.heap.size (.cells (actRow on c n f tn) 48) :: oP P (.cells (pairK G d r k la (.pointer (some ⟨g, 0, none⟩)) ma (.pointer (some ⟨q, 0, none⟩))) 45) :: pb) h3 h4.sim (fun p hp => by simp [hp])
  refine (act_log (ActI.ofLv h5 ho c n f tn) hG.lc hG.later hG.kl hc hf).mono ?_
  rintro e W' ⟨he, hp⟩
  refine ⟨he, la, .pointer (some ⟨g, 0, none⟩), ma, .pointer (some ⟨q, 0, none⟩), S3.mono (.inr (.inr ⟨g, q, x, t, book, y, u, pb, rfl, rfl, h3, h4, ?_⟩)) (by omega)⟩
  rw [pairK_flip]
  exact hp.drop
end
section
variable {w W W' : World} {P g q d r m m' : Nat} {G : Int × Int × Int} {k : Bool} {la lb ma mb vl vm : Value} {t t0 t' : St} {u u' : RSt} {pa pb l l' : List Part} {x : LSt} {s : CSt} {y : RL} {book : Int → Nat → Int} {I Q : World → Prop} {on c n f tn : Int}
theorem Two.sub {fp fd : FuncId} {ap ad : Array Value} {v : Value} (h : Two l I fp fd ap ad v Q) (hs : ∀ p ∈ l', p ∈ l) : Two l' I fp fd ap ad v Q := by
 obtain ⟨M, h1, h0, h2, h3⟩ := h
 exact ⟨M, h1, fun W hW g o hm => h0 W hW g o (hs _ hm), h2, h3⟩
theorem LvOk.fuse (h : LvOk x t book y u G m) (n : Int) (hn : n ≤ 9223372036854775807) : LvOk x (fuseV t n) book y (rFuse u n) G m :=
 ⟨h.mt, h.sim.fuse n hn, h.cap.fuse n, by rw [rFuse_seen]; exact h.seen, fuse_live h.live, h.geo, fun b => by unfold tgT tgE; rw [(cur_fuse n).1]; exact h.head b, h.cnt, h.wl⟩
theorem S3.fuse (h : S3 w P d r G m k la lb ma mb W) (ho : Of k on) (hn : H.I64 n) : Calls Tryz.prog 8 #[.pointer (some ⟨P, 0, none⟩), .agg (actRow on 5 n f tn)] W fun e W' => e = .returned (.bool true) ∧ S4 w P d r G m k W' := by
 have hn2 : n ≤ 9223372036854775807 := hn.2
 rcases h with ⟨t, u, pa, pb, h1, h2, h3, h4, h5, h6⟩ | ⟨g, q, x, t, book, y, u, pb, rfl, rfl, h3, h4, h5⟩ | ⟨g, q, x, t, book, y, u, pb, rfl, rfl, h3, h4, h5⟩
 ·obtain ⟨e0, hG⟩ := GI.ofPd (w := w) (t := fuseV t n) (u := rFuse u n) (l := oP W.heap.size (.cells (actRow on 5 n f tn) 48) :: oP P (.cells (pairK G d r k la lb ma mb) 45) :: (pa ++ pb)) (h1.to fun _ q => q.fuse n) (h3.fuse n hn2) (fun p hp => by simp [hp])
  refine (act_fuse (ActI.ofPd h6 ho 5 n f tn) (two_pd (fun _ _ hS => sits_fuse hS n hn2) fun _ _ hS => hS.fuse n) (fun _ h => h.kl) hG.check).mono ?_
  rintro e W' ⟨he, hp⟩
  exact ⟨he, la, lb, ma, mb, .inl ⟨_, _, pa, pb, h1.to fun _ q => q.fuse n, h2.to fun _ q => q.fuse n, h3.fuse n hn2, h4.fuse n, by rw [rFuse_seen]; exact h5, hp.drop⟩⟩
 ·refine (act_fuse (ActI.ofLv h5 ho 5 n f tn) (two_lv (cur_fuse n).2 (fun k => by rw [(cur_fuse n).1]) (fun _ _ hS => sits_fuse hS n hn2) fun _ _ hS => hS.fuse n) (fun _ h => h.kl) (live_check (h4.fuse n hn2))).mono ?_
  rintro e W' ⟨he, hp⟩
  exact ⟨he, _, lb, _, mb, .inr (.inl ⟨g, q, x, _, book, y, _, pb, rfl, rfl, h3.to fun _ q => q.fuse n, h4.fuse n hn2, hp.drop⟩)⟩
 ·rw [pairK_flip] at h5
  obtain ⟨e0, hG⟩ := GI.ofLv (w := w) (g := g) (q := q) (x := x) (y := y) (book := book) (t := fuseV t n) (u := rFuse u n) (l := oP W.heap.size (.cells (actRow on 5 n f tn) 48) :: oP P (.cells (pairK G d r k la (.pointer (some ⟨g, 0, none⟩)) ma (.pointer (some ⟨q, 0, none⟩))) 45) :: pb) (h3.to fun _ q => q.fuse n) (h4.sim.fuse n hn2) (fun p hp => by simp [hp])
  refine (act_fuse (ActI.ofLv h5 ho 5 n f tn) (two_lv (cur_fuse n).2 (fun k => by rw [(cur_fuse n).1]) (fun _ _ hS => sits_fuse hS n hn2) fun _ _ hS => hS.fuse n) (fun _ h => h.kl) hG.check).mono ?_
  rintro e W' ⟨he, hp⟩
  refine ⟨he, la, _, ma, _, .inr (.inr ⟨g, q, x, _, book, y, _, pb, rfl, rfl, h3.to fun _ q => q.fuse n, h4.fuse n hn2, ?_⟩)⟩
  rw [pairK_flip]
  exact hp.drop
theorem pd_crash (h : Pd w W d r t u (oP P (.cells (pairK G d r k la lb ma mb) 45) :: (pa ++ pb))) (hX : SimX u t) (hC : Cap t m) (hs : 0 ≤ u.seen ∧ u.seen ≤ m) (hm : m ≤ 1000000) (ho : Of k on) (hn : H.I64 n) (ha : Gone d r (crashS t (bits n 70)) la ma pa) (hb : Gone d r (crashS t (bits n 70)) lb mb pb) : Calls Tryz.prog 8 #[.pointer (some ⟨P, 0, none⟩), .agg (actRow on 6 n f tn)] W fun e W' => e = .returned (.bool true) ∧ S4 w P d r G m k W' := by
 have hok := h.ok
 refine (act_crash (I2 := fun p c X => Pd w X d r t u (lsO p c (bits n 70) :: oP W.heap.size (.cells (actRow on 6 n f tn) 48) :: oP P (.cells (pairK G d r k la lb ma mb) 45) :: (pa ++ pb))) (Q := fun X => Pd w X d r (crashS t (bits n 70)) (rCrashS u (bits n 70)) (oP W.heap.size (.cells (actRow on 6 n f tn) 48) :: oP P (.cells (pairK G d r k la lb ma mb) 45) :: (pa ++ pb))) hn (ActI.ofPd h ho 6 n f tn) (fun p c X X' hI hbe hown => ?_) (fun p c _ _ h hb => h.later hb) (fun p c _ h => h.drop.kl) (fun p c => ?_) (fun _ h => h.kl)).mono ?_
 ·refine Pd.add hI hbe (lsO_good _ _ _) (own_base hown (Nat.zero_le _)) fun k hk => ?_
  exact hown.lt k hk
 ·exact ((two_crash (bits_len n 70) hok hX hC hs hm (by simp)).mono fun _ h => h.drop).sub fun p hp => List.mem_cons_of_mem _ hp
 ·rintro e W' ⟨he, hp⟩
  refine ⟨he, la, lb, ma, mb, .inl ⟨_, _, pa, pb, ha, hb, hX.crash hok _, hC.crash _, ?_, hp.drop⟩⟩
  show 0 ≤ u.seen ∧ u.seen ≤ m
  exact hs
theorem Lv.pd (h : Lv w W g q d r x t book y u l) : ∃ c mb v Y, Y.q = q ∧ Pd w W d r t u (oP g (.cells (lgRow g d c mb v x) 110) :: rlP r Y y :: l) := by
 obtain ⟨c, mb, v, h1⟩ := h.gone
 obtain ⟨Y, hY, h2⟩ := h1.pd
 exact ⟨c, mb, v, Y, hY, h2⟩
theorem gone_row {c2 mb2 : Nat} {v : Value} {Y : YLoc} (h : LvOk x t book y u G m) (hl : Lost t' x.claim) : Gone d r t' (.pointer (some ⟨g, 0, none⟩)) (.pointer (some ⟨Y.q, 0, none⟩)) [oP g (.cells (lgRow g d c2 mb2 v x) 110), rlP r Y y] :=
 .inr ⟨g, _, Y, y, rfl, rfl, rfl, .inr ⟨c2, mb2, v, x, rfl, h.mt.made, h.mt.mine, hl⟩⟩
theorem front_pair {p a b : Part} {l : List Part} : (a :: b :: p :: l).Perm (p :: ([a, b] ++ l)) := List.perm_middle (l₁ := [a, b]) (a := p) (l₂ := l)
theorem behind_pair {p a b : Part} {l : List Part} : (a :: b :: p :: l).Perm (p :: (l ++ [a, b])) := front_pair.trans (List.Perm.cons _ List.perm_append_comm)
theorem S3.crash (h : S3 w P d r G m k la lb ma mb W) (hm : m ≤ 1000000) (ho : Of k on) (hn : H.I64 n) : Calls Tryz.prog 8 #[.pointer (some ⟨P, 0, none⟩), .agg (actRow on 6 n f tn)] W fun e W' => e = .returned (.bool true) ∧ S4 w P d r G m k W' := by
 rcases h with ⟨t, u, pa, pb, h1, h2, h3, h4, h5, h6⟩ | ⟨g, q, x, t, book, y, u, pb, rfl, rfl, h3, h4, h5⟩ | ⟨g, q, x, t, book, y, u, pb, rfl, rfl, h3, h4, h5⟩
 ·exact pd_crash h6 h3 h4 h5 hm ho hn (h1.to fun _ q => q.crash _) (h2.to fun _ q => q.crash _)
 ·obtain ⟨c, mb', v, Y, rfl, h6⟩ := h5.pd
  exact pd_crash (h6.perm front_pair) h4.sim h4.cap h4.seen hm ho hn (gone_row h4 (lost_crash (by rw [(live_le h4.live).1]; exact Int.le_refl _) _)) (h3.to fun _ q => q.crash _)
 ·rw [pairK_flip] at h5
  obtain ⟨c, mb', v, Y, rfl, h6⟩ := h5.pd
  exact pd_crash (h6.perm behind_pair) h4.sim h4.cap h4.seen hm ho hn (h3.to fun _ q => q.crash _) (gone_row h4 (lost_crash (by rw [(live_le h4.live).1]; exact Int.le_refl _) _))
theorem LvOk.touch (h : LvOk x t book y u G m) (ht : t' = t ∨ t' = readS t) (hX : SimX u' t') (hs : 0 ≤ u'.seen ∧ u'.seen ≤ ((m + 400 : Nat) : Int)) : LvOk x t' book y u' G (m + 400) ∧ t'.n = t.n ∧ (∀ k, curV t' k = curV t k) ∧ ∀ n, Lost t n → Lost t' n := by
 rcases ht with rfl | rfl
 ·exact ⟨⟨h.mt, hX, h.cap.mono (by omega), hs, h.live, h.geo, h.head, ⟨by have := h.cnt.1; omega, by have := h.cnt.2; omega⟩, by have := h.wl; omega⟩, rfl, fun _ => rfl, fun _ q => q⟩
 ·exact ⟨⟨h.mt, hX, h.cap.readS.mono (by omega), hs, h.live, h.geo, h.head, ⟨by have := h.cnt.1; omega, by have := h.cnt.2; omega⟩, by have := h.wl; omega⟩, rfl, fun _ => rfl, fun _ q => q.reads⟩
theorem S3.recover (h : S3 w P d r G m k la lb ma mb W) (hm : m ≤ 1000000) (ho : Of k on) : Calls Tryz.prog 8 #[.pointer (some ⟨P, 0, none⟩), .agg (actRow on 7 n f tn)] W fun e W' => e = .returned (.bool true) ∧ S4 w P d r G (m + 400) k W' := by
 obtain ⟨x0, x1, x2, x3, x4, x5, x6, x7, x8, hI, hl, hW⟩ := where_any G.1 G.2.1 G.2.2 tn
 rcases h with ⟨t, u, pa, pb, h1, h2, h3, h4, h5, h6⟩ | ⟨g, q, x, t, book, y, u, pb, rfl, rfl, h3, h4, h5⟩ | ⟨g, q, x, t, book, y, u, pb, rfl, rfl, h3, h4, h5⟩
 ·obtain ⟨N, E, t', u', r1, r2, r3, r4, r5, r6, _⟩ := rec_both (d := d) (r := r) h3 h6.ok h4 h5 hm (x1 := x1) (x2 := x2) (x3 := x3) (x4 := x4) (x5 := x5) (x6 := x6) (x7 := x7) (x8 := x8) hI
  refine (act_recover (ActI.ofPd h6 ho 7 n f tn) hW (two_pd (r1 w) (r2 w)) fun _ h => h.kl).mono ?_
  rintro e W' ⟨he, hp⟩
  exact ⟨he, la, lb, ma, mb, .inl ⟨t', u', pa, pb, h1.to r6, h2.to r6, r3, r4, r5, hp.drop⟩⟩
 ·obtain ⟨s, hInv, hk⟩ := h5.inv
  obtain ⟨N, E, t', u', r1, r2, r3, r4, r5, r6, r7⟩ := rec_both (d := d) (r := r) h4.sim hk h4.cap h4.seen hm (x1 := x1) (x2 := x2) (x3 := x3) (x4 := x4) (x5 := x5) (x6 := x6) (x7 := x7) (x8 := x8) hI
  obtain ⟨a1, a2, a3, a4⟩ := h4.touch (r7 h4.alive fun q b => by rw [hl q, ← h4.geo]; exact h4.head b) r3 r5
  refine (act_recover (ActI.ofLv h5 ho 7 n f tn) hW (two_lv a2 a3 (r1 w) (r2 w)) fun _ h => h.kl).mono ?_
  rintro e W' ⟨he, hp⟩
  exact ⟨he, _, lb, _, mb, .inr (.inl ⟨g, q, x, t', book, y, u', pb, rfl, rfl, h3.to a4, a1, hp.drop⟩)⟩
 ·rw [pairK_flip] at h5
  obtain ⟨s, hInv, hk⟩ := h5.inv
  obtain ⟨N, E, t', u', r1, r2, r3, r4, r5, r6, r7⟩ := rec_both (d := d) (r := r) h4.sim hk h4.cap h4.seen hm (x1 := x1) (x2 := x2) (x3 := x3) (x4 := x4) (x5 := x5) (x6 := x6) (x7 := x7) (x8 := x8) hI
  obtain ⟨a1, a2, a3, a4⟩ := h4.touch (r7 h4.alive fun q b => by rw [hl q, ← h4.geo]; exact h4.head b) r3 r5
  refine (act_recover (ActI.ofLv h5 ho 7 n f tn) hW (two_lv a2 a3 (r1 w) (r2 w)) fun _ h => h.kl).mono ?_
  rintro e W' ⟨he, hp⟩
  refine ⟨he, la, _, ma, _, .inr (.inr ⟨g, q, x, t', book, y, u', pb, rfl, rfl, h3.to a4, a1, ?_⟩)⟩
  rw [pairK_flip]
  exact hp.drop
theorem sep_setP {row : Array Value} {ty : TypeId} (h : Sep w W (oP P (.cells row ty) :: l)) (j : Nat) (v : Value) : Sep w (W.setCell ⟨P, j, none⟩ v) (oP P (.cells (row.setIfInBounds j v) ty) :: l) := by
 have hrow : W.heap[P]? = some (.cells row ty) := h.head
 have hrow' := heap_setCell_same W P j row ty v hrow
 refine h.turn (T := fun k => k = P) (Fr.setCell W P j v) (fun k _ e => e) (oP_good _ _) hrow' fun k hk => ⟨.inl hk, ?_⟩
 obtain rfl : k = P := hk
 exact (Array.getElem?_eq_some_iff.1 hrow').1
theorem Pd.setP {p : Part} {row : Array Value} (h : Pd w W d r t u (p :: oP P (.cells row 45) :: l)) (j : Nat) (v : Value) : Pd w (W.setCell ⟨P, j, none⟩ v) d r t u (p :: oP P (.cells (row.setIfInBounds j v) 45) :: l) := by
 obtain ⟨L, R, hL, hR, hS⟩ := h.out
 have h1 := sep_setP (hS.perm (List.perm_middle (l₁ := [dkP L t, rdP R u, p]) (a := oP P (.cells row 45)) (l₂ := l))) j v
 exact ⟨L, R, hL, hR, h1.perm (List.perm_middle (l₁ := [dkP L t, rdP R u, p]) (a := oP P (.cells (row.setIfInBounds j v) 45)) (l₂ := l)).symm⟩
theorem Lv.setP {p : Part} {row : Array Value} (h : Lv w W g q d r x t book y u (p :: oP P (.cells row 45) :: l)) (j : Nat) (v : Value) : Lv w (W.setCell ⟨P, j, none⟩ v) g q d r x t book y u (p :: oP P (.cells (row.setIfInBounds j v) 45) :: l) := by
 obtain ⟨Z, Y, R, hY, hR, hS⟩ := h.out
 have h1 := sep_setP (hS.perm (List.perm_middle (l₁ := [lgP w.heap.size g d x t book Z, rlP r Y y, rdP R u, p]) (a := oP P (.cells row 45)) (l₂ := l))) j v
 exact ⟨Z, Y, R, hY, hR, h1.perm (List.perm_middle (l₁ := [lgP w.heap.size g d x t book Z, rlP r Y y, rdP R u, p]) (a := oP P (.cells (row.setIfInBounds j v) 45)) (l₂ := l)).symm⟩
theorem drops (h : Pd w W d r t u (oP P (.cells (pairK G d r k la lb ma mb) 45) :: (pa ++ pb))) : Pd w W d r t u (oP P (.cells (pairK G d r k la lb ma mb) 45) :: pb) := by
 induction pa with
 | nil => exact h
 | cons p pa ih => exact ih (h.perm (List.Perm.swap _ _ _)).drop
theorem dropsL (h : Lv w W g q d r x t book y u (oP P (.cells (pairK G d r k la lb ma mb) 45) :: (pa ++ pb))) : Lv w W g q d r x t book y u (oP P (.cells (pairK G d r k la lb ma mb) 45) :: pb) := by
 induction pa with
 | nil => exact h
 | cons p pa ih =>
  refine ih ?_
  obtain ⟨Z, Y, R, hY, hR, hS⟩ := h.out
  have h2 : Lv w W g q d r x t book y u (p :: oP P (.cells (pairK G d r k la lb ma mb) 45) :: (pa ++ pb)) := ⟨Z, Y, R, hY, hR, hS.perm (((List.Perm.swap _ _ _).cons _).cons _ |>.cons _)⟩
  exact h2.drop
theorem pairK_set (v1 v2 : Value) : (k = false → ((pairK G d r k la lb ma mb).setIfInBounds 5 v1).setIfInBounds 7 v2 = pairK G d r k v1 lb v2 mb) ∧ (k = true → ((pairK G d r k la lb ma mb).setIfInBounds 6 v1).setIfInBounds 8 v2 = pairK G d r k v1 lb v2 mb) := by
 constructor
 ·rintro rfl; rfl
 ·rintro rfl; rfl
theorem Pd.slot {p : Part} (h : Pd w W d r t u (p :: oP P (.cells (pairK G d r k la lb ma mb) 45) :: l)) (ho : Of k on) (v1 v2 : Value) : (on % 2 = 0 → Pd w ((W.setCell ⟨P, 5, none⟩ v1).setCell ⟨P, 7, none⟩ v2) d r t u (p :: oP P (.cells (pairK G d r k v1 lb v2 mb) 45) :: l)) ∧ (on % 2 = 1 → Pd w ((W.setCell ⟨P, 6, none⟩ v1).setCell ⟨P, 8, none⟩ v2) d r t u (p :: oP P (.cells (pairK G d r k v1 lb v2 mb) 45) :: l)) := by
 unfold Of at ho
 constructor
 ·intro h0
  have hk : k = false := by cases k <;> simp_all
  rw [← (pairK_set (la := la) (ma := ma) v1 v2).1 hk]
  exact (h.setP 5 v1).setP 7 v2
 ·intro h0
  have hk : k = true := by cases k <;> simp_all
  rw [← (pairK_set (la := la) (ma := ma) v1 v2).2 hk]
  exact (h.setP 6 v1).setP 8 v2
theorem Lv.slot {p : Part} (h : Lv w W g q d r x t book y u (p :: oP P (.cells (pairK G d r k la lb ma mb) 45) :: l)) (ho : Of k on) (v1 v2 : Value) : (on % 2 = 0 → Lv w ((W.setCell ⟨P, 5, none⟩ v1).setCell ⟨P, 7, none⟩ v2) g q d r x t book y u (p :: oP P (.cells (pairK G d r k v1 lb v2 mb) 45) :: l)) ∧ (on % 2 = 1 → Lv w ((W.setCell ⟨P, 6, none⟩ v1).setCell ⟨P, 8, none⟩ v2) g q d r x t book y u (p :: oP P (.cells (pairK G d r k v1 lb v2 mb) 45) :: l)) := by
 unfold Of at ho
 constructor
 ·intro h0
  have hk : k = false := by cases k <;> simp_all
  rw [← (pairK_set (la := la) (ma := ma) v1 v2).1 hk]
  exact (h.setP 5 v1).setP 7 v2
 ·intro h0
  have hk : k = true := by cases k <;> simp_all
  rw [← (pairK_set (la := la) (ma := ma) v1 v2).2 hk]
  exact (h.setP 6 v1).setP 8 v2
theorem pd_new {x0 x1 x2 x3 x4 x5 x6 x7 x8 : Int} (hI : H.I64 x0) (hl : H.standsB x0 x1 x2 x3 x4 x5 x6 x7 x8 = true → x1 = G.2.1) (hW : ∀ w, Calls Tryz.prog 18 #[H.geoV G.1 G.2.1 G.2.2, .int .i64 tn] w fun e w' => e = .returned (.agg (H.lay9 x0 x1 x2 x3 x4 x5 x6 x7 x8)) ∧ Below w.heap.size w w') (h : Pd w W d r t u (oP P (.cells (pairK G d r k la lb ma mb) 45) :: (pa ++ pb))) (hX : SimX u t) (hC : Cap t m) (hs : 0 ≤ u.seen ∧ u.seen ≤ m) (hm : m ≤ 1000000) (ho : Of k on) (hb1 : ¬ (H.standsB x0 x1 x2 x3 x4 x5 x6 x7 x8 = true ∧ x0 ≤ t.n ∧ t.stopped = false ∧ tgT x0 x1 t = [] ∧ tgE x0 x1 t = 0) → ∀ t', (t' = t ∨ t' = readS t) → Gone d r t' lb mb pb) (hb2 : t.stopped = false → Gone d r (claimV (readS t)) lb mb pb) : Calls Tryz.prog 8 #[.pointer (some ⟨P, 0, none⟩), .agg (actRow on 8 n f tn)] W fun e W' => e = .returned (.bool true) ∧ S4 w P d r G (m + 600) k W' := by
 have hok := h.ok
 by_cases hno : H.standsB x0 x1 x2 x3 x4 x5 x6 x7 x8 = true ∧ x0 ≤ t.n ∧ t.stopped = false ∧ tgT x0 x1 t = [] ∧ tgE x0 x1 t = 0
 ·obtain ⟨n1, n2, n3, n4, n5⟩ := hno
  obtain ⟨hf, hLA⟩ := stands_of n1
  rw [hLA] at hW
  obtain ⟨a1, a2, a3⟩ := new_lv (G := G) hX hok hC hs hm hf (hl n1) n3 n4 n5
  have hroom := hX.room hok hC (by omega) ⟨hs.1, by omega⟩
  obtain ⟨e1, e2⟩ := hd_tg hX x0 x1
  have hH := hdc_at (w := w) (r := r) hf (by rw [hX.n]; exact n2) (hX.dead.trans n3) hroom (can_cur hX hok)
  rw [e1, e2, n4, n5] at hH
  refine (act_made (M := fun g X => Lh w X g d r (newX x0 x1 x2 (claimN t)) (claimV (readS t)) (curV t) u (oP W.heap.size (.cells (actRow on 8 n f tn) 48) :: oP P (.cells (pairK G d r k la lb ma mb) 45) :: (pa ++ pb))) (Q0 := fun g q X => Lv w X g q d r (newX x0 x1 x2 (claimN t)) (claimV (readS t)) (curV t) (newRL x0 x1 x2 (rClaimN { u with seen := u.seen + 1 })) (rClaim { u with seen := u.seen + 1 }) (oP W.heap.size (.cells (actRow on 8 n f tn) 48) :: oP P (.cells (pairK G d r k la lb ma mb) 45) :: (pa ++ pb))) (Q := fun X => ∃ g q, Lv w X g q d r (newX x0 x1 x2 (claimN t)) (claimV (readS t)) (curV t) (newRL x0 x1 x2 (rClaimN { u with seen := u.seen + 1 })) (rClaim { u with seen := u.seen + 1 }) (oP W.heap.size (.cells (actRow on 8 n f tn) 48) :: oP P (.cells (pairK G d r k (.pointer (some ⟨g, 0, none⟩)) lb (.pointer (some ⟨q, 0, none⟩)) mb) 45) :: (pa ++ pb))) (ActI.ofPd h ho 8 n f tn) hW (fun _ _ _ h hb => h.later hb) (fun _ _ h => h.kl) (fun X hP => hP.newP hf n2 n3 (hC.rm2 hm (by omega)) n4 n5) (fun g X hL => hL.newD hH a2) (fun _ _ _ h => h.kl) fun g q X hL => ⟨fun q0 => ⟨g, q, (hL.slot ho _ _).1 q0⟩, fun q0 => ⟨g, q, (hL.slot ho _ _).2 q0⟩⟩).mono ?_
  rintro e W' ⟨he, g, q, hp⟩
  exact ⟨he, _, lb, _, mb, .inr (.inl ⟨g, q, _, _, _, _, _, pb, rfl, rfl, hb2 n3, a1, dropsL hp.drop⟩)⟩
 ·obtain ⟨E, t', u', r1, r2, r3, r4, r5, r6⟩ := new_both (d := d) (r := r) hX hok hC hs hm hI hno
  refine (act_refused (Q0 := fun X => Pd w X d r t' u' (oP W.heap.size (.cells (actRow on 8 n f tn) 48) :: oP P (.cells (pairK G d r k la lb ma mb) 45) :: (pa ++ pb))) (Q := fun X => Pd w X d r t' u' (oP W.heap.size (.cells (actRow on 8 n f tn) 48) :: oP P (.cells (pairK G d r k (.pointer none) lb (.pointer none) mb) 45) :: (pa ++ pb))) (ActI.ofPd h ho 8 n f tn) hW (two_pd (r1 w) (r2 w)) (fun _ h => h.kl) fun X hP => hP.slot ho _ _).mono ?_
  rintro e W' ⟨he, hp⟩
  exact ⟨he, .pointer none, lb, .pointer none, mb, .inl ⟨t', u', [], pb, .inl ⟨rfl, rfl, rfl⟩, hb1 hno t' r6, r3, r4.mono (by omega), ⟨r5.1, by have := r5.2; omega⟩, drops hp.drop⟩⟩
theorem S3.new (h : S3 w P d r G m k la lb ma mb W) (hm : m ≤ 1000000) (ho : Of k on) : Calls Tryz.prog 8 #[.pointer (some ⟨P, 0, none⟩), .agg (actRow on 8 n f tn)] W fun e W' => e = .returned (.bool true) ∧ S4 w P d r G (m + 600) k W' := by
 obtain ⟨x0, x1, x2, x3, x4, x5, x6, x7, x8, hI, hl, hW⟩ := where_any G.1 G.2.1 G.2.2 tn
 rcases h with ⟨t, u, pa, pb, h1, h2, h3, h4, h5, h6⟩ | ⟨g, q, x, t, book, y, u, pb, rfl, rfl, h3, h4, h5⟩ | ⟨g, q, x, t, book, y, u, pb, rfl, rfl, h3, h4, h5⟩
 ·refine pd_new hI hl hW h6 h3 h4 h5 hm ho (fun _ t' ht => h2.to ?_) fun hd => h2.to fun _ q => q.reads.claim
  rcases ht with rfl | rfl
  ·exact fun _ q => q
  ·exact fun _ q => q.reads
 ·obtain ⟨c, mb', v, Y, rfl, h6⟩ := h5.pd
  refine pd_new hI hl hW (h6.perm front_pair) h4.sim h4.cap h4.seen hm ho (fun _ t' ht => h3.to ?_) fun hd => h3.to fun _ q => q.reads.claim
  rcases ht with rfl | rfl
  ·exact fun _ q => q
  ·exact fun _ q => q.reads
 ·rw [pairK_flip] at h5
  obtain ⟨s, hInv, hk⟩ := h5.inv
  by_cases hno : H.standsB x0 x1 x2 x3 x4 x5 x6 x7 x8 = true ∧ x0 ≤ t.n ∧ t.stopped = false ∧ tgT x0 x1 t = [] ∧ tgE x0 x1 t = 0
  ·obtain ⟨c, mb', v, Y, rfl, h6⟩ := h5.pd
   exact pd_new hI hl hW (h6.perm behind_pair) h4.sim h4.cap h4.seen hm ho (fun q => absurd hno q) fun hd => gone_row h4 (lost_claim (by show x.claim ≤ t.claims; rw [(live_le h4.live).1]; exact Int.le_refl _) hd)
  ·obtain ⟨E, t', u', r1, r2, r3, r4, r5, r6⟩ := new_both (d := d) (r := r) h4.sim hk h4.cap h4.seen hm hI hno
   obtain ⟨a1, a2, a3, a4⟩ := h4.touch r6 r3 r5
   refine (act_refused (Q0 := fun X => Lv w X g q d r x t' book y u' (oP W.heap.size (.cells (actRow on 8 n f tn) 48) :: oP P (.cells (pairK G d r k la (.pointer (some ⟨g, 0, none⟩)) ma (.pointer (some ⟨q, 0, none⟩))) 45) :: pb)) (Q := fun X => Lv w X g q d r x t' book y u' (oP W.heap.size (.cells (actRow on 8 n f tn) 48) :: oP P (.cells (pairK G d r k (.pointer none) (.pointer (some ⟨g, 0, none⟩)) (.pointer none) (.pointer (some ⟨q, 0, none⟩))) 45) :: pb)) (ActI.ofLv h5 ho 8 n f tn) hW (two_lv a2 a3 (r1 w) (r2 w)) (fun _ h => h.kl) fun X hP => hP.slot ho _ _).mono ?_
   rintro e W' ⟨he, hp⟩
   refine ⟨he, .pointer none, _, .pointer none, _, .inr (.inr ⟨g, q, x, t', book, y, u', [], rfl, rfl, .inl ⟨rfl, rfl, rfl⟩, a1.mono (by omega), ?_⟩)⟩
   rw [pairK_flip]
   have hp2 := hp.drop
   have hp3 : Lv w W' g q d r x t' book y u' (oP P (.cells (pairK G d r k (.pointer none) (.pointer (some ⟨g, 0, none⟩)) (.pointer none) (.pointer (some ⟨q, 0, none⟩))) 45) :: (pb ++ [])) := by rw [List.append_nil]; exact hp2
   exact dropsL hp3
theorem S4.mono (h : S4 w P d r G m k W) (hm : m ≤ m') : S4 w P d r G m' k W := by
 obtain ⟨la, lb, ma, mb, h⟩ := h
 exact ⟨la, lb, ma, mb, h.mono hm⟩
theorem act_any (h : S4 w P d r G m k W) (hm : m ≤ 1000000) (hn : H.I64 n) (hf : 0 ≤ f ∧ f ≤ 255) : Calls Tryz.prog 8 #[.pointer (some ⟨P, 0, none⟩), .agg (actRow on c n f tn)] W fun e W' => e = .returned (.bool true) ∧ ∃ k, S4 w P d r G (m + 600) k W' := by
 have key : ∀ k, Of k on → S4 w P d r G m k W → Calls Tryz.prog 8 #[.pointer (some ⟨P, 0, none⟩), .agg (actRow on c n f tn)] W fun e W' => e = .returned (.bool true) ∧ ∃ k, S4 w P d r G (m + 600) k W' := fun k ho h => by
  obtain ⟨la, lb, ma, mb, h⟩ := h
  by_cases c5 : c = 5
  ·subst c5
   exact (h.fuse ho hn).mono fun _ _ ⟨a, b⟩ => ⟨a, k, b.mono (by omega)⟩
  by_cases c6 : c = 6
  ·subst c6
   exact (h.crash hm ho hn).mono fun _ _ ⟨a, b⟩ => ⟨a, k, b.mono (by omega)⟩
  by_cases c7 : c = 7
  ·subst c7
   exact (h.recover hm ho).mono fun _ _ ⟨a, b⟩ => ⟨a, k, b.mono (by omega)⟩
  by_cases c8 : c = 8
  ·subst c8
   exact (h.new hm ho).mono fun _ _ ⟨a, b⟩ => ⟨a, k, b⟩
  ·exact (h.log hm ho ⟨c5, c6, c7, c8⟩ hf).mono fun _ _ ⟨a, b⟩ => ⟨a, k, b⟩
 have hof : ∃ k', Of k' on := by
  unfold Of
  rcases Int.emod_two_eq on with q | q
  ·exact ⟨false, q⟩
  ·exact ⟨true, q⟩
 obtain ⟨k', ho⟩ := hof
 by_cases hk : k' = k
 ·exact key k' ho (by rw [hk]; exact h)
 ·refine key k' ho ?_
  obtain ⟨la, lb, ma, mb, h⟩ := h
  have e : k' = !k := by cases k <;> cases k' <;> simp_all
  rw [e]
  exact ⟨_, _, _, _, h.flip⟩
end
end Go.Proofs.YtichojdcoegboaaGreatW
