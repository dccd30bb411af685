/- Several texts joined: the log, its cache and its disk, of the program and of the document; no condition. -/
import Derived.Test.YtichojdcoegboaaGreatK12
import Derived.Deep.LoopGhost
namespace Go.Proofs.YtichojdcoegboaaGreatW
open Go.RowKit Go.Maps
def placeR (n : Int) (r : List Hld) : List Hld := if (r.length : Int) < n then r else r.eraseP (fun h => !h.fast)
theorem split_fast (M : Nat → Nd) : ∀ ns : List Nat, fastN (ns.map (hld M)) < ns.length → ∃ p g q, ns = p ++ g :: q ∧ (∀ a ∈ p, (M a).fast = true) ∧ (M g).fast = false
 | [], h => by simp [fastN] at h
 | a :: t, h => by
  cases ha : (M a).fast
  ·exact ⟨[], a, t, rfl, by simp, ha⟩
  ·have h' : fastN (t.map (hld M)) < t.length := by
    simp only [fastN, List.map_cons, List.countP_cons, List.length_cons, hld, ha, if_pos] at h ⊢
    omega
   obtain ⟨p, g, q, h1, h2, h3⟩ := split_fast M t h'
   refine ⟨a :: p, g, q, by rw [h1]; rfl, ?_, h3⟩
   intro x hx
   rcases List.mem_cons.1 hx with rfl | hx
   ·exact ha
   ·exact h2 x hx
theorem eraseP_split {α : Type} {f : α → Bool} {p q : List α} {x : α} (hp : ∀ a ∈ p, f a = false) (hx : f x = true) : (p ++ x :: q).eraseP f = p ++ q := by
 induction p with
 | nil => simp [hx]
 | cons a t ih =>
  have ha := hp a (by simp)
  simp only [List.cons_append, List.eraseP, ha]
  rw [ih fun b hb => hp b (List.mem_cons_of_mem _ hb)]
  rfl
theorem CacheAt.out {w w' : World} {K : KLoc} {s : CSt} (h : CacheAt w K s) {p q : List Nat} {g : Nat} (hns : K.ns = p ++ g :: q) {s' : CSt} (hsz : s'.size = s.size) (hrow : s'.row = (p ++ q).map (hld K.M))
  (hc : w'.heap[K.c]? = some (.cells (ckRow K s') 142)) (hm : MapIs Tryz.prog 3 w' K.mb (fun y => if y = posOf K.M g then none else mapV K.M K.ns y))
  (hN : Nodes w' (leaveM K.M g) (fun k => k = K.e ∨ k ∈ K.ns)) : CacheAt w' { K with ns := p ++ q, M := leaveM K.M g } s' := by
 have hpos : ∀ x, posOf (leaveM K.M g) x = posOf K.M x := fun x => (leave_rest K.M g x).1
 have hh : ∀ x, hld (leaveM K.M g) x = hld K.M x := fun x => by
  obtain ⟨a1, a2, a3⟩ := leave_rest K.M g x
  unfold hld
  rw [a1, a2, a3]
 have hsub : ∀ x, x ∈ p ++ q → x ∈ K.ns := fun x hx => by rw [hns]; simp at hx ⊢; rcases hx with h | h <;> simp [h]
 have hnd := h.nd
 rw [hns] at hnd
 have hsubl : (p ++ q).Sublist (p ++ g :: q) := List.Sublist.append_left (List.sublist_cons_self ..) _
 refine ⟨hc, ?_, hN.mono fun x hx => hx.imp id (hsub x), ?_, ?_, ?_, ?_⟩
 ·rw [hns] at hm
  have := mapV_del (M := K.M) (M' := leaveM K.M g) (p := p) (q := q) (g := g) (by rw [← hns]; exact h.posNd) fun x _ => hpos x
  rw [this] at hm
  exact hm
 ·exact leave_seg hnd (by rw [← hns]; exact h.ring)
 ·exact hnd.sublist (hsubl.cons_cons K.e)
 ·rw [hrow]
  exact List.map_congr_left fun x _ => (hh x).symm
 ·have hrs : s'.row.Sublist s.row := by rw [hrow, h.holds, hns]; exact hsubl.map _
  refine ⟨by rw [hsz]; exact h.ok.size, ?_, fun x hx => h.ok.pos x (hrs.subset hx), h.ok.nodup.sublist (hrs.map _)⟩
  have := hrs.length_le
  have := h.ok.len
  rw [hsz]
  omega
variable {w : World} {K : KLoc} {s : CSt}
set_option maxRecDepth 20000 in
set_option maxHeartbeats 2000000 in
theorem place_of (h : CacheAt w K s) (hf : (s.row.length : Int) < s.size ∨ fastN s.row < s.row.length) :
  Calls Tryz.prog 136 #[ptr K.c] w fun e w' => e = .returned (.tuple #[]) ∧ ∃ K', CacheAt w' K' { s with row := placeR s.size s.row } ∧ K'.c = K.c ∧ K'.d = K.d ∧ K'.e = K.e ∧ K'.mb = K.mb ∧ (∀ k ∈ K'.ns, k ∈ K.ns) ∧ Fr K.has w w' := by
 obtain ⟨D, hown, hV, hsz⟩ := h.size_is
 have c2 := h.c2
 have c3 := h.c3
 have c4 := h.c4
 have hD : w.drew.ownsMap Tryz.prog 3 valElem K.mb top D := hown
 unfold placeR
 by_cases hlt : (s.row.length : Int) < s.size
 ·rw [if_pos hlt]
  have H : Hid (CacheAt w.drew K s) := h.fr (Fr.drew (T := fun _ => False) w) fun _ _ q => q
  have hlen := fun ty => hD.len Tryz.underlying140 ty
  rw [hsz] at hlen
  clear h hf hD hown
  unfold ptr at *
  go_enter Tryz.func136, Tryz.ntmps136
  go_wp2_with (fail)
  go_region
  go_wp2
  refine bodyPost_ret (results_none rfl _ _ _) rfl ?_
  exact ⟨rfl, K, H.out, rfl, rfl, rfl, rfl, fun _ q => q, Fr.drew w⟩
 ·rw [if_neg hlt]
  have hfr : fastN s.row < s.row.length := hf.resolve_left hlt
  rw [h.holds] at hfr
  obtain ⟨p, g, q, hns, hp, hg⟩ := split_fast K.M K.ns (by simpa using hfr)
  have hgm : g ∈ K.ns := by rw [hns]; simp
  have hlen := fun ty => hD.len Tryz.underlying140 ty
  rw [hsz] at hlen
  have hring := h.ring
  have e3 : w.drew.cell? ⟨K.e, 3, none⟩ = some (ptr (K.M K.e).nx) := (h.nodes K.e (.inl rfl)).c3
  rw [seg_first hring] at e3
  have c4' : w.drew.cell? ⟨K.c, 4, none⟩ = some (ptr K.e) := c4
  have hfx : ∀ x ∈ K.ns, w.drew.cell? ⟨x, 1, none⟩ = some (.bool (K.M x).fast) ∧ w.drew.cell? ⟨x, 3, none⟩ = some (ptr (K.M x).nx) := fun x hx => ⟨(h.nodes x (.inr hx)).c1, (h.nodes x (.inr hx)).c3⟩
  have hnx : ∀ a x y b, K.ns = a ++ x :: y :: b → (K.M x).nx = y := fun a x y b e => by
   rw [e] at hring
   exact ((seg_append _ _ _ _ _ _).1 hring).2.1.1
  have HX : Hid (∀ x ∈ K.ns, w.drew.cell? ⟨x, 1, none⟩ = some (.bool (K.M x).fast) ∧ w.drew.cell? ⟨x, 3, none⟩ = some (ptr (K.M x).nx)) := hfx
  have HNX : Hid (∀ a x y b, K.ns = a ++ x :: y :: b → (K.M x).nx = y) := hnx
  have HP : Hid (∀ a ∈ p, (K.M a).fast = true) := hp
  have HNS : Hid (K.ns = p ++ g :: q) := hns
  have hstart : ∃ a x b, p ++ [g] = a ++ x :: b ∧ (K.ns ++ [K.e]).headD 0 = x ∧ b.length = p.length := by
   rw [hns]
   cases p with
   | nil => exact ⟨[], g, [], rfl, rfl, rfl⟩
   | cons a t => exact ⟨[], a, t ++ [g], rfl, rfl, by simp⟩
  have HST : Hid (∃ a x b, p ++ [g] = a ++ x :: b ∧ (K.ns ++ [K.e]).headD 0 = x ∧ b.length = p.length) := hstart
  have near := seg_near (p := p) (q := q) (h := g) (e := K.e) (M := K.M) (by rw [← hns]; exact hring)
  have HC : Hid (CacheAt w.drew K s) := h.fr (Fr.drew (T := fun _ => False) w) fun _ _ q => q
  have hnp : (K.M g).pv = K.e ∨ (K.M g).pv ∈ K.ns := by
   rw [hns]
   rcases List.mem_cons.1 near.1 with q | q
   ·exact .inl q
   ·exact .inr (by simp [q])
  have hnn : (K.M g).nx = K.e ∨ (K.M g).nx ∈ K.ns := by
   rw [hns]
   rcases List.mem_append.1 near.2 with q | q
   ·exact .inr (by simp [q])
   ·exact .inl (by simpa using q)
  have HL : Hid (Calls Tryz.prog 135 #[ptr g] w.drew fun e w' => e = .returned (.tuple #[]) ∧ Nodes w' (leaveM K.M g) (fun k => k = K.e ∨ k ∈ K.ns) ∧ Fr (fun k => k = (K.M g).pv ∨ k = (K.M g).nx) w.drew w') :=
   leave_of HC.out.nodes (.inr hgm) hnp hnn
  clear h hf hD hown hfr hfx hnx hp hns hstart near hring hsz hV
  generalize (K.ns ++ [K.e]).headD 0 = x0 at *
  unfold ptr at c2 c3 c4 c4' e3
  have hlt' : ¬ (s.row.length : Int) < s.size := hlt
  unfold ptr
  go_enter Tryz.func136, Tryz.ntmps136
  go_wp2_with (fail)
  go_region
  clear hlen
  generalize hV : w.drew = V at *
  go_wp2_with (fail)
  go_loopg [2] p.length (fun k s2 wx => ∃ a x b, p ++ [g] = a ++ x :: b ∧ s2 = .pointer (some ⟨x, 0, none⟩) ∧ k = b.length ∧ wx = V)
  case atStart =>
   obtain ⟨a, x, b, h1, h2, h3⟩ := HST.out
   exact ⟨a, x, b, h1, by rw [h2], h3.symm, rfl⟩
  case round =>
   obtain ⟨a, x, b, hab, rfl, rfl, rfl⟩ := hrel
   cases b with
   | cons y b' =>
    have e1 : p = a ++ x :: (y :: b').dropLast := by
     have := congrArg List.dropLast hab
     simpa [List.dropLast_append_of_ne_nil] using this
    have hxp : x ∈ p := by rw [e1]; simp
    have hxn : x ∈ K.ns := by rw [HNS.out]; simp [hxp]
    obtain ⟨x1, x3⟩ := HX.out x hxn
    rw [HP.out x hxp] at x1
    have e2 : K.ns = a ++ x :: y :: (b' ++ q) := by
     rw [HNS.out, show p ++ g :: q = (p ++ [g]) ++ q by simp, hab]
     simp
    rw [HNX.out a x y _ e2] at x3
    unfold ptr at x3
    clear e1 e2 hxp hxn
    go_wp2
    go_roundg b'.length
    case measure => simp
    case rel => exact ⟨a ++ [x], y, b', by rw [hab]; simp, rfl, rfl, rfl⟩
   | nil =>
    have hxg : x = g := by
     have := congrArg (fun l => l.getLast?) hab
     simpa using this.symm
    subst hxg
    obtain ⟨x1, _⟩ := HX.out x hgm
    rw [hg] at x1
    clear hab
    go_wp2_with (go_at_call 135; fail)
    refine HL.out.mono ?_
    rintro e W1 ⟨rfl, hN1, hF1⟩
    have hC := HC.out
    have hcn : K.c ≠ (K.M x).pv ∧ K.c ≠ (K.M x).nx := ⟨(hC.cne hnp).symm, (hC.cne hnn).symm⟩
    have hmn : K.mb ≠ (K.M x).pv ∧ K.mb ≠ (K.M x).nx := ⟨(hC.mne hnp).symm, (hC.mne hnn).symm⟩
    have d3 : W1.cell? ⟨K.c, 3, none⟩ = some (.map (some K.mb)) := by
     rw [Joins.cell_of_block ((hF1.block K.c (hC.lt _ (.inl rfl)) (by rintro (q | q); exact hcn.1 q; exact hcn.2 q)).trans hC.row)]
     rfl
    have x0' : W1.cell? ⟨x, 0, none⟩ = some (.int .i64 (posOf K.M x)) := by
     have := (hN1 x (.inr hgm)).c0
     rw [(leave_rest K.M x x).1] at this
     exact this
    have hmW : MapIs Tryz.prog 3 W1.drew K.mb (mapV K.M K.ns) := hC.map.kept (hF1.block K.mb (hC.lt _ (.inr (.inl rfl))) (by rintro (q | q); exact hmn.1 q; exact hmn.2 q))
    have hposW : (Lit.int .i64 (posOf K.M x)).wf = true := inTop.wf (hC.ok.pos (hld K.M x) (by rw [hC.holds]; exact List.mem_map.2 ⟨x, hgm, rfl⟩)).1
    have HF : Hid (∀ w', MapIs Tryz.prog 3 w' K.mb (fun y => if y = posOf K.M x then none else mapV K.M K.ns y) → W1.drew.grownBy w' (some K.mb) →
      ∃ K', CacheAt w' K' { s with row := List.eraseP (fun h => !h.fast) s.row } ∧ K'.c = K.c ∧ K'.d = K.d ∧ K'.e = K.e ∧ K'.mb = K.mb ∧ (∀ k ∈ K'.ns, k ∈ K.ns) ∧ Fr K.has w w') := by
     intro w' hm' hg'
     have f2 : Fr (fun i => i = K.mb) W1 w' := (Fr.drew W1).trans ((Fr.ofGrown hg').mono fun i _ q => by injection q with q; exact q.symm) fun _ _ q => q
     have f3 : Fr K.has wr w' := (hF1.mono (T' := K.has) fun i _ q => by
      rcases q with rfl | rfl
      ·exact .inr (.inr hnp)
      ·exact .inr (.inr hnn)).trans f2 fun i _ q => by rw [q]; exact .inr (.inl rfl)
     have f4 : Fr K.has w w' := by
      have := (Fr.drew (T := K.has) w)
      rw [hV] at this
      exact this.trans f3 fun _ _ q => q
     have hN2 : Nodes w' (leaveM K.M x) (fun k => k = K.e ∨ k ∈ K.ns) := hN1.kept fun k hk => f2.block k (by have := hC.lt k (.inr (.inr hk)); have := hF1.size; omega) (hC.mne hk)
     have hrow : s.row = p.map (hld K.M) ++ hld K.M x :: q.map (hld K.M) := by rw [hC.holds, HNS.out]; simp
     have her : List.eraseP (fun h => !h.fast) s.row = (p ++ q).map (hld K.M) := by
      rw [hrow, eraseP_split (x := hld K.M x) (fun a ha => by
       obtain ⟨y, hy, rfl⟩ := List.mem_map.1 ha
       show (!(K.M y).fast) = false
       rw [HP.out y hy]; rfl) (by show (!(K.M x).fast) = true; rw [hg]; rfl), List.map_append]
     have hfn : fastN (List.eraseP (fun h => !h.fast) s.row) = fastN s.row := by
      rw [her, hrow]
      have : (hld K.M x).fast = false := hg
      simp [fastN, List.countP_append, this]
     refine ⟨_, hC.out HNS.out (s' := { s with row := List.eraseP (fun h => !h.fast) s.row }) rfl her ?_ hm' hN2, rfl, rfl, rfl, rfl, ?_, f4⟩
     ·have e1 : ckRow K { s with row := List.eraseP (fun h => !h.fast) s.row } = ckRow K s := by unfold ckRow; simp only [hfn]
      rw [e1]
      refine (f2.block K.c (by have := hC.lt _ (.inl rfl); have := hF1.size; omega) hC.cm).trans ?_
      exact (hF1.block K.c (hC.lt _ (.inl rfl)) (by rintro (q | q); exact hcn.1 q; exact hcn.2 q)).trans hC.row
     ·intro k hk
      rw [HNS.out]
      have hk' : k ∈ p ++ q := hk
      simp at hk' ⊢
      rcases hk' with h | h <;> simp [h]
    clear hN1 hF1 HL HC hC HX HNX HST HP HNS hV e3 c4' hcn hmn
    go_wp2_with (fail)
    go_still_tail 8, (by kernel_rfl)
    change wpList _ _ _ _ _ (World.drew _)
    refine wpList_delM rfl (.tmp 33) (.tmp 37) 140 rfl 137 Tryz.underlying3 keyed3 Tryz.underlying140 K.mb _ rfl hmW (posOf K.M x) hposW rfl ?_
    intro w' hm' hg'
    have HR := HF.out w' hm' hg'
    have HR' : Hid _ := HR
    clear HF HR hm' hg' hmW
    go_wp2
    go_end0
    exact ⟨rfl, HR'.out⟩
end Go.Proofs.YtichojdcoegboaaGreatW
namespace Go.Proofs.YtichojdcoegboaaGreatW
open Go.RowKit Go.Maps
theorem setM_self (M : Nat → Nd) (g : Nat) : setM M g (M g) = M := by
 funext k
 unfold setM
 split
 ·next h => rw [h]
 ·rfl
theorem setM_other (M : Nat → Nd) (g : Nat) (n : Nd) {k : Nat} (h : k ≠ g) : setM M g n k = M k := by unfold setM; rw [if_neg h]
theorem setM_same (M : Nat → Nd) (g : Nat) (n : Nd) : setM M g n g = n := by unfold setM; rw [if_pos rfl]
theorem cache_stood {w : World} {K : KLoc} {s : CSt} {M : Nat → Nd} {ns : List Nat} {g : Nat} {n : Nd} (hnd : (g :: K.e :: ns).Nodup) (hseg : seg (Lnk M) K.e ns K.e)
  (hc : w.heap[K.c]? = some (.cells (ckRow K s) 142)) (hm : MapIs Tryz.prog 3 w K.mb (mapV (standM (setM M g n) g K.e) (ns ++ [g])))
  (hN : Nodes w (standM (setM M g n) g K.e) (fun k => k = g ∨ k = K.e ∨ k ∈ ns)) (hrow : s.row = ns.map (hld M) ++ [⟨n.pos, n.fast, n.dat⟩]) (hok : COk s) :
  CacheAt w { K with ns := ns ++ [g], M := standM (setM M g n) g K.e } s := by
 have hgn : ∀ x, x ∈ K.e :: ns → x ≠ g := fun x hx e => (List.nodup_cons.1 hnd).1 (e ▸ hx)
 have hh : ∀ x, hld (standM (setM M g n) g K.e) x = hld (setM M g n) x := fun x => by
  obtain ⟨a1, a2, a3⟩ := stand_rest (setM M g n) g K.e x
  unfold hld
  rw [a1, a2, a3]
 refine ⟨hc, hm, hN.mono fun x hx => ?_, stand_seg hnd ?_, ?_, ?_, hok⟩
 ·rcases hx with h | h
  ·exact .inr (.inl h)
  ·have h : x ∈ ns ++ [g] := h
   simp at h
   rcases h with h | h
   ·exact .inr (.inr h)
   ·exact .inl h
 ·refine seg_mono _ _ _ hseg fun x y hx hy hl => ?_
  have hy' : y ∈ K.e :: ns := by simp at hy ⊢; rcases hy with h | h <;> simp [h]
  unfold Lnk
  rw [setM_other _ _ _ (hgn x hx), setM_other _ _ _ (hgn y hy')]
  exact hl
 ·have : (ns ++ [g]).Perm (g :: ns) := List.perm_append_comm (l₁ := ns) (l₂ := [g])
  have h2 : (K.e :: (ns ++ [g])).Perm (K.e :: g :: ns) := this.cons _
  exact ((h2.trans (List.Perm.swap ..)).nodup_iff).2 hnd
 ·rw [hrow, List.map_append]
  congr 1
  ·refine List.map_congr_left fun x hx => ?_
   rw [hh x]
   unfold hld
   rw [setM_other _ _ _ (hgn x (List.mem_cons_of_mem _ hx))]
  ·show _ = [hld (standM (setM M g n) g K.e) g]
   rw [hh g]
   unfold hld
   rw [setM_same]
variable {w : World} {K : KLoc} {L : Loc} {s : CSt} {t : St}
theorem use_bad (h : CD w K L s t) {k : Int} (hb : refV t k ≠ 0) : Calls Tryz.prog 107 #[ptr K.c, .int .i64 k] w fun e w' => e = .returned (.tuple #[nilp, .bool false, .int .i64 (refV t k)]) ∧ w' = w := by
 have hR := refusesC_of h k
 have hne : (refV t k != 0) = true := by simp [hb]
 clear h hb
 generalize refV t k = r at *
 unfold ptr nilp at *
 go_enter Tryz.func107, Tryz.ntmps107
 go_wp2_with (first | (go_at_call 134; refine hR.mono ?_; rintro e W ⟨rfl, rfl⟩))
 go_ret3
 exact ⟨rfl, rfl⟩
theorem zero71 (u : World) : (zeroValue 137).run Tryz.prog u = .ok nilp u := by
 have h : (Tryz.prog.info? 137).map (fun i => (i.zero, i.size)) = some (some nilp, 1) := by kernel_rfl
 exact (zero_of_info h).1 u
set_option maxRecDepth 20000 in
set_option maxHeartbeats 2000000 in
theorem use_held (h : CD w K L s t) {k : Int} (hb : refV t k = 0) {p q : List Nat} {g : Nat} (hns : K.ns = p ++ g :: q) (hg : posOf K.M g = k) :
  Calls Tryz.prog 107 #[ptr K.c, .int .i64 k] w fun e w' => e = .returned (.tuple #[ptr g, .bool false, .int .i64 0]) ∧
   ∃ M', CacheAt w' { K with ns := (p ++ q) ++ [g], M := M' } { s with row := (p ++ q).map (hld K.M) ++ [hld K.M g] } ∧ hld M' g = hld K.M g ∧ Fr K.has w w' := by
 have hR := refusesC_of h k
 rw [hb] at hR
 have hC := h.cache
 have hgm : g ∈ K.ns := by rw [hns]; simp
 have hwf : (Lit.int .i64 k).wf = true := inTop.wf (inTop_of h.disk.ok (refV_ok hb).2)
 have hmv : mapV K.M K.ns k = some (ptr g) := by rw [← hg]; exact mapV_some hC.posNd hgm
 have hmap := hC.map
 have c3 := hC.c3
 have c4 := hC.c4
 have near := seg_near (p := p) (q := q) (h := g) (e := K.e) (M := K.M) (by rw [← hns]; exact hC.ring)
 have hnp : (K.M g).pv = K.e ∨ (K.M g).pv ∈ K.ns := by
  rw [hns]
  rcases List.mem_cons.1 near.1 with q | q
  ·exact .inl q
  ·exact .inr (by simp [q])
 have hnn : (K.M g).nx = K.e ∨ (K.M g).nx ∈ K.ns := by
  rw [hns]
  rcases List.mem_append.1 near.2 with q | q
  ·exact .inr (by simp [q])
  ·exact .inl (by simpa using q)
 have hL := leave_of hC.nodes (.inr hgm) hnp hnn
 have hnd := hC.nd
 rw [hns] at hnd
 have hnd2 : (g :: K.e :: (p ++ q)).Nodup := by
  have e1 : (K.e :: (p ++ g :: q)).Perm (g :: K.e :: (p ++ q)) := (List.perm_middle.cons K.e).trans (List.Perm.swap ..)
  exact (e1.nodup_iff).1 hnd
 have hseg := leave_seg hnd (by rw [← hns]; exact hC.ring)
 have z71 := zero71
 have HS : Hid (∀ W, Nodes W (leaveM K.M g) (fun k => k = K.e ∨ k ∈ K.ns) → Fr (fun k => k = (K.M g).pv ∨ k = (K.M g).nx) w W →
   W.cell? ⟨K.c, 4, none⟩ = some (ptr K.e) ∧ Calls Tryz.prog 137 #[ptr g, ptr K.e] W fun x w' => x = .returned (.tuple #[]) ∧
   ∃ M', CacheAt w' { K with ns := (p ++ q) ++ [g], M := M' } { s with row := (p ++ q).map (hld K.M) ++ [hld K.M g] } ∧ hld M' g = hld K.M g ∧ Fr K.has w w') := by
  intro W hN hF
  have hcn : K.c ≠ (K.M g).pv ∧ K.c ≠ (K.M g).nx := ⟨(hC.cne hnp).symm, (hC.cne hnn).symm⟩
  have hmn : K.mb ≠ (K.M g).pv ∧ K.mb ≠ (K.M g).nx := ⟨(hC.mne hnp).symm, (hC.mne hnn).symm⟩
  have hcW : W.heap[K.c]? = some (.cells (ckRow K s) 142) := (hF.block K.c (hC.lt _ (.inl rfl)) (by rintro (q | q); exact hcn.1 q; exact hcn.2 q)).trans hC.row
  have hmW : MapIs Tryz.prog 3 W K.mb (mapV K.M K.ns) := hC.map.kept (hF.block K.mb (hC.lt _ (.inr (.inl rfl))) (by rintro (q | q); exact hmn.1 q; exact hmn.2 q))
  refine ⟨by rw [Joins.cell_of_block hcW]; rfl, ?_⟩
  have hsub : ∀ x, x ∈ p ++ q → x ∈ K.ns := fun x hx => by rw [hns]; simp at hx ⊢; rcases hx with h | h <;> simp [h]
  have hgS : ¬ (g = K.e ∨ g ∈ p ++ q) := by
   rintro (e | e)
   ·exact (List.nodup_cons.1 hnd2).1 (by rw [e]; simp)
   ·exact (List.nodup_cons.1 hnd2).1 (List.mem_cons_of_mem _ e)
  have hlast : (leaveM K.M g K.e).pv = K.e ∨ (leaveM K.M g K.e).pv ∈ p ++ q := by
   rcases List.mem_cons.1 (seg_last hseg) with h | h
   ·exact .inl h
   ·exact .inr h
  have hst := stand_of (S := fun x => x = K.e ∨ x ∈ p ++ q) (hN.mono fun x hx => hx.imp id (hsub x)) (h := g) (e := K.e) (n := leaveM K.M g g) hgS (.inl rfl) hlast (hN g (.inr hgm))
  refine hst.mono ?_
  rintro e w' ⟨rfl, hN2, hF2⟩
  have hF3 : Fr K.has w w' := (hF.mono (T' := K.has) fun i _ q => by
    rcases q with rfl | rfl
    ·exact .inr (.inr hnp)
    ·exact .inr (.inr hnn)).trans hF2 fun i _ q => by
   rcases q with rfl | rfl | rfl
   ·exact .inr (.inr (.inr hgm))
   ·exact .inr (.inr (.inl rfl))
   ·exact .inr (.inr (hlast.imp id (hsub _)))
  have hT : ∀ x, (x = K.c ∨ x = K.mb) → ¬ (x = g ∨ x = K.e ∨ x = (leaveM K.M g K.e).pv) := by
   rintro x hx (e | e | e)
   ·rcases hx with rfl | rfl
    ·exact hC.cne (.inr hgm) e.symm
    ·exact hC.mne (.inr hgm) e.symm
   ·rcases hx with rfl | rfl
    ·exact hC.cne (.inl rfl) e.symm
    ·exact hC.mne (.inl rfl) e.symm
   ·rcases hx with rfl | rfl
    ·exact hC.cne (hlast.imp id (hsub _)) e.symm
    ·exact hC.mne (hlast.imp id (hsub _)) e.symm
  have hsz := hF.size
  have hlr : ∀ x, hld (leaveM K.M g) x = hld K.M x := fun x => by
   obtain ⟨a1, a2, a3⟩ := leave_rest K.M g x
   unfold hld
   rw [a1, a2, a3]
  have hrow : s.row = p.map (hld K.M) ++ hld K.M g :: q.map (hld K.M) := by rw [hC.holds, hns]; simp
  have hperm : ((p ++ q).map (hld K.M) ++ [hld K.M g]).Perm s.row := by
   rw [hrow, List.map_append]
   refine (List.perm_append_comm).trans ?_
   exact (List.perm_middle (l₁ := p.map (hld K.M)) (l₂ := q.map (hld K.M)) (a := hld K.M g)).symm
  have hfn : fastN ((p ++ q).map (hld K.M) ++ [hld K.M g]) = fastN s.row := hperm.countP_eq _
  have hok : COk { s with row := (p ++ q).map (hld K.M) ++ [hld K.M g] } :=
   ⟨hC.ok.size, by show (((p ++ q).map (hld K.M) ++ [hld K.M g]).length : Int) ≤ s.size; rw [hperm.length_eq]; exact hC.ok.len, fun x hx => hC.ok.pos x (hperm.subset hx), ((hperm.map _).nodup_iff).2 hC.ok.nodup⟩
  have hpM : ∀ x, posOf (standM (setM (leaveM K.M g) g (leaveM K.M g g)) g K.e) x = posOf K.M x := fun x => by
   rw [setM_self]
   exact ((stand_rest (leaveM K.M g) g K.e x).1).trans (leave_rest K.M g x).1
  have hnsp : ((p ++ q) ++ [g]).Perm K.ns := by
   rw [hns]
   exact (List.perm_append_comm).trans (List.perm_middle (l₁ := p) (l₂ := q) (a := g)).symm
  refine ⟨rfl, standM (setM (leaveM K.M g) g (leaveM K.M g g)) g K.e, ?_, ?_, hF3⟩
  ·refine cache_stood (K := K) (s := { s with row := (p ++ q).map (hld K.M) ++ [hld K.M g] }) hnd2 hseg ?_ ?_ hN2 ?_ hok
   ·have e1 : ckRow K { s with row := (p ++ q).map (hld K.M) ++ [hld K.M g] } = ckRow K s := by unfold ckRow; simp only [hfn]
    rw [e1]
    exact (hF2.block K.c (by have := hC.lt _ (.inl rfl); omega) (hT _ (.inl rfl))).trans hcW
   ·have e1 := mapV_ext (M := K.M) (M' := standM (setM (leaveM K.M g) g (leaveM K.M g g)) g K.e) (ns := K.ns) (ns' := (p ++ q) ++ [g]) hC.posNd
     (by rw [List.map_congr_left fun x _ => hpM x]; exact ((hnsp.map _).nodup_iff).2 hC.posNd) (fun x => (hnsp.mem_iff).symm) fun x _ => hpM x
    rw [← e1]
    exact hmW.kept (hF2.block K.mb (by have := hC.lt _ (.inr (.inl rfl)); omega) (hT _ (.inr rfl)))
   ·show (p ++ q).map (hld K.M) ++ [hld K.M g] = _
    congr 1
    ·exact List.map_congr_left fun x _ => (hlr x).symm
    ·rw [← hlr g]
     rfl
  ·rw [setM_self]
   obtain ⟨a1, a2, a3⟩ := stand_rest (leaveM K.M g) g K.e g
   rw [← hlr g]
   unfold hld
   rw [a1, a2, a3]
 clear hb h hC hns hg hgm near hnp hnn hnd hnd2 hseg
 generalize (p ++ q).map (hld K.M) ++ [hld K.M g] = R at *
 have HL : Hid (Calls Tryz.prog 135 #[ptr g] w fun e w' => e = .returned (.tuple #[]) ∧ Nodes w' (leaveM K.M g) (fun k => k = K.e ∨ k ∈ K.ns) ∧ Fr (fun k => k = (K.M g).pv ∨ k = (K.M g).nx) w w') := hL
 clear hL
 unfold nilp at z71
 unfold ptr at c3 c4 hmv hR ⊢
 go_enter Tryz.func107, Tryz.ntmps107
 go_wp2_with (first | (go_at_call 134; refine hR.mono ?_; rintro e W ⟨rfl, rfl⟩) | (refine wpList_lookM_some rfl (.tmp 18) (.tmp 19) 140 rfl 137 Tryz.underlying3 keyed3 Tryz.underlying140 rfl hmap (z71 _) k hwf rfl _ hmv ?_) | (go_at_call 135; fail))
 refine HL.out.mono ?_
 rintro e W1 ⟨rfl, hN1, hF1⟩
 obtain ⟨d4, hst⟩ := HS.out W1 hN1 hF1
 unfold ptr at d4 hst
 have HST : Hid (Calls Tryz.prog 137 _ W1 _) := hst
 clear HS HL hN1 hF1 hst hmap
 go_wp2_with (go_at_call 137; fail)
 refine HST.out.mono ?_
 rintro e W2 ⟨rfl, M', h1, h2, h3⟩
 have H1 : Hid (CacheAt W2 _ _) := h1
 have H2 : Hid (hld M' g = hld K.M g) := h2
 have H3 : Hid (Fr K.has _ W2) := h3
 clear h1 h2 h3 HST
 go_wp2
 go_ret3
 exact ⟨rfl, M', H1.out, H2.out, H3.out⟩
end Go.Proofs.YtichojdcoegboaaGreatW
namespace Go.Proofs.YtichojdcoegboaaGreatW
open Go.RowKit Go.Maps
variable {w : World} {K : KLoc} {L : Loc} {s : CSt} {t : St}
theorem fastN_le (r : List Hld) : fastN r ≤ r.length := List.countP_le_length
theorem placeR_sub (n : Int) (r : List Hld) : (placeR n r).Sublist r := by
 unfold placeR
 split
 ·exact List.Sublist.refl _
 ·exact List.eraseP_sublist
theorem placeR_len (ok : COk s) (hf : (fastN s.row : Int) ≠ s.size) : ((placeR s.size s.row).length : Int) + 1 ≤ s.size := by
 have h1 := fastN_le s.row
 have h2 := ok.len
 unfold placeR
 split
 ·omega
 ·have hlt : fastN s.row < s.row.length := by omega
  have hex : ∃ a ∈ s.row, (!a.fast) = true := by
   apply Classical.byContradiction
   intro hn
   have : fastN s.row = s.row.length := List.countP_eq_length.2 fun a ha => by
    cases hq : a.fast
    ·exact absurd ⟨a, ha, by rw [hq]; rfl⟩ hn
    ·rfl
   omega
  obtain ⟨a, ha, hp⟩ := hex
  rw [List.length_eraseP_of_mem ha hp]
  omega
set_option maxRecDepth 20000 in
set_option maxHeartbeats 2000000 in
theorem use_full (h : CD w K L s t) {k : Int} (hb : refV t k = 0) (hno : ∀ g ∈ K.ns, posOf K.M g ≠ k) (hf : (fastN s.row : Int) = s.size) :
  Calls Tryz.prog 107 #[ptr K.c, .int .i64 k] w fun e w' => e = .returned (.tuple #[nilp, .bool false, .int .i64 160]) ∧ w' = w.drew := by
 have hR := refusesC_of h k
 rw [hb] at hR
 have hwf : (Lit.int .i64 k).wf = true := inTop.wf (inTop_of h.disk.ok (refV_ok hb).2)
 have hmv := mapV_none hno
 have hmap := h.cache.map
 have c2 := h.cache.c2
 have c3 := h.cache.c3
 have c5 := h.cache.c5
 rw [hf] at c5
 have z71 := zero71
 clear h hb hno hf
 unfold nilp at z71 ⊢
 unfold ptr at c3 hR ⊢
 go_enter Tryz.func107, Tryz.ntmps107
 go_wp2_with (first | (go_at_call 134; refine hR.mono ?_; rintro e W ⟨rfl, rfl⟩) | (refine wpList_lookM_none rfl (.tmp 18) (.tmp 19) 140 rfl 137 Tryz.underlying3 keyed3 Tryz.underlying140 rfl hmap (z71 _) k hwf rfl hmv ?_))
 go_region
 go_wp2
 go_ret3
 exact ⟨rfl, rfl⟩
set_option maxRecDepth 20000 in
set_option maxHeartbeats 2000000 in
theorem use_new (h : CD w K L s t) {k : Int} (hb : refV t k = 0) (hno : ∀ g ∈ K.ns, posOf K.M g ≠ k) (hf : (fastN s.row : Int) ≠ s.size) :
  Calls Tryz.prog 107 #[ptr K.c, .int .i64 k] w fun e w' => ∃ K' g l, e = .returned (.tuple #[ptr g, .bool true, .int .i64 0]) ∧ K'.ns = l ++ [g] ∧
   CacheAt w' K' { s with row := placeR s.size s.row ++ [⟨k, false, nought⟩] } ∧ hld K'.M g = ⟨k, false, nought⟩ ∧ K'.c = K.c ∧ K'.d = K.d ∧ (∀ i, K'.has i → K.has i ∨ w.heap.size ≤ i) ∧ Fr K.has w w' := by
 have hR := refusesC_of h k
 rw [hb] at hR
 have hin := inTop_of h.disk.ok (refV_ok hb).2
 have hwf : (Lit.int .i64 k).wf = true := inTop.wf hin
 have hmv := mapV_none hno
 have hC := h.cache
 have hmap := hC.map
 have c2 := hC.c2
 have c3 := hC.c3
 have c5 := hC.c5
 have z71 := zero71
 have hle := fastN_le s.row
 have hlen := hC.ok.len
 have hne : ((fastN s.row : Int) == s.size) = false := by simp [hf]
 have HD : CacheAt w.drew K s := hC.fr (Fr.drew (T := fun _ => False) w) fun _ _ q => q
 have HPl : Hid (Calls Tryz.prog 136 #[ptr K.c] w.drew fun e w' => e = .returned (.tuple #[]) ∧ ∃ K', CacheAt w' K' { s with row := placeR s.size s.row } ∧ K'.c = K.c ∧ K'.d = K.d ∧ K'.e = K.e ∧ K'.mb = K.mb ∧ (∀ k ∈ K'.ns, k ∈ K.ns) ∧ Fr K.has w.drew w') :=
  place_of HD (by omega)
 have hpl := placeR_len hC.ok hf
 have hps := placeR_sub s.size s.row
 have hposR : ∀ x ∈ placeR s.size s.row, x.pos ≠ k := by
  intro x hx
  have hx' := hps.subset hx
  rw [hC.holds] at hx'
  obtain ⟨g, hg, rfl⟩ := List.mem_map.1 hx'
  exact hno g hg
 have hnodR : ((placeR s.size s.row).map (·.pos)).Nodup := hC.ok.nodup.sublist (hps.map _)
 have hsize := hC.ok.size
 have hb98 := built98k k
 have HS : Hid (∀ W1 K1, CacheAt W1 K1 { s with row := placeR s.size s.row } → K1.c = K.c → K1.d = K.d → K1.e = K.e → K1.mb = K.mb → (∀ k ∈ K1.ns, k ∈ K.ns) → Fr K.has w.drew W1 →
   MapIs Tryz.prog 3 (W1.alloc (.cells (rowV k false nilp nilp nought) 139)) K.mb (mapV K1.M K1.ns) ∧
   (W1.alloc (.cells (rowV k false nilp nilp nought) 139)).cell? ⟨K.c, 3, none⟩ = some (.map (some K.mb)) ∧
   ∀ W3, MapIs Tryz.prog 3 W3 K.mb (fun y => if y = k then some (ptr W1.heap.size) else mapV K1.M K1.ns y) → (W1.alloc (.cells (rowV k false nilp nilp nought) 139)).grownBy W3 (some K.mb) →
    W3.cell? ⟨K.c, 4, none⟩ = some (ptr K.e) ∧
    Calls Tryz.prog 137 #[ptr W1.heap.size, ptr K.e] W3 fun x w' => x = .returned (.tuple #[]) ∧
     ∃ K' l, K'.ns = l ++ [W1.heap.size] ∧ CacheAt w' K' { s with row := placeR s.size s.row ++ [⟨k, false, nought⟩] } ∧ hld K'.M W1.heap.size = ⟨k, false, nought⟩ ∧ K'.c = K.c ∧ K'.d = K.d ∧ (∀ i, K'.has i → K.has i ∨ w.heap.size ≤ i) ∧ Fr K.has w w') := by
  intro W1 K1 h1 hc1 hd1 he1 hm1 hn1 hF1
  have hb1 := below_new W1 (.cells (rowV k false nilp nilp nought) 139)
  have ht1 := heap_alloc_new W1 (.cells (rowV k false nilp nilp nought) 139)
  have hd3 : (W1.alloc (.cells (rowV k false nilp nilp nought) 139)).cell? ⟨K.c, 3, none⟩ = some (.map (some K.mb)) := by
   rw [← hc1, Joins.cell_of_block ((hb1.block _ (h1.lt _ (.inl rfl))).trans h1.row), ← hm1]
   rfl
  refine ⟨by rw [← hm1]; exact h1.map.kept (hb1.block _ (h1.lt _ (.inr (.inl rfl)))), hd3, ?_⟩
  intro W3 hm3 hg3
  have f2 : Fr (fun i => i = K.mb) (W1.alloc (.cells (rowV k false nilp nilp nought) 139)) W3 := (Fr.ofGrown hg3).mono fun i _ q => by injection q with q; exact q.symm
  have f1 : Fr (fun _ => False) W1 (W1.alloc (.cells (rowV k false nilp nilp nought) 139)) := Fr.alloc _ _ _
  have f12 : Fr (fun i => i = K.mb) W1 W3 := (f1.mono (T' := fun i => i = K.mb) fun _ _ q => q.elim).trans f2 fun _ _ q => q
  have hN3 : Nodes W3 K1.M (fun x => x = K1.e ∨ x ∈ K1.ns) := h1.nodes.kept fun x hx => f12.block x (h1.lt x (.inr (.inr hx))) (by rw [← hm1]; exact h1.mne hx)
  have hgm : W1.heap.size ≠ K.mb := by have := h1.lt K1.mb (.inr (.inl rfl)); rw [hm1] at this; omega
  have hr3 : RowAt W3 W1.heap.size k false nilp nilp nought := (f2.block W1.heap.size (by simp) hgm).trans ht1
  have hc3 : W3.heap[K1.c]? = some (.cells (ckRow K1 { s with row := placeR s.size s.row }) 142) := (f12.block K1.c (h1.lt _ (.inl rfl)) (by rw [← hm1]; exact h1.cm)).trans h1.row
  refine ⟨?_, ?_⟩
  ·rw [← hc1, Joins.cell_of_block hc3, ← he1]
   rfl
  have hgS : ¬ (W1.heap.size = K1.e ∨ W1.heap.size ∈ K1.ns) := fun hx => by have := h1.lt _ (.inr (.inr hx)); omega
  have hlast : (K1.M K1.e).pv = K1.e ∨ (K1.M K1.e).pv ∈ K1.ns := List.mem_cons.1 (seg_last h1.ring)
  have hst := stand_of (S := fun x => x = K1.e ∨ x ∈ K1.ns) hN3 (h := W1.heap.size) (e := K1.e) (n := ⟨k, false, 0, 0, nought⟩) hgS (.inl rfl) hlast hr3
  rw [he1] at hst
  refine hst.mono ?_
  rintro e w' ⟨rfl, hN4, hF4⟩
  rw [← he1] at hN4 hF4
  have hnd2 : (W1.heap.size :: K1.e :: K1.ns).Nodup := List.nodup_cons.2 ⟨fun hx => hgS (List.mem_cons.1 hx), h1.nd⟩
  have hT : ∀ x, (x = K1.c ∨ x = K1.mb) → ¬ (x = W1.heap.size ∨ x = K1.e ∨ x = (K1.M K1.e).pv) := by
   rintro x hx (e | e | e)
   ·have : x < W1.heap.size := by
     rcases hx with rfl | rfl
     ·exact h1.lt _ (.inl rfl)
     ·exact h1.lt _ (.inr (.inl rfl))
    omega
   ·rcases hx with rfl | rfl
    ·exact h1.cne (.inl rfl) e.symm
    ·exact h1.mne (.inl rfl) e.symm
   ·rcases hx with rfl | rfl
    ·exact h1.cne hlast e.symm
    ·exact h1.mne hlast e.symm
  have hsz13 := f12.size
  have hlt1 : ∀ x, K1.has x → x < W3.heap.size := fun x hx => by have := h1.lt x hx; omega
  have hK1 : ∀ x, K1.has x → K.has x := by
   rintro x (q | q | q | q)
   ·exact .inl (by rw [q, hc1])
   ·exact .inr (.inl (by rw [q, hm1]))
   ·exact .inr (.inr (.inl (by rw [q, he1])))
   ·exact .inr (.inr (.inr (hn1 x q)))
  have hpM : ∀ x, x ≠ W1.heap.size → posOf (standM (setM K1.M W1.heap.size ⟨k, false, 0, 0, nought⟩) W1.heap.size K1.e) x = posOf K1.M x := fun x hx => by
   refine ((stand_rest _ _ _ x).1).trans ?_
   unfold posOf
   rw [setM_other _ _ _ hx]
  have hpG : posOf (standM (setM K1.M W1.heap.size ⟨k, false, 0, 0, nought⟩) W1.heap.size K1.e) W1.heap.size = k := by
   refine ((stand_rest _ _ _ _).1).trans ?_
   rw [setM_same]
  have hne1 : ∀ x ∈ K1.ns, x ≠ W1.heap.size := fun x hx e => hgS (.inr (e ▸ hx))
  have hrow1 : placeR s.size s.row = K1.ns.map (hld K1.M) := h1.holds
  have hfn : fastN (placeR s.size s.row ++ [⟨k, false, nought⟩]) = fastN (placeR s.size s.row) := by simp [fastN, List.countP_append]
  have hok : COk { s with row := placeR s.size s.row ++ [⟨k, false, nought⟩] } := by
   refine ⟨hsize, ?_, ?_, ?_⟩
   ·show ((placeR s.size s.row ++ [(⟨k, false, nought⟩ : Hld)]).length : Int) ≤ s.size
    rw [List.length_append]
    simpa using hpl
   ·intro x hx
    rcases List.mem_append.1 hx with hx | hx
    ·exact h1.ok.pos x hx
    ·obtain rfl : x = ⟨k, false, nought⟩ := by simpa using hx
     exact ⟨hin, can_nought⟩
   ·show ((placeR s.size s.row ++ [(⟨k, false, nought⟩ : Hld)]).map (·.pos)).Nodup
    rw [List.map_append, List.nodup_append]
    refine ⟨hnodR, by simp, ?_⟩
    intro a ha b hb e
    obtain ⟨x, hx, rfl⟩ := List.mem_map.1 ha
    simp at hb
    exact hposR x hx (e.trans hb)
  have hndm : ((K1.ns ++ [W1.heap.size]).map (posOf (standM (setM K1.M W1.heap.size ⟨k, false, 0, 0, nought⟩) W1.heap.size K1.e))).Nodup := by
   rw [List.map_append, List.map_congr_left fun x hx => hpM x (hne1 x hx)]
   have := hok.nodup
   rw [List.map_append] at this
   have e1 : (placeR s.size s.row).map (·.pos) = K1.ns.map (posOf K1.M) := by rw [hrow1, List.map_map]; rfl
   rw [e1] at this
   simpa [hpG] using this
  refine ⟨rfl, { K1 with ns := K1.ns ++ [W1.heap.size], M := standM (setM K1.M W1.heap.size ⟨k, false, 0, 0, nought⟩) W1.heap.size K1.e }, K1.ns, rfl, ?_, ?_, hc1, hd1, ?_, ?_⟩
  ·refine cache_stood (K := K1) (n := ⟨k, false, 0, 0, nought⟩) hnd2 h1.ring ?_ ?_ hN4 ?_ hok
   ·have e1 : ckRow K1 { s with row := placeR s.size s.row ++ [⟨k, false, nought⟩] } = ckRow K1 { s with row := placeR s.size s.row } := by unfold ckRow; simp only [hfn]
    rw [e1]
    exact (hF4.block K1.c (hlt1 _ (.inl rfl)) (hT _ (.inl rfl))).trans hc3
   ·have e1 := mapV_add (M := K1.M) (ns := K1.ns) (g := W1.heap.size) hndm fun x hx => hpM x (hne1 x hx)
    rw [hpG] at e1
    rw [← e1]
    rw [← hm1] at hm3
    exact hm3.kept (hF4.block K1.mb (hlt1 _ (.inr (.inl rfl))) (hT _ (.inr rfl)))
   ·show placeR s.size s.row ++ [(⟨k, false, nought⟩ : Hld)] = _
    rw [hrow1]
  ·obtain ⟨a1, a2, a3⟩ := stand_rest (setM K1.M W1.heap.size ⟨k, false, 0, 0, nought⟩) W1.heap.size K1.e W1.heap.size
   unfold hld
   rw [a1, a2, a3, setM_same]
  ·have hsw : w.heap.size ≤ W1.heap.size := hF1.size
   rintro i (q | q | q | q)
   ·exact .inl (hK1 i (.inl q))
   ·exact .inl (hK1 i (.inr (.inl q)))
   ·exact .inl (hK1 i (.inr (.inr (.inl q))))
   ·have q : i ∈ K1.ns ++ [W1.heap.size] := q
    rcases List.mem_append.1 q with q | q
    ·exact .inl (hK1 i (.inr (.inr (.inr q))))
    ·simp at q
     exact .inr (by omega)
  ·have g1 : Fr K.has w W1 := (Fr.drew (T := K.has) w).trans hF1 fun _ _ q => q
   have g2 : Fr K.has w W3 := g1.trans f12 fun i _ q => by rw [q]; exact .inr (.inl rfl)
   refine g2.trans hF4 fun i hi q => ?_
   rcases q with q | q | q
   ·have := hF1.size
    have e1 : w.drew.heap.size = w.heap.size := rfl
    omega
   ·exact .inr (.inr (.inl (by rw [q, he1])))
   ·exact hK1 i (by rw [q]; exact .inr (.inr hlast))
 clear hb h hC hno hf HD hpl hps hposR hnodR hsize
 generalize placeR s.size s.row ++ [(⟨k, false, nought⟩ : Hld)] = R at *
 generalize placeR s.size s.row = R1 at *
 generalize rowV k false nilp nilp nought = Z at *
 unfold nilp at z71
 unfold ptr at c3 hR ⊢
 go_enter Tryz.func107, Tryz.ntmps107
 go_wp2_with (first | (go_at_call 134; refine hR.mono ?_; rintro e W ⟨rfl, rfl⟩) | (refine wpList_lookM_none rfl (.tmp 18) (.tmp 19) 140 rfl 137 Tryz.underlying3 keyed3 Tryz.underlying140 rfl hmap (z71 _) k hwf rfl hmv ?_))
 go_region
 go_wp2_with (go_at_call 136; fail)
 refine HPl.out.mono ?_
 rintro e W1 ⟨rfl, K1, h1, hc1, hd1, he1, hm1, hn1, hF1⟩
 obtain ⟨hm2, d3, hst⟩ := HS.out W1 K1 h1 hc1 hd1 he1 hm1 hn1 hF1
 have HST : Hid (∀ W3, MapIs Tryz.prog 3 W3 K.mb (fun y => if y = k then some (ptr W1.heap.size) else mapV K1.M K1.ns y) → (W1.alloc (.cells Z 139)).grownBy W3 (some K.mb) →
    W3.cell? ⟨K.c, 4, none⟩ = some (ptr K.e) ∧ Calls Tryz.prog 137 #[ptr W1.heap.size, ptr K.e] W3 _) := hst
 clear HS HPl h1 hc1 hd1 he1 hm1 hn1 hF1 hst hmap hmv c3 c5 c2
 go_wp2_with (first | (refine wpList_build98k rfl _ rfl k rfl hb98 ?_) | (refine wpList_putM rfl (.tmp 31) (.tmp 32) (.tmp 33) 140 rfl 137 Tryz.underlying3 keyed3 Tryz.underlying140 K.mb _ rfl hm2 k hin rfl _ rfl ?_; intro W3 hm3 hg3; obtain ⟨d4, hcall⟩ := HST.out W3 hm3 hg3; have HCall : Hid (Calls Tryz.prog 137 _ W3 _) := hcall; clear HST hcall hm2 hg3 hm3; unfold ptr at d4) | (go_at_call 137; fail))
 refine HCall.out.mono ?_
 rintro e W4 ⟨rfl, K', l, a1, a2, a3, a4, a5, a6, a7⟩
 have HR : Hid _ := (⟨K', W1.heap.size, l, rfl, a1, a2, a3, a4, a5, a6, a7⟩ : ∃ K' g l, (Ending.returned (.tuple #[ptr W1.heap.size, .bool true, .int .i64 0])) = .returned (.tuple #[ptr g, .bool true, .int .i64 0]) ∧ K'.ns = l ++ [g] ∧
   CacheAt W4 K' { s with row := R } ∧ hld K'.M g = ⟨k, false, nought⟩ ∧ K'.c = K.c ∧ K'.d = K.d ∧ (∀ i, K'.has i → K.has i ∨ _ ≤ i) ∧ Fr K.has _ W4)
 clear a1 a2 a3 a4 a5 a6 a7
 go_wp2
 go_ret3
 exact HR.out
end Go.Proofs.YtichojdcoegboaaGreatW
namespace Go.Proofs.YtichojdcoegboaaGreatW
open Go.RowKit Go.Maps
variable {w : World} {K : KLoc} {L : Loc} {s : CSt} {t : St}
def atR (r : List Hld) (k : Int) : Option Hld := r.find? (fun h => h.pos == k)
def goneR (r : List Hld) (k : Int) : List Hld := r.eraseP (fun h => h.pos == k)
def usedE (s : CSt) (t : St) (k : Int) : Int := if refV t k ≠ 0 then refV t k else if atR s.row k = none ∧ (fastN s.row : Int) = s.size then 160 else 0
def useP (s : CSt) (k : Int) : List Hld × Hld × Bool := match atR s.row k with
 | some h => (goneR s.row k, h, false)
 | none => (placeR s.size s.row, ⟨k, false, nought⟩, true)
theorem atR_none (h : CacheAt w K s) {k : Int} (ha : atR s.row k = none) : ∀ g ∈ K.ns, posOf K.M g ≠ k := by
 intro g hg e
 unfold atR at ha
 rw [h.holds] at ha
 have := List.find?_eq_none.1 ha (hld K.M g) (List.mem_map.2 ⟨g, hg, rfl⟩)
 exact this (by show ((K.M g).pos == k) = true; rw [show (K.M g).pos = k from e]; simp)
theorem find_map {f : Nat → Hld} {P : Hld → Bool} : ∀ (l : List Nat) (x : Hld), (l.map f).find? P = some x → ∃ p g q, l = p ++ g :: q ∧ f g = x ∧ P x = true ∧ ∀ a ∈ p, P (f a) = false
 | [], x, h => by simp at h
 | a :: t, x, h => by
  rw [List.map_cons, List.find?_cons] at h
  cases hp : P (f a) with
  | true =>
   rw [hp] at h
   injection h with h
   exact ⟨[], a, t, rfl, h, by rw [← h]; exact hp, by simp⟩
  | false =>
   rw [hp] at h
   obtain ⟨p, g, q, h1, h2, h3, h4⟩ := find_map t x h
   refine ⟨a :: p, g, q, by rw [h1]; rfl, h2, h3, fun b hb => ?_⟩
   rcases List.mem_cons.1 hb with rfl | hb
   ·exact hp
   ·exact h4 b hb
theorem atR_some (h : CacheAt w K s) {k : Int} {x : Hld} (ha : atR s.row k = some x) : ∃ p g q, K.ns = p ++ g :: q ∧ hld K.M g = x ∧ posOf K.M g = k ∧ goneR s.row k = (p ++ q).map (hld K.M) ∧ x.pos = k := by
 unfold atR at ha
 rw [h.holds] at ha
 obtain ⟨p, g, q, h1, h2, h3, h4⟩ := find_map K.ns x ha
 have hk : x.pos = k := by simpa using h3
 refine ⟨p, g, q, h1, h2, by rw [← hk, ← h2]; rfl, ?_, hk⟩
 unfold goneR
 rw [h.holds, h1, List.map_append, List.map_cons, eraseP_split (fun a ha => by
  obtain ⟨y, hy, rfl⟩ := List.mem_map.1 ha
  exact h4 y hy) (by rw [h2]; exact h3), List.map_append]
theorem use_ok (h : CD w K L s t) {k : Int} (hu : usedE s t k = 0) :
  Calls Tryz.prog 107 #[ptr K.c, .int .i64 k] w fun e w' => ∃ K' g l, e = .returned (.tuple #[ptr g, .bool (useP s k).2.2, .int .i64 0]) ∧ K'.ns = l ++ [g] ∧
   hld K'.M g = (useP s k).2.1 ∧ CD w' K' L { s with row := (useP s k).1 ++ [(useP s k).2.1] } t ∧ GoesC w w' K L K' L := by
 have hb : refV t k = 0 := by
  apply Classical.byContradiction
  intro hb
  unfold usedE at hu
  rw [if_pos hb] at hu
  exact hb hu
 unfold useP
 cases ha : atR s.row k with
 | some x =>
  obtain ⟨p, g, q, h1, h2, h3, h4, _⟩ := atR_some h.cache ha
  refine (use_held h hb h1 h3).mono ?_
  rintro e w' ⟨rfl, M', a1, a2, a3⟩
  rw [← h4, h2] at a1
  obtain ⟨b1, b2⟩ := h.caches a1 rfl rfl (by
   rintro i (r | r | r | r)
   ·exact .inl (.inl r)
   ·exact .inl (.inr (.inl r))
   ·exact .inl (.inr (.inr (.inl r)))
   ·refine .inl (.inr (.inr (.inr ?_)))
    have r : i ∈ (p ++ q) ++ [g] := r
    rw [h1]
    simp at r ⊢
    rcases r with r | r | r <;> simp [r]) a3
  exact ⟨_, g, p ++ q, rfl, rfl, a2.trans h2, b1, b2⟩
 | none =>
  have hf : (fastN s.row : Int) ≠ s.size := by
   intro e
   unfold usedE at hu
   rw [if_neg (by simp [hb]), if_pos ⟨ha, e⟩] at hu
   cases hu
  refine (use_new h hb (atR_none h.cache ha) hf).mono ?_
  rintro e w' ⟨K', g, l, rfl, a1, a2, a3, a4, a5, a6, a7⟩
  obtain ⟨b1, b2⟩ := h.caches a2 a4 a5 a6 a7
  exact ⟨K', g, l, rfl, a1, a3, b1, b2⟩
theorem use_err (h : CD w K L s t) {k : Int} (hu : usedE s t k ≠ 0) :
  Calls Tryz.prog 107 #[ptr K.c, .int .i64 k] w fun e w' => e = .returned (.tuple #[nilp, .bool false, .int .i64 (usedE s t k)]) ∧ Below w.heap.size w w' := by
 unfold usedE at hu ⊢
 by_cases hb : refV t k = 0
 ·rw [if_neg (by simp [hb])] at hu ⊢
  by_cases hf : atR s.row k = none ∧ (fastN s.row : Int) = s.size
  ·rw [if_pos hf]
   refine (use_full h hb (atR_none h.cache hf.1) hf.2).mono ?_
   rintro e w' ⟨rfl, rfl⟩
   exact ⟨rfl, ⟨rfl, rfl, rfl, Nat.le_refl _, fun _ _ => rfl⟩⟩
  ·rw [if_neg hf] at hu
   exact absurd rfl hu
 ·rw [if_pos hb]
  refine (use_bad h hb).mono ?_
  rintro e w' ⟨rfl, rfl⟩
  exact ⟨rfl, Below.refl _ _⟩
theorem CacheAt.turn {w' : World} (h : CacheAt w K s) {g : Nat} (hg : g ∈ K.ns) (n : Nd) (hl : n.pv = (K.M g).pv ∧ n.nx = (K.M g).nx ∧ n.pos = (K.M g).pos) {s' : CSt} (hsz : s'.size = s.size)
  (hrow : s'.row = K.ns.map (hld (setM K.M g n))) (hcan : Can n.dat) (hc : w'.heap[K.c]? = some (.cells (ckRow K s') 142)) (hm : w'.heap[K.mb]? = w.heap[K.mb]?)
  (hN : Nodes w' (setM K.M g n) (fun x => x = K.e ∨ x ∈ K.ns)) : CacheAt w' { K with M := setM K.M g n } s' := by
 have e1 : ∀ x, (setM K.M g n x).pv = (K.M x).pv ∧ (setM K.M g n x).nx = (K.M x).nx ∧ (setM K.M g n x).pos = (K.M x).pos := fun x => by
  unfold setM
  split
  ·next q => rw [q]; exact hl
  ·exact ⟨rfl, rfl, rfl⟩
 have hpos : s'.row.map (·.pos) = s.row.map (·.pos) := by
  rw [hrow, h.holds, List.map_map, List.map_map]
  exact List.map_congr_left fun x _ => (e1 x).2.2
 refine ⟨hc, ?_, hN, ?_, h.nd, hrow, ?_⟩
 ·have e2 : mapV (setM K.M g n) K.ns = mapV K.M K.ns := by
   unfold mapV posOf
   funext k
   have : (fun x => (setM K.M g n x).pos == k) = fun x => (K.M x).pos == k := by funext x; rw [(e1 x).2.2]
   rw [this]
  show MapIs Tryz.prog 3 w' K.mb (mapV (setM K.M g n) K.ns)
  rw [e2]
  exact h.map.kept hm
 ·refine seg_mono _ _ _ h.ring fun x y _ _ hxy => ?_
  unfold Lnk
  rw [(e1 x).2.1, (e1 y).1]
  exact hxy
 ·refine ⟨by rw [hsz]; exact h.ok.size, ?_, ?_, by rw [hpos]; exact h.ok.nodup⟩
  ·have : s'.row.length = s.row.length := by rw [hrow, h.holds]; simp
   rw [this, hsz]
   exact h.ok.len
  ·intro x hx
   rw [hrow] at hx
   obtain ⟨y, hy, rfl⟩ := List.mem_map.1 hx
   have h1 := h.ok.pos (hld K.M y) (by rw [h.holds]; exact List.mem_map.2 ⟨y, hy, rfl⟩)
   by_cases e : y = g
   ·subst e
    refine ⟨?_, ?_⟩
    ·show inTop (setM K.M y n y).pos
     rw [(e1 y).2.2]
     exact h1.1
    ·show Can (setM K.M y n y).dat
     rw [setM_same]
     exact hcan
   ·unfold hld
    rw [setM_other _ _ _ e]
    exact h1
theorem hld_set {K : KLoc} (hn : K.ns.Nodup) {p q : List Nat} {g : Nat} (hns : K.ns = p ++ g :: q) (n : Nd) : K.ns.map (hld (setM K.M g n)) = p.map (hld K.M) ++ ⟨n.pos, n.fast, n.dat⟩ :: q.map (hld K.M) := by
 rw [hns] at hn ⊢
 have hg : ∀ x ∈ p ++ q, x ≠ g := by
  rintro x hx rfl
  have := (List.perm_middle.nodup_iff).1 hn
  exact (List.nodup_cons.1 this).1 hx
 rw [List.map_append, List.map_cons]
 congr 1
 ·refine List.map_congr_left fun x hx => ?_
  unfold hld
  rw [setM_other _ _ _ (hg x (by simp [hx]))]
 ·congr 1
  ·unfold hld
   rw [setM_same]
  ·refine List.map_congr_left fun x hx => ?_
   unfold hld
   rw [setM_other _ _ _ (hg x (by simp [hx]))]
theorem CacheAt.bytes (h : CacheAt w K s) {p q : List Nat} {g : Nat} (hns : K.ns = p ++ g :: q) {f : Nat → Int} (hf : Can f) :
  CacheAt (w.setCells g 4 (blk f).toList) { K with M := setM K.M g { K.M g with dat := f } } { s with row := p.map (hld K.M) ++ ⟨(K.M g).pos, (K.M g).fast, f⟩ :: q.map (hld K.M) } ∧ Fr (fun i => i = g) w (w.setCells g 4 (blk f).toList) := by
 have hgm : g ∈ K.ns := by rw [hns]; simp
 have hF := Fr.setCells w g 4 (blk f).toList
 have hset := hld_set (List.nodup_cons.1 h.nd).2 hns { K.M g with dat := f }
 refine ⟨h.turn hgm { K.M g with dat := f } ⟨rfl, rfl, rfl⟩ rfl hset.symm hf ?_ ?_ ?_, hF⟩
 ·refine (heap_setCells g _ _ w K.c (h.cne (.inr hgm)).symm).trans ?_
  rw [h.row]
  have e1 : fastN (p.map (hld K.M) ++ ⟨(K.M g).pos, (K.M g).fast, f⟩ :: q.map (hld K.M)) = fastN s.row := by
   rw [h.holds, hns]
   simp [fastN, List.countP_append, List.countP_cons, hld]
  unfold ckRow
  simp only [e1]
 ·exact heap_setCells g _ _ w K.mb (h.mne (.inr hgm)).symm
 ·intro x hx
  by_cases e : x = g
  ·subst e
   rw [setM_same]
   exact (h.nodes x hx).setD f
  ·rw [setM_other _ _ _ e]
   exact (heap_setCells g _ _ w x e).trans (h.nodes x hx)
theorem CacheAt.flag (h : CacheAt w K s) {p q : List Nat} {g : Nat} (hns : K.ns = p ++ g :: q) (b : Bool) {m : Int}
  (hm : m = (fastN (p.map (hld K.M) ++ ⟨(K.M g).pos, b, (K.M g).dat⟩ :: q.map (hld K.M)) : Nat)) {w' : World} (hw : w' = (w.setCell ⟨g, 1, none⟩ (.bool b)).setCell ⟨K.c, 5, none⟩ (.int .i64 m)) :
  CacheAt w' { K with M := setM K.M g { K.M g with fast := b } } { s with row := p.map (hld K.M) ++ ⟨(K.M g).pos, b, (K.M g).dat⟩ :: q.map (hld K.M) } ∧ Fr K.has w w' := by
 subst hw
 have hgm : g ∈ K.ns := by rw [hns]; simp
 have hF : Fr K.has w ((w.setCell ⟨g, 1, none⟩ (.bool b)).setCell ⟨K.c, 5, none⟩ (.int .i64 m)) :=
  ((Fr.setCell w g 1 (.bool b)).mono (T' := K.has) fun i _ q => by rw [q]; exact .inr (.inr (.inr hgm))).trans (Fr.setCell _ K.c 5 _) fun i _ q => .inl q
 have hset := hld_set (List.nodup_cons.1 h.nd).2 hns { K.M g with fast := b }
 have hcan : Can (K.M g).dat := (h.ok.pos (hld K.M g) (by rw [h.holds]; exact List.mem_map.2 ⟨g, hgm, rfl⟩)).2
 refine ⟨h.turn hgm { K.M g with fast := b } ⟨rfl, rfl, rfl⟩ rfl hset.symm hcan ?_ ?_ ?_, hF⟩
 ·have h1 : (w.setCell ⟨g, 1, none⟩ (.bool b)).heap[K.c]? = some (.cells (ckRow K s) 142) := (Below.heap_setCell w _ _ K.c (h.cne (.inr hgm)).symm).trans h.row
  rw [Joins.block_setCell h1, hm]
  rfl
 ·refine (Below.heap_setCell _ _ _ K.mb h.cm.symm).trans (Below.heap_setCell w _ _ K.mb (h.mne (.inr hgm)).symm)
 ·intro x hx
  refine (Below.heap_setCell _ _ _ x (h.cne hx)).trans ?_
  by_cases e : x = g
  ·subst e
   rw [setM_same]
   exact (h.nodes x hx).set1 b
  ·rw [setM_other _ _ _ e]
   exact (Below.heap_setCell w _ _ x e).trans (h.nodes x hx)
end Go.Proofs.YtichojdcoegboaaGreatW
