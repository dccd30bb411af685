/- A place is made in a cache: the first that is not held fast leaves; no condition. -/
import Derived.Test.YtencclpcebpgmaaNewC
import Derived.Deep.LoopGhost
namespace Go.Proofs.Ytencclpcebpgmaa
open Go.RowKit Go.Maps

def placeR (n : Int) (r : List Hld) : List Hld := if (r.length : Int) < n then r else r.eraseP (fun h => !h.fast)
theorem split_fast (M : Nat → Nd) : ∀ ns : List Nat, fastN (ns.map (hld M)) < ns.length → ∃ p g q, ns = p ++ g :: q ∧ (∀ a ∈ p, (M a).fast = true) ∧ (M g).fast = false
  | [], h => by simp [fastN] at h
  | a :: t, h => by
    cases ha : (M a).fast
    · exact ⟨[], a, t, rfl, by simp, ha⟩
    · have h' : fastN (t.map (hld M)) < t.length := by
        simp only [fastN, List.map_cons, List.countP_cons, List.length_cons, hld, ha, if_pos] at h ⊢
        omega
      obtain ⟨p, g, q, h1, h2, h3⟩ := split_fast M t h'
      refine ⟨a :: p, g, q, by rw [h1]; rfl, ?_, h3⟩
      intro x hx
      rcases List.mem_cons.1 hx with rfl | hx
      · exact ha
      · exact h2 x hx
theorem eraseP_split {α : Type} {f : α → Bool} {p q : List α} {x : α} (hp : ∀ a ∈ p, f a = false) (hx : f x = true) : (p ++ x :: q).eraseP f = p ++ q := by
  induction p with
  | nil => simp [hx]
  | cons a t ih =>
    have ha := hp a (by simp)
    simp only [List.cons_append, List.eraseP, ha]
    rw [ih fun b hb => hp b (List.mem_cons_of_mem _ hb)]
    rfl
/-- A holding is out of the row and out of the map. -/
theorem CacheAt.out {w w' : World} {K : KLoc} {s : CSt} (h : CacheAt w K s) {p q : List Nat} {g : Nat} (hns : K.ns = p ++ g :: q) {s' : CSt} (hsz : s'.size = s.size) (hrow : s'.row = (p ++ q).map (hld K.M))
    (hc : w'.heap[K.c]? = some (.cells (ckRow K s') 73)) (hm : MapIs Try.prog 3 w' K.mb (fun y => if y = posOf K.M g then none else mapV K.M K.ns y))
    (hN : Nodes w' (leaveM K.M g) (fun k => k = K.e ∨ k ∈ K.ns)) : CacheAt w' { K with ns := p ++ q, M := leaveM K.M g } s' := by
  have hpos : ∀ x, posOf (leaveM K.M g) x = posOf K.M x := fun x => (leave_rest K.M g x).1
  have hh : ∀ x, hld (leaveM K.M g) x = hld K.M x := fun x => by
    obtain ⟨a1, a2, a3⟩ := leave_rest K.M g x
    unfold hld
    rw [a1, a2, a3]
  have hsub : ∀ x, x ∈ p ++ q → x ∈ K.ns := fun x hx => by rw [hns]; simp at hx ⊢; rcases hx with h | h <;> simp [h]
  have hnd := h.nd
  rw [hns] at hnd
  have hsubl : (p ++ q).Sublist (p ++ g :: q) := List.Sublist.append_left (List.sublist_cons_self ..) _
  refine ⟨hc, ?_, hN.mono fun x hx => hx.imp id (hsub x), ?_, ?_, ?_, ?_⟩
  · rw [hns] at hm
    have := mapV_del (M := K.M) (M' := leaveM K.M g) (p := p) (q := q) (g := g) (by rw [← hns]; exact h.posNd) fun x _ => hpos x
    rw [this] at hm
    exact hm
  · exact leave_seg hnd (by rw [← hns]; exact h.ring)
  · exact hnd.sublist (hsubl.cons_cons K.e)
  · rw [hrow]
    exact List.map_congr_left fun x _ => (hh x).symm
  · have hrs : s'.row.Sublist s.row := by rw [hrow, h.holds, hns]; exact hsubl.map _
    refine ⟨by rw [hsz]; exact h.ok.size, ?_, fun x hx => h.ok.pos x (hrs.subset hx), h.ok.nodup.sublist (hrs.map _)⟩
    have := hrs.length_le
    have := h.ok.len
    rw [hsz]
    omega
variable {w : World} {K : KLoc} {s : CSt}
set_option maxRecDepth 20000 in
set_option maxHeartbeats 2000000 in
theorem place_of (h : CacheAt w K s) (hf : (s.row.length : Int) < s.size ∨ fastN s.row < s.row.length) :
    Calls Try.prog 64 #[ptr K.c] w fun e w' => e = .returned (.tuple #[]) ∧ ∃ K', CacheAt w' K' { s with row := placeR s.size s.row } ∧ K'.c = K.c ∧ K'.d = K.d ∧ K'.e = K.e ∧ K'.mb = K.mb ∧ (∀ k ∈ K'.ns, k ∈ K.ns) ∧ Fr K.has w w' := by
  obtain ⟨D, hown, hV, hsz⟩ := h.size_is
  have c2 := h.c2
  have c3 := h.c3
  have c4 := h.c4
  have hD : w.drew.ownsMap Try.prog 3 valElem K.mb top D := hown
  unfold placeR
  by_cases hlt : (s.row.length : Int) < s.size
  · rw [if_pos hlt]
    have H : Hid (CacheAt w.drew K s) := h.fr (Fr.drew (T := fun _ => False) w) fun _ _ q => q
    have hlen := fun ty => hD.len Try.underlying70 ty
    rw [hsz] at hlen
    clear h hf hD hown
    unfold ptr at *
    go_enter Try.func64, Try.ntmps64
    go_wp2_with (fail)
    go_region
    go_wp2
    refine bodyPost_ret (results_none rfl _ _ _) rfl ?_
    exact ⟨rfl, K, H.out, rfl, rfl, rfl, rfl, fun _ q => q, Fr.drew w⟩
  · rw [if_neg hlt]
    have hfr : fastN s.row < s.row.length := hf.resolve_left hlt
    rw [h.holds] at hfr
    obtain ⟨p, g, q, hns, hp, hg⟩ := split_fast K.M K.ns (by simpa using hfr)
    have hgm : g ∈ K.ns := by rw [hns]; simp
    have hlen := fun ty => hD.len Try.underlying70 ty
    rw [hsz] at hlen
    have hring := h.ring
    have e3 : w.drew.cell? ⟨K.e, 3, none⟩ = some (ptr (K.M K.e).nx) := (h.nodes K.e (.inl rfl)).c3
    rw [seg_first hring] at e3
    have c4' : w.drew.cell? ⟨K.c, 4, none⟩ = some (ptr K.e) := c4
    have hfx : ∀ x ∈ K.ns, w.drew.cell? ⟨x, 1, none⟩ = some (.bool (K.M x).fast) ∧ w.drew.cell? ⟨x, 3, none⟩ = some (ptr (K.M x).nx) := fun x hx => ⟨(h.nodes x (.inr hx)).c1, (h.nodes x (.inr hx)).c3⟩
    have hnx : ∀ a x y b, K.ns = a ++ x :: y :: b → (K.M x).nx = y := fun a x y b e => by
      rw [e] at hring
      exact ((seg_append _ _ _ _ _ _).1 hring).2.1.1
    have HX : Hid (∀ x ∈ K.ns, w.drew.cell? ⟨x, 1, none⟩ = some (.bool (K.M x).fast) ∧ w.drew.cell? ⟨x, 3, none⟩ = some (ptr (K.M x).nx)) := hfx
    have HNX : Hid (∀ a x y b, K.ns = a ++ x :: y :: b → (K.M x).nx = y) := hnx
    have HP : Hid (∀ a ∈ p, (K.M a).fast = true) := hp
    have HNS : Hid (K.ns = p ++ g :: q) := hns
    have hstart : ∃ a x b, p ++ [g] = a ++ x :: b ∧ (K.ns ++ [K.e]).headD 0 = x ∧ b.length = p.length := by
      rw [hns]
      cases p with
      | nil => exact ⟨[], g, [], rfl, rfl, rfl⟩
      | cons a t => exact ⟨[], a, t ++ [g], rfl, rfl, by simp⟩
    have HST : Hid (∃ a x b, p ++ [g] = a ++ x :: b ∧ (K.ns ++ [K.e]).headD 0 = x ∧ b.length = p.length) := hstart
    have near := seg_near (p := p) (q := q) (h := g) (e := K.e) (M := K.M) (by rw [← hns]; exact hring)
    have HC : Hid (CacheAt w.drew K s) := h.fr (Fr.drew (T := fun _ => False) w) fun _ _ q => q
    have hnp : (K.M g).pv = K.e ∨ (K.M g).pv ∈ K.ns := by
      rw [hns]
      rcases List.mem_cons.1 near.1 with q | q
      · exact .inl q
      · exact .inr (by simp [q])
    have hnn : (K.M g).nx = K.e ∨ (K.M g).nx ∈ K.ns := by
      rw [hns]
      rcases List.mem_append.1 near.2 with q | q
      · exact .inr (by simp [q])
      · exact .inl (by simpa using q)
    have HL : Hid (Calls Try.prog 63 #[ptr g] w.drew fun e w' => e = .returned (.tuple #[]) ∧ Nodes w' (leaveM K.M g) (fun k => k = K.e ∨ k ∈ K.ns) ∧ Fr (fun k => k = (K.M g).pv ∨ k = (K.M g).nx) w.drew w') :=
      leave_of HC.out.nodes (.inr hgm) hnp hnn
    clear h hf hD hown hfr hfx hnx hp hns hstart near hring hsz hV
    generalize (K.ns ++ [K.e]).headD 0 = x0 at *
    unfold ptr at c2 c3 c4 c4' e3
    have hlt' : ¬ (s.row.length : Int) < s.size := hlt
    unfold ptr
    go_enter Try.func64, Try.ntmps64
    go_wp2_with (fail)
    go_region
    clear hlen
    generalize hV : w.drew = V at *
    go_wp2_with (fail)
    go_loopg [2] p.length (fun k s2 wx => ∃ a x b, p ++ [g] = a ++ x :: b ∧ s2 = .pointer (some ⟨x, 0, none⟩) ∧ k = b.length ∧ wx = V)
    case atStart =>
      obtain ⟨a, x, b, h1, h2, h3⟩ := HST.out
      exact ⟨a, x, b, h1, by rw [h2], h3.symm, rfl⟩
    case round =>
      obtain ⟨a, x, b, hab, rfl, rfl, rfl⟩ := hrel
      cases b with
      | cons y b' =>
        have e1 : p = a ++ x :: (y :: b').dropLast := by
          have := congrArg List.dropLast hab
          simpa [List.dropLast_append_of_ne_nil] using this
        have hxp : x ∈ p := by rw [e1]; simp
        have hxn : x ∈ K.ns := by rw [HNS.out]; simp [hxp]
        obtain ⟨x1, x3⟩ := HX.out x hxn
        rw [HP.out x hxp] at x1
        have e2 : K.ns = a ++ x :: y :: (b' ++ q) := by
          rw [HNS.out, show p ++ g :: q = (p ++ [g]) ++ q by simp, hab]
          simp
        rw [HNX.out a x y _ e2] at x3
        unfold ptr at x3
        clear e1 e2 hxp hxn
        go_wp2
        go_roundg b'.length
        case measure => simp
        case rel => exact ⟨a ++ [x], y, b', by rw [hab]; simp, rfl, rfl, rfl⟩
      | nil =>
        have hxg : x = g := by
          have := congrArg (fun l => l.getLast?) hab
          simpa using this.symm
        subst hxg
        obtain ⟨x1, _⟩ := HX.out x hgm
        rw [hg] at x1
        clear hab
        go_wp2_with (go_at_call 63; fail)
        refine HL.out.mono ?_
        rintro e W1 ⟨rfl, hN1, hF1⟩
        have hC := HC.out
        have hcn : K.c ≠ (K.M x).pv ∧ K.c ≠ (K.M x).nx := ⟨(hC.cne hnp).symm, (hC.cne hnn).symm⟩
        have hmn : K.mb ≠ (K.M x).pv ∧ K.mb ≠ (K.M x).nx := ⟨(hC.mne hnp).symm, (hC.mne hnn).symm⟩
        have d3 : W1.cell? ⟨K.c, 3, none⟩ = some (.map (some K.mb)) := by
          rw [Joins.cell_of_block ((hF1.block K.c (hC.lt _ (.inl rfl)) (by rintro (q | q); exact hcn.1 q; exact hcn.2 q)).trans hC.row)]
          rfl
        have x0' : W1.cell? ⟨x, 0, none⟩ = some (.int .i64 (posOf K.M x)) := by
          have := (hN1 x (.inr hgm)).c0
          rw [(leave_rest K.M x x).1] at this
          exact this
        have hmW : MapIs Try.prog 3 W1.drew K.mb (mapV K.M K.ns) := hC.map.kept (hF1.block K.mb (hC.lt _ (.inr (.inl rfl))) (by rintro (q | q); exact hmn.1 q; exact hmn.2 q))
        have hposW : (Lit.int .i64 (posOf K.M x)).wf = true := inTop.wf (hC.ok.pos (hld K.M x) (by rw [hC.holds]; exact List.mem_map.2 ⟨x, hgm, rfl⟩)).1
        have HF : Hid (∀ w', MapIs Try.prog 3 w' K.mb (fun y => if y = posOf K.M x then none else mapV K.M K.ns y) → W1.drew.grownBy w' (some K.mb) →
            ∃ K', CacheAt w' K' { s with row := List.eraseP (fun h => !h.fast) s.row } ∧ K'.c = K.c ∧ K'.d = K.d ∧ K'.e = K.e ∧ K'.mb = K.mb ∧ (∀ k ∈ K'.ns, k ∈ K.ns) ∧ Fr K.has w w') := by
          intro w' hm' hg'
          have f2 : Fr (fun i => i = K.mb) W1 w' := (Fr.drew W1).trans ((Fr.ofGrown hg').mono fun i _ q => by injection q with q; exact q.symm) fun _ _ q => q
          have f3 : Fr K.has wr w' := (hF1.mono (T' := K.has) fun i _ q => by
            rcases q with rfl | rfl
            · exact .inr (.inr hnp)
            · exact .inr (.inr hnn)).trans f2 fun i _ q => by rw [q]; exact .inr (.inl rfl)
          have f4 : Fr K.has w w' := by
            have := (Fr.drew (T := K.has) w)
            rw [hV] at this
            exact this.trans f3 fun _ _ q => q
          have hN2 : Nodes w' (leaveM K.M x) (fun k => k = K.e ∨ k ∈ K.ns) := hN1.kept fun k hk => f2.block k (by have := hC.lt k (.inr (.inr hk)); have := hF1.size; omega) (hC.mne hk)
          have hrow : s.row = p.map (hld K.M) ++ hld K.M x :: q.map (hld K.M) := by rw [hC.holds, HNS.out]; simp
          have her : List.eraseP (fun h => !h.fast) s.row = (p ++ q).map (hld K.M) := by
            rw [hrow, eraseP_split (x := hld K.M x) (fun a ha => by
              obtain ⟨y, hy, rfl⟩ := List.mem_map.1 ha
              show (!(K.M y).fast) = false
              rw [HP.out y hy]; rfl) (by show (!(K.M x).fast) = true; rw [hg]; rfl), List.map_append]
          have hfn : fastN (List.eraseP (fun h => !h.fast) s.row) = fastN s.row := by
            rw [her, hrow]
            have : (hld K.M x).fast = false := hg
            simp [fastN, List.countP_append, this]
          refine ⟨_, hC.out HNS.out (s' := { s with row := List.eraseP (fun h => !h.fast) s.row }) rfl her ?_ hm' hN2, rfl, rfl, rfl, rfl, ?_, f4⟩
          · have e1 : ckRow K { s with row := List.eraseP (fun h => !h.fast) s.row } = ckRow K s := by unfold ckRow; simp only [hfn]
            rw [e1]
            refine (f2.block K.c (by have := hC.lt _ (.inl rfl); have := hF1.size; omega) hC.cm).trans ?_
            exact (hF1.block K.c (hC.lt _ (.inl rfl)) (by rintro (q | q); exact hcn.1 q; exact hcn.2 q)).trans hC.row
          · intro k hk
            rw [HNS.out]
            have hk' : k ∈ p ++ q := hk
            simp at hk' ⊢
            rcases hk' with h | h <;> simp [h]
        clear hN1 hF1 HL HC hC HX HNX HST HP HNS hV e3 c4' hcn hmn
        go_wp2_with (fail)
        go_still_tail 8, (by kernel_rfl)
        change wpList _ _ _ _ _ (World.drew _)
        refine wpList_delM rfl (.tmp 33) (.tmp 37) 70 rfl 71 Try.underlying3 keyed3 Try.underlying70 K.mb _ rfl hmW (posOf K.M x) hposW rfl ?_
        intro w' hm' hg'
        have HR := HF.out w' hm' hg'
        have HR' : Hid _ := HR
        clear HF HR hm' hg' hmW
        go_wp2
        go_end0
        exact ⟨rfl, HR'.out⟩
end Go.Proofs.Ytencclpcebpgmaa
