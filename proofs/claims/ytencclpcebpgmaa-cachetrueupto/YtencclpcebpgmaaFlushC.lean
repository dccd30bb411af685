/- Flush of a cache, in one form; no condition but that numbers do not pass their greatest. -/
import Derived.Test.YtencclpcebpgmaaPutC
namespace Go.Proofs.Ytencclpcebpgmaa
open Go.RowKit Go.Maps
variable {w : World} {K : KLoc} {L : Loc} {s : CSt} {t : St}

theorem write_any (h : DiskAt w L t) (hr : Room t) (k : Int) {f : Nat → Int} (hf : Can f) :
    Calls Try.prog 42 #[.pointer (some ⟨L.d, 0, none⟩), .int .i64 k, .agg (blk f)] w fun e w' => e = .returned (.int .i64 (writeE t k)) ∧ ∃ L', DiskAt w' L' (writeV t k f) ∧ Goes w w' L L' := by
  unfold writeE writeV
  by_cases hb : refV t k = 0
  · rw [if_pos hb, if_pos hb]
    cases hl : lets t
    · exact (write_dead h hr hb hl f).mono fun e W' ⟨h1, h2, h3⟩ => ⟨h1, L, h2, h3⟩
    · exact (write_ok h hr hb hl hf).mono fun e W' ⟨h1, L', h2, h3⟩ => ⟨h1, L', h2, h3⟩
  · rw [if_neg hb, if_neg hb]
    exact (write_bad h hb f).mono fun e W' ⟨h1, h2⟩ => ⟨h1, L, h.later h2, Goes.ofBelow L h2⟩
def unfast (r : List Hld) (k : Int) : List Hld := r.map fun x => if x.pos = k then ⟨x.pos, false, x.dat⟩ else x
def flushE (s : CSt) (t : St) (k : Int) : Int := if refV t k = 0 then (match atR s.row k with | some h => if h.fast then writeE t k else 0 | none => 0) else refV t k
def flushC (s : CSt) (t : St) (k : Int) : CSt := if refV t k = 0 then (match atR s.row k with | some h => if h.fast ∧ writeE t k = 0 then { s with row := unfast s.row k } else s | none => s) else s
def flushD (s : CSt) (t : St) (k : Int) : St := if refV t k = 0 then (match atR s.row k with | some h => if h.fast then writeV t k h.dat else t | none => t) else t
theorem unfast_split (h : CacheAt w K s) {p q : List Nat} {g : Nat} (hns : K.ns = p ++ g :: q) {k : Int} (hk : posOf K.M g = k) : unfast s.row k = p.map (hld K.M) ++ ⟨(K.M g).pos, false, (K.M g).dat⟩ :: q.map (hld K.M) := by
  have hnd := h.posNd
  rw [hns] at hnd
  have h4 := ((List.perm_middle.map (posOf K.M)).nodup_iff).1 hnd
  rw [List.map_cons, List.nodup_cons] at h4
  have hne : ∀ x ∈ p ++ q, posOf K.M x ≠ k := fun x hx e => h4.1 (List.mem_map.2 ⟨x, hx, by rw [e, hk]⟩)
  have hk' : (K.M g).pos = k := hk
  unfold unfast
  rw [h.holds, hns, List.map_append, List.map_append, List.map_cons, List.map_cons, List.map_map, List.map_map]
  have e1 : ∀ l : List Nat, (∀ x ∈ l, x ∈ p ++ q) → l.map ((fun x : Hld => if x.pos = k then ⟨x.pos, false, x.dat⟩ else x) ∘ hld K.M) = l.map (hld K.M) := fun l hl =>
    List.map_congr_left fun x hx => by
      have : (hld K.M x).pos ≠ k := hne x (hl x hx)
      simp [this]
  rw [e1 p fun x hx => by simp [hx], e1 q fun x hx => by simp [hx]]
  congr 2
  show (if (K.M g).pos = k then (⟨(K.M g).pos, false, (K.M g).dat⟩ : Hld) else hld K.M g) = _
  rw [if_pos hk']
set_option maxRecDepth 20000 in
set_option maxHeartbeats 4000000 in
theorem flushC_of (h : CD w K L s t) (hr : Room t) (k : Int) : Calls Try.prog 26 #[ptr K.c, .int .i64 k] w fun e w' => e = .returned (.int .i64 (flushE s t k)) ∧
    ∃ K' L', CD w' K' L' (flushC s t k) (flushD s t k) ∧ GoesC w w' K L K' L' := by
  have hR := refusesC_of h k
  have hmap := h.cache.map
  have c3 := h.cache.c3
  have c1 := h.cache.c1
  rw [h.d] at c1
  have z71 := zero71
  unfold flushE flushC flushD
  by_cases hb : refV t k = 0
  · rw [if_pos hb, if_pos hb, if_pos hb]
    rw [hb] at hR
    have hwf : (Lit.int .i64 k).wf = true := inTop.wf (inTop_of h.disk.ok (refV_ok hb).2)
    cases ha : atR s.row k with
    | none =>
      have hmv := mapV_none (atR_none h.cache ha)
      have HFin : Hid (∃ K' L', CD w K' L' s t ∧ GoesC w w K L K' L') := ⟨K, L, h, GoesC.refl _ _ _⟩
      clear h hb ha hr
      unfold nilp at z71
      unfold ptr at c1 hR ⊢
      go_enter Try.func26, Try.ntmps26
      go_wp2_with (first | (go_at_call 54; refine hR.mono ?_; rintro e W ⟨rfl, rfl⟩) | (refine wpList_lookM_none rfl (.tmp 19) (.tmp 20) 70 rfl 71 Try.underlying3 keyed3 Try.underlying70 rfl hmap (z71 _) k hwf rfl hmv ?_))
      go_ret
      exact ⟨rfl, HFin.out⟩
    | some x =>
      obtain ⟨p, g, q, hns, hx, hg, _, _⟩ := atR_some h.cache ha
      have hgm : g ∈ K.ns := by rw [hns]; simp
      have hmv : mapV K.M K.ns k = some (ptr g) := by rw [← hg]; exact mapV_some h.cache.posNd hgm
      obtain ⟨pp, qq, hrow⟩ := h.node hgm hx
      have g1 := hrow.c1
      simp only
      cases hxf : x.fast
      · rw [hxf] at g1
        rw [if_neg (by simp), if_neg (by simp), if_neg (by simp)]
        have HFin : Hid (∃ K' L', CD w K' L' s t ∧ GoesC w w K L K' L') := ⟨K, L, h, GoesC.refl _ _ _⟩
        clear h hb ha hr hns hx hg hgm hrow
        unfold nilp at z71
        unfold ptr at c1 hR hmv ⊢
        go_enter Try.func26, Try.ntmps26
        go_wp2_with (first | (go_at_call 54; refine hR.mono ?_; rintro e W ⟨rfl, rfl⟩) | (refine wpList_lookM_some rfl (.tmp 19) (.tmp 20) 70 rfl 71 Try.underlying3 keyed3 Try.underlying70 rfl hmap (z71 _) k hwf rfl _ hmv ?_))
        go_ret
        exact ⟨rfl, HFin.out⟩
      · rw [hxf] at g1
        rw [if_pos rfl, if_pos rfl]
        simp only [true_and]
        have hB : BlkAt w g 4 x.dat := hrow.bytes
        have hcan : Can x.dat := (h.cache.ok.pos x (by rw [h.cache.holds]; exact List.mem_map.2 ⟨g, hgm, hx⟩)).2
        have hDd : CD w.drew K L s t := h.later ⟨rfl, rfl, rfl, Nat.le_refl _, fun _ _ => rfl⟩
        have hwr := write_any hDd.disk hr k hcan
        have HF : Hid (∀ W2 L2, DiskAt W2 L2 (writeV t k x.dat) → Goes w.drew W2 L L2 →
            (writeE t k ≠ 0 → ∃ K' L', CD W2 K' L' s (writeV t k x.dat) ∧ GoesC w W2 K L K' L') ∧
            W2.cell? ⟨g, 1, none⟩ = some (.bool true) ∧ W2.frozen? ⟨g, 1, none⟩ = false ∧ W2.cell? ⟨K.c, 5, none⟩ = some (.int .i64 (fastN s.row : Int)) ∧ W2.frozen? ⟨K.c, 5, none⟩ = false ∧ K.c ≠ g ∧ (1 ≤ (fastN s.row : Int) ∧ (fastN s.row : Int) ≤ 4096) ∧
            (∃ K' L', CD ((W2.setCell ⟨g, 1, none⟩ (.bool false)).setCell ⟨K.c, 5, none⟩ (.int .i64 ((fastN s.row : Int) - 1))) K' L' { s with row := unfast s.row k } (writeV t k x.dat) ∧
              GoesC w ((W2.setCell ⟨g, 1, none⟩ (.bool false)).setCell ⟨K.c, 5, none⟩ (.int .i64 ((fastN s.row : Int) - 1))) K L K' L')) := by
          intro W2 L2 hD2 hG2
          obtain ⟨b1, b2⟩ := hDd.disks hD2 hG2
          have hGd : GoesC w w.drew K L K L := GoesC.ofBelow K L ⟨rfl, rfl, rfl, Nat.le_refl _, fun _ _ => rfl⟩
          obtain ⟨p2, q2, hrow2⟩ := b1.node hgm hx
          have e1 := hrow2.c1
          rw [hxf] at e1
          have hsp := unfast_split b1.cache hns hg
          have hfm : (K.M g).fast = true := by have := congrArg Hld.fast hx; rw [hxf] at this; exact this
          have hcnt : fastN s.row = fastN (p.map (hld K.M) ++ ⟨(K.M g).pos, false, (K.M g).dat⟩ :: q.map (hld K.M)) + 1 := by
            rw [h.cache.holds, hns]
            simp [fastN, List.countP_append, hld, hfm]
            omega
          have hle : (fastN s.row : Int) ≤ 4096 := by
            have a1 := fastN_le s.row
            have a2 := h.cache.ok.len
            have a3 := h.cache.ok.size
            omega
          obtain ⟨a1, a2⟩ := b1.cache.flag hns false (m := (fastN s.row : Int) - 1) (by rw [hcnt]; omega) rfl
          rw [← hsp] at a1
          obtain ⟨d1, d2⟩ := b1.caches a1 rfl rfl (fun _ q => .inl q) a2
          exact ⟨fun _ => ⟨K, L2, b1, hGd.trans b2⟩, e1, hrow2.free 1, b1.cache.c5, b1.cache.free 5, (b1.cache.cne (.inr hgm)).symm, ⟨by omega, hle⟩, _, L2, d1, hGd.trans (b2.trans d2)⟩
        clear h hb ha hr hns hx hg hgm hrow hDd
        have HW : Hid (Calls Try.prog 42 _ _ _) := hwr
        clear hwr
        generalize hE : writeE t k = E at *
        generalize writeV t k x.dat = t' at *
        generalize hn : (fastN s.row : Int) = n at *
        have HE : Hid (E = 0 ∨ E ≠ 0) := Classical.em _
        have hBd : BlkAt w g 4 x.dat := hB
        generalize x.dat = f at *
        unfold nilp at z71
        unfold ptr at c1 hR hmv ⊢
        go_enter Try.func26, Try.ntmps26
        go_wp2_with (first | (go_at_call 54; refine hR.mono ?_; rintro e W ⟨rfl, rfl⟩) | (refine wpList_lookM_some rfl (.tmp 19) (.tmp 20) 70 rfl 71 Try.underlying3 keyed3 Try.underlying70 rfl hmap (z71 _) k hwf rfl _ hmv ?_))
        go_still_tail 9, (by kernel_rfl)
        refine wpStill_loadM rfl (.tmp 40) rfl g 4 rfl f hBd ?_
        refine wpStill_nil ?_
        change wpList _ _ _ _ _ (World.drew _)
        clear hB hBd hmap hR c3 g1 hwf z71 hmv
        go_wp2_with (go_at_call 42; fail)
        refine HW.out.mono ?_
        rintro e W2 ⟨rfl, L2, hD2, hG2⟩
        obtain ⟨a1, g1, fg, d5, f5, hcg, hn1, a2⟩ := HF.out W2 L2 hD2 hG2
        have HA1 : Hid _ := a1
        have HA2 : Hid _ := a2
        have hw5 : IntKind.i64.wrap (n - 1) = n - 1 := by rw [IntKind.wrap_i64]; omega
        clear HF HW hD2 hG2 a1 a2
        rcases HE.out with rfl | hE0
        · have HR : Hid _ := HA2.out
          clear HA1 HA2 HE
          go_wp2
          go_ret
          exact ⟨rfl, HR.out⟩
        · have HR : Hid _ := HA1.out hE0
          have hne : (E != 0) = true := by simp [hE0]
          clear HA1 HA2 HE
          go_wp2
          go_ret
          exact ⟨rfl, HR.out⟩
  · rw [if_neg hb, if_neg hb, if_neg hb]
    have hne : (refV t k != 0) = true := by simp [hb]
    have HFin : Hid (∃ K' L', CD w K' L' s t ∧ GoesC w w K L K' L') := ⟨K, L, h, GoesC.refl _ _ _⟩
    clear h hb hr
    generalize refV t k = r at *
    unfold ptr at *
    go_enter Try.func26, Try.ntmps26
    go_wp2_with (first | (go_at_call 54; refine hR.mono ?_; rintro e W ⟨rfl, rfl⟩))
    go_ret
    exact ⟨rfl, HFin.out⟩
end Go.Proofs.Ytencclpcebpgmaa
