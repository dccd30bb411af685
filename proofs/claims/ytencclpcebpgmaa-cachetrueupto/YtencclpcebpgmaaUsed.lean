/- What a cache is behind a use of a block, as plain functions; the contract of use in one form; a holding's bytes and its flag turned; no condition. -/
import Derived.Test.YtencclpcebpgmaaUse
namespace Go.Proofs.Ytencclpcebpgmaa
open Go.RowKit Go.Maps
variable {w : World} {K : KLoc} {L : Loc} {s : CSt} {t : St}

def atR (r : List Hld) (k : Int) : Option Hld := r.find? (fun h => h.pos == k)
def goneR (r : List Hld) (k : Int) : List Hld := r.eraseP (fun h => h.pos == k)
def usedE (s : CSt) (t : St) (k : Int) : Int := if refV t k ≠ 0 then refV t k else if atR s.row k = none ∧ (fastN s.row : Int) = s.size then 160 else 0
def useP (s : CSt) (k : Int) : List Hld × Hld × Bool := match atR s.row k with
  | some h => (goneR s.row k, h, false)
  | none => (placeR s.size s.row, ⟨k, false, nought⟩, true)
theorem atR_none (h : CacheAt w K s) {k : Int} (ha : atR s.row k = none) : ∀ g ∈ K.ns, posOf K.M g ≠ k := by
  intro g hg e
  unfold atR at ha
  rw [h.holds] at ha
  have := List.find?_eq_none.1 ha (hld K.M g) (List.mem_map.2 ⟨g, hg, rfl⟩)
  exact this (by show ((K.M g).pos == k) = true; rw [show (K.M g).pos = k from e]; simp)
theorem find_map {f : Nat → Hld} {P : Hld → Bool} : ∀ (l : List Nat) (x : Hld), (l.map f).find? P = some x → ∃ p g q, l = p ++ g :: q ∧ f g = x ∧ P x = true ∧ ∀ a ∈ p, P (f a) = false
  | [], x, h => by simp at h
  | a :: t, x, h => by
    rw [List.map_cons, List.find?_cons] at h
    cases hp : P (f a) with
    | true =>
      rw [hp] at h
      injection h with h
      exact ⟨[], a, t, rfl, h, by rw [← h]; exact hp, by simp⟩
    | false =>
      rw [hp] at h
      obtain ⟨p, g, q, h1, h2, h3, h4⟩ := find_map t x h
      refine ⟨a :: p, g, q, by rw [h1]; rfl, h2, h3, fun b hb => ?_⟩
      rcases List.mem_cons.1 hb with rfl | hb
      · exact hp
      · exact h4 b hb
theorem atR_some (h : CacheAt w K s) {k : Int} {x : Hld} (ha : atR s.row k = some x) : ∃ p g q, K.ns = p ++ g :: q ∧ hld K.M g = x ∧ posOf K.M g = k ∧ goneR s.row k = (p ++ q).map (hld K.M) ∧ x.pos = k := by
  unfold atR at ha
  rw [h.holds] at ha
  obtain ⟨p, g, q, h1, h2, h3, h4⟩ := find_map K.ns x ha
  have hk : x.pos = k := by simpa using h3
  refine ⟨p, g, q, h1, h2, by rw [← hk, ← h2]; rfl, ?_, hk⟩
  unfold goneR
  rw [h.holds, h1, List.map_append, List.map_cons, eraseP_split (fun a ha => by
    obtain ⟨y, hy, rfl⟩ := List.mem_map.1 ha
    exact h4 y hy) (by rw [h2]; exact h3), List.map_append]
/-- A block is used. -/
theorem use_ok (h : CD w K L s t) {k : Int} (hu : usedE s t k = 0) :
    Calls Try.prog 53 #[ptr K.c, .int .i64 k] w fun e w' => ∃ K' g l, e = .returned (.tuple #[ptr g, .bool (useP s k).2.2, .int .i64 0]) ∧ K'.ns = l ++ [g] ∧
      hld K'.M g = (useP s k).2.1 ∧ CD w' K' L { s with row := (useP s k).1 ++ [(useP s k).2.1] } t ∧ GoesC w w' K L K' L := by
  have hb : refV t k = 0 := by
    apply Classical.byContradiction
    intro hb
    unfold usedE at hu
    rw [if_pos hb] at hu
    exact hb hu
  unfold useP
  cases ha : atR s.row k with
  | some x =>
    obtain ⟨p, g, q, h1, h2, h3, h4, _⟩ := atR_some h.cache ha
    refine (use_held h hb h1 h3).mono ?_
    rintro e w' ⟨rfl, M', a1, a2, a3⟩
    rw [← h4, h2] at a1
    obtain ⟨b1, b2⟩ := h.caches a1 rfl rfl (by
      rintro i (r | r | r | r)
      · exact .inl (.inl r)
      · exact .inl (.inr (.inl r))
      · exact .inl (.inr (.inr (.inl r)))
      · refine .inl (.inr (.inr (.inr ?_)))
        have r : i ∈ (p ++ q) ++ [g] := r
        rw [h1]
        simp at r ⊢
        rcases r with r | r | r <;> simp [r]) a3
    exact ⟨_, g, p ++ q, rfl, rfl, a2.trans h2, b1, b2⟩
  | none =>
    have hf : (fastN s.row : Int) ≠ s.size := by
      intro e
      unfold usedE at hu
      rw [if_neg (by simp [hb]), if_pos ⟨ha, e⟩] at hu
      cases hu
    refine (use_new h hb (atR_none h.cache ha) hf).mono ?_
    rintro e w' ⟨K', g, l, rfl, a1, a2, a3, a4, a5, a6, a7⟩
    obtain ⟨b1, b2⟩ := h.caches a2 a4 a5 a6 a7
    exact ⟨K', g, l, rfl, a1, a3, b1, b2⟩
theorem use_err (h : CD w K L s t) {k : Int} (hu : usedE s t k ≠ 0) :
    Calls Try.prog 53 #[ptr K.c, .int .i64 k] w fun e w' => e = .returned (.tuple #[nilp, .bool false, .int .i64 (usedE s t k)]) ∧ Below w.heap.size w w' := by
  unfold usedE at hu ⊢
  by_cases hb : refV t k = 0
  · rw [if_neg (by simp [hb])] at hu ⊢
    by_cases hf : atR s.row k = none ∧ (fastN s.row : Int) = s.size
    · rw [if_pos hf]
      refine (use_full h hb (atR_none h.cache hf.1) hf.2).mono ?_
      rintro e w' ⟨rfl, rfl⟩
      exact ⟨rfl, ⟨rfl, rfl, rfl, Nat.le_refl _, fun _ _ => rfl⟩⟩
    · rw [if_neg hf] at hu
      exact absurd rfl hu
  · rw [if_pos hb]
    refine (use_bad h hb).mono ?_
    rintro e w' ⟨rfl, rfl⟩
    exact ⟨rfl, Below.refl _ _⟩
/-- A holding's bytes or flag have turned. -/
theorem CacheAt.turn {w' : World} (h : CacheAt w K s) {g : Nat} (hg : g ∈ K.ns) (n : Nd) (hl : n.pv = (K.M g).pv ∧ n.nx = (K.M g).nx ∧ n.pos = (K.M g).pos) {s' : CSt} (hsz : s'.size = s.size)
    (hrow : s'.row = K.ns.map (hld (setM K.M g n))) (hcan : Can n.dat) (hc : w'.heap[K.c]? = some (.cells (ckRow K s') 73)) (hm : w'.heap[K.mb]? = w.heap[K.mb]?)
    (hN : Nodes w' (setM K.M g n) (fun x => x = K.e ∨ x ∈ K.ns)) : CacheAt w' { K with M := setM K.M g n } s' := by
  have e1 : ∀ x, (setM K.M g n x).pv = (K.M x).pv ∧ (setM K.M g n x).nx = (K.M x).nx ∧ (setM K.M g n x).pos = (K.M x).pos := fun x => by
    unfold setM
    split
    · next q => rw [q]; exact hl
    · exact ⟨rfl, rfl, rfl⟩
  have hpos : s'.row.map (·.pos) = s.row.map (·.pos) := by
    rw [hrow, h.holds, List.map_map, List.map_map]
    exact List.map_congr_left fun x _ => (e1 x).2.2
  refine ⟨hc, ?_, hN, ?_, h.nd, hrow, ?_⟩
  · have e2 : mapV (setM K.M g n) K.ns = mapV K.M K.ns := by
      unfold mapV posOf
      funext k
      have : (fun x => (setM K.M g n x).pos == k) = fun x => (K.M x).pos == k := by funext x; rw [(e1 x).2.2]
      rw [this]
    show MapIs Try.prog 3 w' K.mb (mapV (setM K.M g n) K.ns)
    rw [e2]
    exact h.map.kept hm
  · refine seg_mono _ _ _ h.ring fun x y _ _ hxy => ?_
    unfold Lnk
    rw [(e1 x).2.1, (e1 y).1]
    exact hxy
  · refine ⟨by rw [hsz]; exact h.ok.size, ?_, ?_, by rw [hpos]; exact h.ok.nodup⟩
    · have : s'.row.length = s.row.length := by rw [hrow, h.holds]; simp
      rw [this, hsz]
      exact h.ok.len
    · intro x hx
      rw [hrow] at hx
      obtain ⟨y, hy, rfl⟩ := List.mem_map.1 hx
      have h1 := h.ok.pos (hld K.M y) (by rw [h.holds]; exact List.mem_map.2 ⟨y, hy, rfl⟩)
      by_cases e : y = g
      · subst e
        refine ⟨?_, ?_⟩
        · show inTop (setM K.M y n y).pos
          rw [(e1 y).2.2]
          exact h1.1
        · show Can (setM K.M y n y).dat
          rw [setM_same]
          exact hcan
      · unfold hld
        rw [setM_other _ _ _ e]
        exact h1
theorem hld_set {K : KLoc} (hn : K.ns.Nodup) {p q : List Nat} {g : Nat} (hns : K.ns = p ++ g :: q) (n : Nd) : K.ns.map (hld (setM K.M g n)) = p.map (hld K.M) ++ ⟨n.pos, n.fast, n.dat⟩ :: q.map (hld K.M) := by
  rw [hns] at hn ⊢
  have hg : ∀ x ∈ p ++ q, x ≠ g := by
    rintro x hx rfl
    have := (List.perm_middle.nodup_iff).1 hn
    exact (List.nodup_cons.1 this).1 hx
  rw [List.map_append, List.map_cons]
  congr 1
  · refine List.map_congr_left fun x hx => ?_
    unfold hld
    rw [setM_other _ _ _ (hg x (by simp [hx]))]
  · congr 1
    · unfold hld
      rw [setM_same]
    · refine List.map_congr_left fun x hx => ?_
      unfold hld
      rw [setM_other _ _ _ (hg x (by simp [hx]))]
/-- The bytes of a holding are stored. -/
theorem CacheAt.bytes (h : CacheAt w K s) {p q : List Nat} {g : Nat} (hns : K.ns = p ++ g :: q) {f : Nat → Int} (hf : Can f) :
    CacheAt (w.setCells g 4 (blk f).toList) { K with M := setM K.M g { K.M g with dat := f } } { s with row := p.map (hld K.M) ++ ⟨(K.M g).pos, (K.M g).fast, f⟩ :: q.map (hld K.M) } ∧ Fr (fun i => i = g) w (w.setCells g 4 (blk f).toList) := by
  have hgm : g ∈ K.ns := by rw [hns]; simp
  have hF := Fr.setCells w g 4 (blk f).toList
  have hset := hld_set (List.nodup_cons.1 h.nd).2 hns { K.M g with dat := f }
  refine ⟨h.turn hgm { K.M g with dat := f } ⟨rfl, rfl, rfl⟩ rfl hset.symm hf ?_ ?_ ?_, hF⟩
  · refine (heap_setCells g _ _ w K.c (h.cne (.inr hgm)).symm).trans ?_
    rw [h.row]
    have e1 : fastN (p.map (hld K.M) ++ ⟨(K.M g).pos, (K.M g).fast, f⟩ :: q.map (hld K.M)) = fastN s.row := by
      rw [h.holds, hns]
      simp [fastN, List.countP_append, List.countP_cons, hld]
    unfold ckRow
    simp only [e1]
  · exact heap_setCells g _ _ w K.mb (h.mne (.inr hgm)).symm
  · intro x hx
    by_cases e : x = g
    · subst e
      rw [setM_same]
      exact (h.nodes x hx).setD f
    · rw [setM_other _ _ _ e]
      exact (heap_setCells g _ _ w x e).trans (h.nodes x hx)
/-- The flag of a holding is stored, and the count. -/
theorem CacheAt.flag (h : CacheAt w K s) {p q : List Nat} {g : Nat} (hns : K.ns = p ++ g :: q) (b : Bool) {m : Int}
    (hm : m = (fastN (p.map (hld K.M) ++ ⟨(K.M g).pos, b, (K.M g).dat⟩ :: q.map (hld K.M)) : Nat)) {w' : World} (hw : w' = (w.setCell ⟨g, 1, none⟩ (.bool b)).setCell ⟨K.c, 5, none⟩ (.int .i64 m)) :
    CacheAt w' { K with M := setM K.M g { K.M g with fast := b } } { s with row := p.map (hld K.M) ++ ⟨(K.M g).pos, b, (K.M g).dat⟩ :: q.map (hld K.M) } ∧ Fr K.has w w' := by
  subst hw
  have hgm : g ∈ K.ns := by rw [hns]; simp
  have hF : Fr K.has w ((w.setCell ⟨g, 1, none⟩ (.bool b)).setCell ⟨K.c, 5, none⟩ (.int .i64 m)) :=
    ((Fr.setCell w g 1 (.bool b)).mono (T' := K.has) fun i _ q => by rw [q]; exact .inr (.inr (.inr hgm))).trans (Fr.setCell _ K.c 5 _) fun i _ q => .inl q
  have hset := hld_set (List.nodup_cons.1 h.nd).2 hns { K.M g with fast := b }
  have hcan : Can (K.M g).dat := (h.ok.pos (hld K.M g) (by rw [h.holds]; exact List.mem_map.2 ⟨g, hgm, rfl⟩)).2
  refine ⟨h.turn hgm { K.M g with fast := b } ⟨rfl, rfl, rfl⟩ rfl hset.symm hcan ?_ ?_ ?_, hF⟩
  · have h1 : (w.setCell ⟨g, 1, none⟩ (.bool b)).heap[K.c]? = some (.cells (ckRow K s) 73) := (Below.heap_setCell w _ _ K.c (h.cne (.inr hgm)).symm).trans h.row
    rw [Joins.block_setCell h1, hm]
    rfl
  · refine (Below.heap_setCell _ _ _ K.mb h.cm.symm).trans (Below.heap_setCell w _ _ K.mb (h.mne (.inr hgm)).symm)
  · intro x hx
    refine (Below.heap_setCell _ _ _ x (h.cne hx)).trans ?_
    by_cases e : x = g
    · subst e
      rw [setM_same]
      exact (h.nodes x hx).set1 b
    · rw [setM_other _ _ _ e]
      exact (Below.heap_setCell w _ _ x e).trans (h.nodes x hx)
end Go.Proofs.Ytencclpcebpgmaa
