/- A cache in memory: its row of six cells, its map, its holdings in a ring; what it stands for; no condition. -/
import Derived.Test.YtencclpcebpgmaaRowOps
import Derived.Test.YtencclpcebpgmaaLoad
namespace Go.Proofs.Ytencclpcebpgmaa
open Go.RowKit Go.Maps

theorem nodup_sub_len {α : Type} [DecidableEq α] : ∀ (l m : List α), l.Nodup → (∀ x ∈ l, x ∈ m) → l.length ≤ m.length
  | [], _, _, _ => by simp
  | a :: t, m, hn, hs => by
    have h1 := nodup_sub_len t (m.erase a) (List.nodup_cons.1 hn).2 fun x hx => by
      have hne : x ≠ a := fun q => (List.nodup_cons.1 hn).1 (q ▸ hx)
      exact (List.mem_erase_of_ne hne).2 (hs x (List.mem_cons_of_mem _ hx))
    have h2 := hs a (List.mem_cons_self ..)
    rw [List.length_erase_of_mem h2] at h1
    have := List.length_pos_of_mem h2
    rw [List.length_cons]
    omega
theorem nodup_map_inj {α β : Type} {f : α → β} : ∀ (l : List α), (l.map f).Nodup → ∀ x y, x ∈ l → y ∈ l → f x = f y → x = y
  | [], _, x, _, hx, _, _ => by simp at hx
  | a :: t, hn, x, y, hx, hy, e => by
    rw [List.map_cons, List.nodup_cons] at hn
    rcases List.mem_cons.1 hx with hx1 | hx1
    · rcases List.mem_cons.1 hy with hy1 | hy1
      · exact hx1.trans hy1.symm
      · exact absurd (List.mem_map.2 ⟨y, hy1, by rw [← e, hx1]⟩) hn.1
    · rcases List.mem_cons.1 hy with hy1 | hy1
      · exact absurd (List.mem_map.2 ⟨x, hx1, by rw [e, hy1]⟩) hn.1
      · exact nodup_map_inj t hn.2 x y hx1 hy1 e
/-- A block that is held. -/
structure Hld where
  pos : Int
  fast : Bool
  dat : Nat → Int
def hld (M : Nat → Nd) (g : Nat) : Hld := ⟨(M g).pos, (M g).fast, (M g).dat⟩
/-- Where a cache lies. -/
structure KLoc where
  c : Nat
  d : Nat
  e : Nat
  mb : Nat
  ns : List Nat
  M : Nat → Nd
def KLoc.has (K : KLoc) (k : Nat) : Prop := k = K.c ∨ k = K.mb ∨ k = K.e ∨ k ∈ K.ns
/-- What a cache stands for. -/
structure CSt where
  size : Int
  row : List Hld
def fastN (r : List Hld) : Nat := r.countP (·.fast)
def posOf (M : Nat → Nd) (g : Nat) : Int := (M g).pos
def mapV (M : Nat → Nd) (ns : List Nat) : Int → Option Value := fun k => (ns.find? fun g => posOf M g == k).map ptr
theorem mapV_none {M : Nat → Nd} {ns : List Nat} {k : Int} (h : ∀ g ∈ ns, posOf M g ≠ k) : mapV M ns k = none := by
  unfold mapV
  rw [List.find?_eq_none.2 (fun x hx => by simpa using h x hx)]
  rfl
theorem mapV_some {M : Nat → Nd} {ns : List Nat} (hn : (ns.map (posOf M)).Nodup) {g : Nat} (hg : g ∈ ns) : mapV M ns (posOf M g) = some (ptr g) := by
  unfold mapV
  cases hf : ns.find? fun x => posOf M x == posOf M g with
  | none => exact absurd (List.find?_eq_none.1 hf g hg) (by simp)
  | some x =>
    have h1 := List.find?_some hf
    have h2 := List.mem_of_find?_eq_some hf
    have h3 : posOf M x = posOf M g := by simpa using h1
    have h4 : x = g := nodup_map_inj _ hn x g h2 hg h3
    rw [h4]
    rfl
theorem mapV_ext {M M' : Nat → Nd} {ns ns' : List Nat} (h1 : (ns.map (posOf M)).Nodup) (h2 : (ns'.map (posOf M')).Nodup) (hm : ∀ g, g ∈ ns ↔ g ∈ ns') (hp : ∀ g ∈ ns, posOf M' g = posOf M g) : mapV M ns = mapV M' ns' := by
  funext k
  by_cases hk : ∃ g ∈ ns, posOf M g = k
  · obtain ⟨g, hg, rfl⟩ := hk
    rw [mapV_some h1 hg, ← hp g hg, mapV_some h2 ((hm g).1 hg)]
  · rw [mapV_none fun g hg q => hk ⟨g, hg, q⟩, mapV_none fun g hg q => hk ⟨g, (hm g).2 hg, by rw [← hp g ((hm g).2 hg)]; exact q⟩]
theorem mapV_add {M M' : Nat → Nd} {ns : List Nat} {g : Nat} (h2 : ((ns ++ [g]).map (posOf M')).Nodup) (hp : ∀ x ∈ ns, posOf M' x = posOf M x) :
    (fun y => if y = posOf M' g then some (ptr g) else mapV M ns y) = mapV M' (ns ++ [g]) := by
  have h1 : (ns.map (posOf M)).Nodup := by
    rw [List.map_append] at h2
    have := (List.nodup_append.1 h2).1
    rwa [List.map_congr_left hp] at this
  funext k
  by_cases hk : k = posOf M' g
  · subst hk
    rw [if_pos rfl, mapV_some h2 (by simp)]
  · rw [if_neg hk]
    by_cases hx : ∃ x ∈ ns, posOf M x = k
    · obtain ⟨x, hx, rfl⟩ := hx
      rw [mapV_some h1 hx, ← hp x hx, mapV_some h2 (by simp [hx])]
    · rw [mapV_none fun x hx' q => hx ⟨x, hx', q⟩, mapV_none]
      intro x hx' q
      rcases List.mem_append.1 hx' with h | h
      · exact hx ⟨x, h, by rw [← hp x h]; exact q⟩
      · obtain rfl : x = g := by simpa using h
        exact hk q.symm
theorem mapV_del {M M' : Nat → Nd} {p q : List Nat} {g : Nat} (h1 : ((p ++ g :: q).map (posOf M)).Nodup) (hp : ∀ x ∈ p ++ q, posOf M' x = posOf M x) :
    (fun y => if y = posOf M g then none else mapV M (p ++ g :: q) y) = mapV M' (p ++ q) := by
  have hsub : ((p ++ q).map (posOf M)).Nodup := by
    rw [List.map_append, List.map_cons] at h1
    rw [List.map_append]
    exact (h1.sublist (List.Sublist.append_left (List.sublist_cons_self ..) _))
  have h2 : ((p ++ q).map (posOf M')).Nodup := by rwa [List.map_congr_left hp]
  have hg : ∀ x ∈ p ++ q, posOf M x ≠ posOf M g := by
    intro x hx e
    have h3 : (p ++ g :: q).Perm (g :: (p ++ q)) := List.perm_middle
    have h4 := ((h3.map (posOf M)).nodup_iff).1 h1
    rw [List.map_cons, List.nodup_cons] at h4
    exact h4.1 (List.mem_map.2 ⟨x, hx, e⟩)
  funext k
  by_cases hk : k = posOf M g
  · subst hk
    rw [if_pos rfl, mapV_none]
    intro x hx
    rw [hp x hx]
    exact hg x hx
  · rw [if_neg hk]
    by_cases hx : ∃ x ∈ p ++ q, posOf M x = k
    · obtain ⟨x, hx, rfl⟩ := hx
      rw [mapV_some h1 (by simp at hx ⊢; rcases hx with h | h <;> simp [h]), ← hp x hx, mapV_some h2 hx]
    · rw [mapV_none, mapV_none fun x hx' q => hx ⟨x, hx', by rw [← hp x hx']; exact q⟩]
      intro x hx' e
      simp at hx'
      rcases hx' with h | rfl | h
      · exact hx ⟨x, by simp [h], e⟩
      · exact hk e.symm
      · exact hx ⟨x, by simp [h], e⟩
/-- How many a map has. -/
theorem map_size {w : World} {b : Nat} {M : Nat → Nd} {ns : List Nat} (hn : (ns.map (posOf M)).Nodup) {D : DataW Value} {n : Nat} (h : w.ownsMap Try.prog 3 valElem b n D) (hv : Views D (mapV M ns)) : Maps.size D = ns.length := by
  obtain ⟨es, rfl, hp, _⟩ := h.entries keyed3
  have hko : ∀ p ∈ es, ∃ x, p.1 = .int .i64 x := by
    obtain ⟨es', clock, _, F, _, hD⟩ := h
    intro p hp
    have e : es = (es'.toList.map (Go.WideElems.rg Try.prog 3 valElem)).foldr DataW.insert [] := by simpa using hD
    rw [e] at hp
    obtain ⟨y, hy, rfl⟩ := List.mem_map.1 (mem_sorted.1 hp)
    obtain ⟨z, hz⟩ := F.reads y hy
    obtain ⟨x, _, hx, _⟩ := Maps.keyOf_int_inv Try.underlying3 (Go.WideElems.rd_key hz)
    exact ⟨x, by rw [Go.WideElems.rg_of hz]; exact hx⟩
  let f : Lit × DataW Value → Int := fun p => match p.1 with | .int _ x => x | _ => 0
  have hf : ∀ p ∈ es, p.1 = .int .i64 (f p) := fun p hp' => by
    obtain ⟨a, ha⟩ := hko p hp'
    simp only [f, ha]
  have hnd : (es.map f).Nodup := by
    refine List.pairwise_map.2 (hp.imp_of_mem fun {p q} hp' hq' hne e => hne ?_)
    rw [hf p hp', hf q hq', e]
  have hsz : Maps.size (DataW.map es) = (es.map f).length := by simp [Maps.size]
  have hmem : ∀ x, x ∈ es.map f ↔ x ∈ ns.map (posOf M) := by
    intro x
    constructor
    · intro hx
      obtain ⟨p, hp', rfl⟩ := List.mem_map.1 hx
      have hh : has (.map es) (.int .i64 (f p)) = true := List.any_eq_true.2 ⟨p, hp', by rw [hf p hp']; simp [Lit.sameKey]⟩
      apply Classical.byContradiction
      intro hx'
      rw [hv.none (f p) (mapV_none fun g hg q => hx' (List.mem_map.2 ⟨g, hg, q⟩))] at hh
      cases hh
    · intro hx
      obtain ⟨g, hg, rfl⟩ := List.mem_map.1 hx
      obtain ⟨_, hh, _⟩ := hv.some _ _ (mapV_some hn hg)
      obtain ⟨p, hp', hs⟩ := List.any_eq_true.1 hh
      refine List.mem_map.2 ⟨p, hp', ?_⟩
      rw [hf p hp'] at hs
      simpa [Lit.sameKey] using hs
  have hns : ns.length = (ns.map (posOf M)).length := by simp
  rw [hsz, hns]
  exact Nat.le_antisymm (nodup_sub_len _ _ hnd fun x hx => (hmem x).1 hx) (nodup_sub_len _ _ hn fun x hx => (hmem x).2 hx)
end Go.Proofs.Ytencclpcebpgmaa
