/- A number modulo another; rows of blocks that are only read; no condition. -/
import Derived.Test.YtencclpcebpgmaaTen
namespace Go.Proofs.Ytencclpcebpgmaa
open Go.RowKit Go.Maps

abbrev I64 (x : Int) : Prop := -9223372036854775808 ≤ x ∧ x ≤ 9223372036854775807
theorem place_any (x n : Int) (hx : I64 x) (hn : 0 < n ∧ n ≤ 4096) (w : World) : Calls Try.prog 36 #[.int .i64 x, .int .i64 n] w fun e w' => e = .returned (.int .i64 (x % n)) ∧ w' = w := by
  have hne : n ≠ 0 := by omega
  have h1 := Int.emod_nonneg x hne
  have h2 := Int.emod_lt_of_pos x hn.1
  have hd := Int.tmod_add_mul_tdiv x n
  have hT : (x.tmod n < 0 → x % n = x.tmod n + n) ∧ (¬ x.tmod n < 0 → x % n = x.tmod n) ∧ -4096 ≤ x.tmod n ∧ x.tmod n ≤ 4096 := by
    by_cases hx0 : 0 ≤ x
    · rw [Int.tmod_eq_emod_of_nonneg hx0]
      exact ⟨fun h => by omega, fun _ => rfl, by omega, by omega⟩
    · have e1 : x.tmod n = -((-x) % n) := by
        rw [← Int.tmod_eq_emod_of_nonneg (by omega : 0 ≤ -x), Int.neg_tmod]
        omega
      have e2 := Int.emod_nonneg (-x) hne
      have e3 := Int.emod_lt_of_pos (-x) hn.1
      have e4 : x % n = if (-x) % n = 0 then 0 else n - (-x) % n := by
        have h5 := Int.emod_add_mul_ediv (-x) n
        split
        · next h =>
          rw [h] at h5
          have : x = n * (-((-x) / n)) := by
            rw [Int.mul_neg]
            omega
          rw [this, Int.mul_emod_right]
        · next h =>
          have : x = (n - (-x) % n) + n * (-((-x) / n) - 1) := by
            rw [Int.mul_sub, Int.mul_neg, Int.mul_one]
            omega
          rw [this, Int.add_mul_emod_self_left]
          rw [Int.emod_eq_of_lt (by omega) (by omega)]
          rw [← this]
      rw [e1, e4]
      refine ⟨fun h => ?_, fun h => ?_, by omega, by omega⟩
      · rw [if_neg (by omega)]; omega
      · rw [if_pos (by omega)]; omega
  obtain ⟨t1, t2, t3, t4⟩ := hT
  have hw : IntKind.i64.wrap (x.tmod n) = x.tmod n := by rw [IntKind.wrap_i64]; omega
  have hw2 : IntKind.i64.wrap (x.tmod n + n) = x.tmod n + n := by rw [IntKind.wrap_i64]; omega
  clear hd
  by_cases h0 : x.tmod n < 0
  · rw [t1 h0]
    clear t1 t2
    go_enter Try.func36, Try.ntmps36
    go_wp2
    go_ret
    exact ⟨rfl, rfl⟩
  · rw [t2 h0]
    clear t1 t2
    go_enter Try.func36, Try.ntmps36
    go_wp2
    go_ret
    exact ⟨rfl, rfl⟩
def rowP (ps : List Int) : List Hld := ps.map fun p => ⟨p, false, nought⟩
theorem rowP_fast (ps : List Int) : fastN (rowP ps) = 0 := by
  unfold fastN rowP
  rw [List.countP_eq_zero]
  intro x hx
  obtain ⟨p, _, rfl⟩ := List.mem_map.1 hx
  simp
theorem rowP_ord (ps : List Int) : ordV (rowP ps) = ps := by
  unfold ordV rowP
  rw [List.map_map]
  exact List.map_id' _
theorem rowP_len (ps : List Int) : (rowP ps).length = ps.length := by simp [rowP]
theorem rowP_snoc (ps : List Int) (k : Int) : rowP ps ++ [⟨k, false, nought⟩] = rowP (ps ++ [k]) := by simp [rowP]
theorem rowP_none {k : Int} : ∀ {ps : List Int}, k ∉ ps → atR (rowP ps) k = none := by
  intro ps h
  unfold atR
  rw [List.find?_eq_none]
  intro x hx
  obtain ⟨p, hp, rfl⟩ := List.mem_map.1 hx
  intro e
  have : p = k := by simpa using e
  exact h (this ▸ hp)
theorem rowP_some {k : Int} : ∀ {ps : List Int}, k ∈ ps → atR (rowP ps) k = some ⟨k, false, nought⟩
  | [], h => by simp at h
  | p :: t, h => by
    by_cases e : p = k
    · subst e
      simp [atR, rowP]
    · have h' : k ∈ t := by
        rcases List.mem_cons.1 h with h | h
        · exact absurd h.symm e
        · exact h
      have := rowP_some h'
      unfold atR rowP at this ⊢
      rw [List.map_cons, List.find?_cons]
      have e2 : ((⟨p, false, nought⟩ : Hld).pos == k) = false := by simp [e]
      rw [e2]
      exact this
theorem rowP_gone {k : Int} : ∀ (ps : List Int), goneR (rowP ps) k = rowP (ps.erase k)
  | [] => rfl
  | p :: t => by
    have ih := rowP_gone (k := k) t
    unfold goneR rowP at *
    rw [List.map_cons]
    by_cases e : p = k
    · subst e
      simp
    · rw [List.erase_cons_tail (by simp [e]), List.map_cons, ← ih]
      simp [e]
def tr (r : Int) : St := { newV 20 with reads := r }
theorem tr_cur (r k : Int) : curV (tr r) k = nought := rfl
theorem tr_ref {r k : Int} (h : 0 ≤ k ∧ k < 20) : refV (tr r) k = 0 := by
  unfold refV
  rw [if_neg (by simp [tr, newV]), if_pos (by simpa [tr, newV] using h)]
theorem tr_room {r : Int} (h : r < 1000) : Room (tr r) := ⟨by simp [tr, newV, St.ops], by simp [tr, newV], by simp [tr]; omega, by simp [tr, newV]⟩
variable {n : Int} {ps : List Int} {r k : Int}
theorem few_used (hn : 1 ≤ n) (h : 0 ≤ k ∧ k < 20) : usedE ⟨n, rowP ps⟩ (tr r) k = 0 := by
  unfold usedE
  rw [tr_ref h, if_neg (by simp), if_neg]
  rintro ⟨_, q⟩
  rw [rowP_fast] at q
  simp only at q
  omega
theorem few_new (hn : 1 ≤ n) (h : 0 ≤ k ∧ k < 20) (hk : k ∉ ps) (hl : (ps.length : Int) < n) : rdC ⟨n, rowP ps⟩ (tr r) k = ⟨n, rowP (ps ++ [k])⟩ ∧ rdD ⟨n, rowP ps⟩ (tr r) k = tr (r + 1) := by
  unfold rdC rdD
  rw [few_used hn h, if_pos rfl, if_pos rfl, rowP_none hk]
  refine ⟨?_, rfl⟩
  simp only
  unfold placeR
  rw [rowP_len, if_pos hl, tr_cur, rowP_snoc]
theorem few_held (hn : 1 ≤ n) (h : 0 ≤ k ∧ k < 20) (hk : k ∈ ps) : rdC ⟨n, rowP ps⟩ (tr r) k = ⟨n, rowP (ps.erase k ++ [k])⟩ ∧ rdD ⟨n, rowP ps⟩ (tr r) k = tr r := by
  unfold rdC rdD
  rw [few_used hn h, if_pos rfl, if_pos rfl, rowP_some hk]
  refine ⟨?_, rfl⟩
  simp only
  rw [rowP_gone, rowP_snoc]
theorem few_over {p : Int} (hn : 1 ≤ n) (h : 0 ≤ k ∧ k < 20) (hk : k ∉ p :: ps) (hl : ¬ (((p :: ps).length : Nat) : Int) < n) : rdC ⟨n, rowP (p :: ps)⟩ (tr r) k = ⟨n, rowP (ps ++ [k])⟩ ∧ rdD ⟨n, rowP (p :: ps)⟩ (tr r) k = tr (r + 1) := by
  unfold rdC rdD
  rw [few_used hn h, if_pos rfl, if_pos rfl, rowP_none hk]
  refine ⟨?_, rfl⟩
  simp only
  unfold placeR
  rw [rowP_len, if_neg hl, tr_cur, ← rowP_snoc]
  simp [rowP]
/-- A block that is new since W is told. -/
theorem Sit.keepNew {w W W' : World} {c d : Nat} {s : CSt} {t : St} {ks : List (Nat × Obj)} (h : Sit w W c d s t ks) (hb : Below W.heap.size W W') {g : Nat} {o : Obj} (hg : W.heap.size ≤ g) (ho : W'.heap[g]? = some o) : Sit w W' c d s t ((g, o) :: ks) := by
  obtain ⟨K, L, hc, hd, h⟩ := h
  have h2 := h.goes (h.cd.later hb) (GoesC.ofBelow K L hb)
  refine ⟨K, L, hc, hd, h2.cd, h2.newK, h2.newL, h2.below, fun p hp => ?_⟩
  rcases List.mem_cons.1 hp with rfl | hp
  · exact ⟨ho, fun q => by have := h.cd.cache.lt _ q; simp only at this; omega, fun q => by have := h.cd.disk.lt _ q; simp only at this; omega⟩
  · exact h2.keep p hp
theorem Sit.setCell {w W : World} {c d : Nat} {s : CSt} {t : St} {ks : List (Nat × Obj)} {g i : Nat} {cs : Array Value} {ty : TypeId} {v : Value} (h : Sit w W c d s t ((g, .cells cs ty) :: ks)) (hg : w.heap.size ≤ g) (hks : ∀ p ∈ ks, p.1 ≠ g) :
    Sit w (W.setCell ⟨g, i, none⟩ v) c d s t ((g, .cells (cs.setIfInBounds i v) ty) :: ks) := by
  rw [setCell_eq_setRow W g i cs ty (0, 0) v (h.blk (List.mem_cons_self ..))]
  exact h.setRow hg hks
theorem sit_orderB {w W : World} {c d : Nat} {s : CSt} {t : St} {ks : List (Nat × Obj)} (h : Sit w W c d s t ks) (hne : 0 < s.row.length) : Calls Try.prog 31 #[ptr c] W fun e W' => ∃ g cap cur, e = .returned (.slice (some ⟨g, 0, none⟩) s.row.length cap) ∧
    (∀ (j : Nat) (x : Int), (ordV s.row)[j]? = some x → (cur : Array Value)[j]? = some (.int .i64 x)) ∧ s.row.length ≤ cap ∧ Sit w W' c d s t ((g, .cells cur 3) :: ks) := by
  have h' := h
  obtain ⟨K, L, rfl, rfl, h⟩ := h
  refine (order_of h.cd.cache).mono ?_
  rintro e W' ⟨v, rfl, h1, h2⟩
  have hl : (ordV s.row).length = s.row.length := by simp [ordV]
  rcases h1.2 with ⟨_, q⟩ | ⟨g, cap, cur, hv, hg, hh, hc, h6, h7, h8⟩
  · rw [hl] at q; omega
  · rw [hl] at hv hc
    refine ⟨g, cap, cur, by rw [hv], fun j x hx => ?_, hc, h'.keepNew h2 hg hh⟩
    have q := h1.cells (g := g) (by rw [hv]; rfl) j (.int .i64 x) (by rw [List.getElem?_map, hx]; rfl)
    rw [Go.WideShapes.add_plain, Joins.cell_of_block hh, Nat.zero_add] at q
    exact q
/-- The row is rising in the time of use. -/
structure Rec20 (ps : List Int) (n : Nat) (u : Nat → Int) (m : Int) : Prop where
  len : ps.length = n
  nodup : ps.Nodup
  bnd : ∀ p ∈ ps, 0 ≤ p ∧ p < n
  rise : ps.Pairwise (fun p q => u p.toNat < u q.toNat)
  top : ∀ p ∈ ps, u p.toNat < m
theorem mem_all {n : Nat} {ps : List Int} {u : Nat → Int} {m : Int} (h : Rec20 ps n u m) {k : Int} (hk : 0 ≤ k ∧ k < n) : k ∈ ps := by
  apply Classical.byContradiction
  intro hn
  have h1 : (k :: ps).Nodup := List.nodup_cons.2 ⟨hn, h.nodup⟩
  have h2 := nodup_le n (k :: ps) h1 (fun x hx => by
    rcases List.mem_cons.1 hx with rfl | hx
    · exact hk
    · exact h.bnd x hx)
  rw [List.length_cons, h.len] at h2
  omega
theorem Rec20.touch {n : Nat} {ps : List Int} {u : Nat → Int} {m : Int} (h : Rec20 ps n u m) {k : Int} (hk : k ∈ ps) : Rec20 (ps.erase k ++ [k]) n (upd u k.toNat m) (m + 1) := by
  have hsub : (ps.erase k).Sublist ps := List.erase_sublist
  have hkb := h.bnd k hk
  have hne : ∀ x ∈ ps.erase k, x ≠ k := fun x hx => ((h.nodup.mem_erase_iff).1 hx).1
  have hnn : ∀ x ∈ ps.erase k, x.toNat ≠ k.toNat := fun x hx e => by
    have h1 := h.bnd x (hsub.subset hx)
    exact hne x hx (by omega)
  have hu : ∀ x ∈ ps.erase k, upd u k.toNat m x.toNat = u x.toNat := fun x hx => by unfold upd; rw [if_neg (hnn x hx)]
  have huk : upd u k.toNat m k.toNat = m := by unfold upd; rw [if_pos rfl]
  refine ⟨?_, ?_, ?_, ?_, ?_⟩
  · rw [List.length_append, List.length_erase_of_mem hk, h.len]
    have := List.length_pos_of_mem hk
    rw [h.len] at this
    simp
    omega
  · rw [List.nodup_append]
    refine ⟨h.nodup.sublist hsub, by simp, ?_⟩
    intro a ha b hb e
    simp at hb
    exact hne a ha (e.trans hb)
  · intro p hp
    rcases List.mem_append.1 hp with hp | hp
    · exact h.bnd p (hsub.subset hp)
    · simp at hp; subst hp; exact hkb
  · rw [List.pairwise_append]
    refine ⟨(h.rise.sublist hsub).imp_of_mem fun {p q} hp hq hl => by rw [hu p hp, hu q hq]; exact hl, by simp, ?_⟩
    intro a ha b hb
    simp at hb
    subst hb
    rw [hu a ha, huk]
    exact h.top a (hsub.subset ha)
  · intro p hp
    rcases List.mem_append.1 hp with hp | hp
    · rw [hu p hp]; have := h.top p (hsub.subset hp); omega
    · simp at hp; subst hp; rw [huk]; omega
def rangeI (k : Nat) : List Int := (List.range k).map fun (i : Nat) => (i : Int)
theorem rangeI_succ (k : Nat) : rangeI (k + 1) = rangeI k ++ [(k : Int)] := by simp [rangeI, List.range_succ]
theorem rangeI_mem {k : Nat} {x : Int} : x ∈ rangeI k ↔ 0 ≤ x ∧ x < k := by
  unfold rangeI
  rw [List.mem_map]
  constructor
  · rintro ⟨i, hi, rfl⟩
    have := List.mem_range.1 hi
    omega
  · rintro ⟨h1, h2⟩
    exact ⟨x.toNat, List.mem_range.2 (by omega), by omega⟩
theorem rangeI_len (k : Nat) : (rangeI k).length = k := by simp [rangeI]
theorem Rec20.start {n : Nat} (hn : n ≤ 12) : ∀ (u : Nat → Int), (∀ i, i < n → u i = i) → Rec20 (rangeI n) n u 100 := by
  intro u hu
  have hpu : ∀ p ∈ rangeI n, u p.toNat = p := fun p hp => by
    have := rangeI_mem.1 hp
    rw [hu p.toNat (by omega)]
    omega
  have hlt : (rangeI n).Pairwise (fun p q => p < q) := by
    unfold rangeI
    rw [List.pairwise_map]
    exact List.pairwise_lt_range.imp fun {a b} h => by omega
  refine ⟨rangeI_len n, hlt.imp fun {a b} h => by omega, fun p hp => rangeI_mem.1 hp, hlt.imp_of_mem fun {p q} hp hq h => by rw [hpu p hp, hpu q hq]; exact h, fun p hp => ?_⟩
  rw [hpu p hp]
  have := rangeI_mem.1 hp
  omega
end Go.Proofs.Ytencclpcebpgmaa
