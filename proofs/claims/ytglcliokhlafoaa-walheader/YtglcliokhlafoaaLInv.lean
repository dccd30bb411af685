/- What holds of every log that lives, told by its book; no condition. -/
import Derived.Test.YtglcliokhlafoaaLChange
namespace Go.Proofs.Ytglcliokhlafoaa
open Go.RowKit Go.Maps
variable {w W : World} {g d c mb : Nat} {v : Value} {x : LSt} {s : CSt} {t : St} {os ks : List (Nat × Obj)} {base : Nat} {book : Int → Nat → Int}
def inB (x : LSt) : Int → Bool := fun k => decide (k ∈ x.blocks)
structure Inv (x : LSt) (s : CSt) (t : St) (book : Int → Nat → Int) : Prop where
  fine : H.Fine x.b x.l x.i
  c : CInv x.b x.l s t book (inB x)
  nd : x.blocks.Nodup
  rng : ∀ k ∈ x.blocks, 1 + x.l ≤ k ∧ k < x.b
  fast : (fastN s.row : Int) = x.blocks.length
  last : ∀ k, x.last k = none ↔ k ∉ x.blocks
  len : (x.blocks.length : Int) ≤ x.l - 1
  steps : 0 ≤ x.steps ∧ x.steps ≤ 1099511627776
  commits : 0 ≤ x.commits ∧ x.commits ≤ 1099511627776
  room : 0 ≤ x.room ∧ x.room ≤ 256
  more : x.opn = true → (x.blocks.length : Int) + x.room ≤ x.l - 1
/-- A log that lives, with its book. -/
def LogI (w W : World) (g d : Nat) (x : LSt) (t : St) (book : Int → Nat → Int) (ks : List (Nat × Obj)) : Prop := ∃ s, LogSit w W g d x s t ks ∧ Inv x s t book
theorem LS.add (h : LS w W g d c mb v x s t os ks) (o : Obj) : LS w (W.alloc o) g d c mb v x s t os ((W.heap.size, o) :: ks) := by
  refine ⟨(h.sit.add o).drop fun p hp => ?_, h.log.later (below_new W o), h.own, fun p hp => ?_⟩
  · rcases List.mem_append.1 hp with hp | hp
    · exact List.mem_cons_of_mem _ (List.mem_append.2 (.inl hp))
    · rcases List.mem_cons.1 hp with rfl | hp
      · exact List.mem_cons_self ..
      · exact List.mem_cons_of_mem _ (List.mem_append.2 (.inr hp))
  · rcases List.mem_cons.1 hp with rfl | hp
    · intro q
      have := h.log.lt _ q
      simp only at this
      omega
    · exact h.ap p hp
theorem LS.drop (h : LS w W g d c mb v x s t os ks) {ks' : List (Nat × Obj)} (hs : ∀ p ∈ ks', p ∈ ks) : LS w W g d c mb v x s t os ks' :=
  ⟨h.sit.drop fun p hp => by
    rcases List.mem_append.1 hp with hp | hp
    · exact List.mem_append.2 (.inl hp)
    · exact List.mem_append.2 (.inr (hs p hp)), h.log, h.own, fun p hp => h.ap p (hs p hp)⟩
theorem LogSit.later {W' : World} (h : LogSit w W g d x s t ks) (hb : Below W.heap.size W W') : LogSit w W' g d x s t ks := by
  obtain ⟨c, mb, v, os, h⟩ := h
  exact ⟨c, mb, v, os, h.later hb⟩
theorem LogSit.add (h : LogSit w W g d x s t ks) (o : Obj) : LogSit w (W.alloc o) g d x s t ((W.heap.size, o) :: ks) := by
  obtain ⟨c, mb, v, os, h⟩ := h
  exact ⟨c, mb, v, os, h.add o⟩
theorem LogSit.drop (h : LogSit w W g d x s t ks) {ks' : List (Nat × Obj)} (hs : ∀ p ∈ ks', p ∈ ks) : LogSit w W g d x s t ks' := by
  obtain ⟨c, mb, v, os, h⟩ := h
  exact ⟨c, mb, v, os, h.drop hs⟩
theorem LogSit.obj (h : LogSit w W g d x s t ks) {q : Nat} {o : Obj} (hm : (q, o) ∈ ks) : W.heap[q]? = some o := by
  obtain ⟨c, mb, v, os, h⟩ := h
  exact h.sit.blk (List.mem_append.2 (.inr hm))
theorem LogSit.below (h : LogSit w W g d x s t ks) : Below w.heap.size w W := by
  obtain ⟨c, mb, v, os, h⟩ := h
  exact h.sit.below
theorem LogSit.ok (h : LogSit w W g d x s t ks) : COk s ∧ Ok t := by
  obtain ⟨c, mb, v, os, h⟩ := h
  exact h.sit.ok
theorem LogI.later {W' : World} (h : LogI w W g d x t book ks) (hb : Below W.heap.size W W') : LogI w W' g d x t book ks := by
  obtain ⟨s, h1, h2⟩ := h
  exact ⟨s, h1.later hb, h2⟩
theorem LogI.add (h : LogI w W g d x t book ks) (o : Obj) : LogI w (W.alloc o) g d x t book ((W.heap.size, o) :: ks) := by
  obtain ⟨s, h1, h2⟩ := h
  exact ⟨s, h1.add o, h2⟩
theorem LogI.drop (h : LogI w W g d x t book ks) {ks' : List (Nat × Obj)} (hs : ∀ p ∈ ks', p ∈ ks) : LogI w W g d x t book ks' := by
  obtain ⟨s, h1, h2⟩ := h
  exact ⟨s, h1.drop hs, h2⟩
theorem LogI.obj (h : LogI w W g d x t book ks) {q : Nat} {o : Obj} (hm : (q, o) ∈ ks) : W.heap[q]? = some o := by
  obtain ⟨s, h1, h2⟩ := h
  exact h1.obj hm
theorem LogI.below (h : LogI w W g d x t book ks) : Below w.heap.size w W := by
  obtain ⟨s, h1, h2⟩ := h
  exact h1.below
theorem claimed_live {k : Int} (h : claimedV t k = true) : t.stopped = false := by
  unfold claimedV at h
  cases hs : t.stopped
  · rfl
  · rw [hs] at h; simp at h
theorem refL_live {o : Bool} (h : refL x t o = 0) : claimedV t x.claim = true ∧ x.opn = o := by
  unfold refL at h
  split at h
  · rename_i hc
    split at h
    · rename_i ho
      exact ⟨hc, ho⟩
    · omega
  · omega
theorem Inv.dat (h : Inv x s t book) {k : Int} (hk : 1 + x.l ≤ k ∧ k < x.b) : Dat x.b x.l k := by
  have := h.fine.1
  exact ⟨⟨by omega, hk.2⟩, fun q => by omega⟩
theorem Inv.used (h : Inv x s t book) (hs : t.stopped = false) {k : Int} (hk : Dat x.b x.l k) : usedE s t k = 0 := h.c.used hs hk (by have := h.fast; have := h.len; omega)
/-- Another block is changed, or one again. -/
theorem Inv.change (h : Inv x s t book) {k n r : Int} {f : Nat → Int} (hs : t.stopped = false) (hk : 1 + x.l ≤ k ∧ k < x.b) (hn : k ∉ x.blocks → (x.blocks.length : Int) + 1 + r ≤ x.l - 1) (hr : 0 ≤ r ∧ r ≤ x.room) (hok : COk (putC s t k f)) :
    Inv { changeL x k n with room := r } (putC s t k f) t (fun j => if j = k then f else book j) := by
  have hD := h.dat hk
  obtain ⟨h1, h2⟩ := h.c.put hD (h.used hs hD) f hok
  have hr2 := h.room
  by_cases hm : k ∈ x.blocks
  · have hl : x.last k ≠ none := fun q => ((h.last k).1 q) hm
    have hbl : (changeL x k n).blocks = x.blocks := by unfold changeL; simp only; rw [if_neg hl]
    have hin : inB { changeL x k n with room := r } = fun j => if j = k then true else inB x j := by
      funext j
      unfold inB
      show decide (j ∈ (changeL x k n).blocks) = _
      rw [hbl]
      by_cases e : j = k
      · rw [if_pos e, e]; simpa using hm
      · rw [if_neg e]
    refine ⟨h.fine, ?_, ?_, ?_, ?_, ?_, ?_, h.steps, h.commits, ⟨hr.1, by show r ≤ 256; omega⟩, ?_⟩
    · rw [hin]; exact h1
    · show (changeL x k n).blocks.Nodup; rw [hbl]; exact h.nd
    · show ∀ j ∈ (changeL x k n).blocks, _; rw [hbl]; exact h.rng
    · show _ = ((changeL x k n).blocks.length : Int); rw [hbl, h2, if_pos (by unfold inB; simpa using hm)]; have := h.fast; omega
    · intro j
      show (if j = k then some n else x.last j) = none ↔ j ∉ (changeL x k n).blocks
      rw [hbl]
      by_cases e : j = k
      · rw [if_pos e, e]; simp [hm]
      · rw [if_neg e]; exact h.last j
    · show ((changeL x k n).blocks.length : Int) ≤ _; rw [hbl]; exact h.len
    · intro ho
      show ((changeL x k n).blocks.length : Int) + r ≤ _
      rw [hbl]
      have := h.more ho
      show (x.blocks.length : Int) + r ≤ x.l - 1
      omega
  · have hl : x.last k = none := (h.last k).2 hm
    have hbl : (changeL x k n).blocks = x.blocks ++ [k] := by unfold changeL; simp only; rw [if_pos hl]
    have hlen : ((changeL x k n).blocks.length : Int) = x.blocks.length + 1 := by rw [hbl]; simp
    have hn' := hn hm
    have hin : inB { changeL x k n with room := r } = fun j => if j = k then true else inB x j := by
      funext j
      unfold inB
      show decide (j ∈ (changeL x k n).blocks) = _
      rw [hbl]
      by_cases e : j = k
      · rw [if_pos e, e]; simp
      · rw [if_neg e]; simp [e]
    refine ⟨h.fine, ?_, ?_, ?_, ?_, ?_, ?_, h.steps, h.commits, ⟨hr.1, by show r ≤ 256; omega⟩, ?_⟩
    · rw [hin]; exact h1
    · show (changeL x k n).blocks.Nodup
      rw [hbl, List.nodup_append]
      refine ⟨h.nd, by simp, fun a ha b hb => ?_⟩
      simp only [List.mem_cons, List.not_mem_nil, or_false] at hb
      subst hb
      exact fun q => hm (q ▸ ha)
    · show ∀ j ∈ (changeL x k n).blocks, _
      rw [hbl]
      intro j hj
      rcases List.mem_append.1 hj with hj | hj
      · exact h.rng j hj
      · simp only [List.mem_cons, List.not_mem_nil, or_false] at hj
        subst hj
        exact hk
    · show _ = ((changeL x k n).blocks.length : Int)
      rw [hlen, h2, if_neg (by unfold inB; simpa using hm)]
      have := h.fast
      omega
    · intro j
      show (if j = k then some n else x.last j) = none ↔ j ∉ (changeL x k n).blocks
      rw [hbl]
      by_cases e : j = k
      · rw [if_pos e, e]; simp
      · rw [if_neg e, h.last j]; simp [e]
    · show ((changeL x k n).blocks.length : Int) ≤ x.l - 1
      omega
    · intro _
      show ((changeL x k n).blocks.length : Int) + r ≤ x.l - 1
      omega
end Go.Proofs.Ytglcliokhlafoaa
