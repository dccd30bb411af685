/- What Block has told so far: a set and a list; its closure tells a block that was not told; no condition but a bound that no list of this program passes. -/
import Derived.Test.YtbnbbelkddbndaaKeys
namespace Go.Proofs.Ytbnbbelkddbndaa
open Go.RowKit Go.Maps
/-- An element that says nothing. -/
def unitElem (v : Value) : Option (DataW Value × List MemPlace) := match v with
  | .agg cs => if cs = #[] then some (.held (.agg #[]), []) else none
  | _ => none
theorem unit_inv {v : Value} {z : DataW Value × List MemPlace} (h : unitElem v = some z) : v = .agg #[] := by
  unfold unitElem at h
  split at h
  · split at h
    · rename_i e
      rw [e]
    · cases h
  · cases h
/-- Is a block among some? -/
def inB (l : List (Nat → Int)) (f : Nat → Int) : Bool := l.any fun g => sameB g f
/-- Told once more: behind the list, unless it stands there. -/
def tellL (l : List (Nat → Int)) (f : Nat → Int) : List (Nat → Int) := if inB l f then l else l ++ [f]
/-- The map at b has just the blocks l, with the number k. -/
def SeenAt (w : World) (b : Nat) (k : Int) (l : List (Nat → Int)) : Prop :=
  ∃ D, w.ownsMap Try.prog 44 unitElem b l.length D ∧ (∀ g ∈ l, Can g) ∧ ∀ f, Can f → ∀ kl, keyOf Try.prog 44 (.agg (celRow (k, f)).toArray) = some kl → has D kl = inB l f
variable {w w' : World} {b : Nat} {k : Int} {l : List (Nat → Int)}
theorem SeenAt.isMap (h : SeenAt w b k l) : ∃ es clock, w.heap[b]? = some (.map es clock) := by
  obtain ⟨D, ⟨es, clock, h1, _⟩, _⟩ := h
  exact ⟨es, clock, h1⟩
theorem SeenAt.kept (h : SeenAt w b k l) (hb : w'.heap[b]? = w.heap[b]?) : SeenAt w' b k l := by
  obtain ⟨D, ⟨es, clock, h1, h2⟩, h3⟩ := h
  exact ⟨D, ⟨es, clock, hb.trans h1, h2⟩, h3⟩
theorem SeenAt.ne (h : SeenAt w b k l) {i : Nat} {cs : Array Value} {t : TypeId} (hk : w.heap[i]? = some (.cells cs t)) : i ≠ b := fun e => by
  obtain ⟨es, ck, hm⟩ := h.isMap
  rw [e, hm] at hk
  cases hk
theorem seen_made (w : World) (k : Int) : SeenAt (w.alloc (.map #[] 0)) w.heap.size k [] :=
  ⟨.map [], World.ownsMap_made w Try.prog 44 unitElem, fun g h => by simp at h, fun _ _ _ _ => rfl⟩
theorem zero93 : ∀ w : World, (zeroValue 93).run Try.prog w = .ok (.agg #[]) w := fun w => by simp [go_sem]
theorem seen_look (h : SeenAt w b k l) {f : Nat → Int} (hf : Can f) (hk : (Lit.int .i64 k).wf = true) :
    (Instr.lookup 92 (.map (some b)) (.agg (celRow (k, f)).toArray) true).run Try.prog w = .ok (.tuple #[.agg #[], .bool (inB l f)]) w := by
  obtain ⟨D, hown, _, hin⟩ := h
  obtain ⟨kl, hkl⟩ := key44 (c := (k, f)) hf hk
  obtain ⟨v, ps, hrun, hR⟩ := hown.look_ok keyed44 Try.underlying92 (zero93 w) (zd := .held (.agg #[])) (zp := []) (by unfold unitElem; simp) hkl
  rw [hrun, hin f hf kl hkl, unit_inv hR]
theorem seen_put (h : SeenAt w b k l) {f : Nat → Int} (hf : Can f) (hk : (Lit.int .i64 k).wf = true) (hn : l.length < 68719476736) :
    ∃ w', (Instr.mapUpdate 92 (.map (some b)) (.agg (celRow (k, f)).toArray) (.agg #[])).run Try.prog w = .ok () w' ∧ SeenAt w' b k (l ++ [f]) ∧ w.grownBy w' (some b) := by
  obtain ⟨D, hown, hcan, hin⟩ := h
  obtain ⟨kl, hkl⟩ := key44 (c := (k, f)) hf hk
  have hnl : l.length < maxLen := by unfold maxLen; omega
  obtain ⟨w', hrun, h1, h2⟩ := hown.update keyed44 Try.underlying92 hnl hkl (d := .held (.agg #[])) (ps := []) (val := .agg #[]) (by unfold unitElem; simp)
  refine ⟨w', hrun, ⟨_, by rw [List.length_append, List.length_singleton]; exact h1, fun g hg => ?_, fun f' hf' kl' hkl' => ?_⟩, h2⟩
  · rcases List.mem_append.1 hg with q | q
    · exact hcan g q
    · have e : g = f := by simpa using q
      rw [e]
      exact hf
  · unfold inB
    rw [List.any_append]
    by_cases e : kl' = kl
    · subst e
      have ev := keyed44.inj hkl hkl'
      have ef : f = f' := by
        have ev2 := Value.agg.inj ev
        have ev' : celRow (k, f) = celRow (k, f') := congrArg Array.toList ev2
        have e3 : blk f = blk f' := by
          apply Array.toList_inj.1
          have := congrArg List.tail ev'
          simpa [celRow] using this
        refine hf.ext hf' fun i hi => ?_
        have q1 : (blk f)[i]? = (blk f')[i]? := congrArg (fun a : Array Value => a[i]?) e3
        have q2 := ((blk_get f i hi).symm.trans q1).trans (blk_get f' i hi)
        exact (Value.int.inj (Option.some.inj q2)).2
      subst ef
      rw [has_put_same hown.isMap (keyed44.key hkl)]
      simp [sameB_self]
    · rw [has_put_other e, hin f' hf' kl' hkl']
      have hne : sameB f f' = false := by
        cases q : sameB f f'
        · rfl
        · have ee := (hf.same hf').1 q
          subst ee
          exact absurd (Option.some.inj (hkl'.symm.trans hkl)) e
      simp [inB, hne]
/-- Blocks one behind the other, as cells. -/
def blkCells (l : List (Nat → Int)) : List Value := l.flatMap fun f => (blk f).toList
theorem blkCells_append (a b : List (Nat → Int)) : blkCells (a ++ b) = blkCells a ++ blkCells b := by simp [blkCells]
theorem blkCells_one (f : Nat → Int) : blkCells [f] = (blk f).toList := by simp [blkCells]
theorem blk_ones (f : Nat → Int) : ∀ v ∈ (blk f).toList, v.oneCell' = true := by
  have := blk_one f
  rw [Array.all_eq_true_iff_forall_mem] at this
  intro v hv
  exact this v (by simpa using hv)
/-- All that Block has told, in memory. -/
structure TellAt (B : Nat) (w : World) (ca cs cb sb : Nat) (k : Int) (l : List (Nat → Int)) : Prop where
  num : w.heap[ca]? = some (.cells #[.int .i64 k] 3)
  seen : w.heap[cs]? = some (.cells #[.map (some sb)] 92)
  set : SeenAt w sb k l
  list : ∃ v, w.heap[cb]? = some (.cells #[v] 52) ∧ w.ownsRow B 40 1024 v l.length (blkCells l)
  up : B ≤ cb ∧ B ≤ sb
theorem info40 : (Try.prog.info? 40).map (fun i => (i.zero, i.size, i.bytes)) = some (some (.agg (blk nought)), 1024, 1024) := by kernel_rfl
theorem row_ne {B g i : Nat} {n : Nat} {xs : List Value} {v : Value} (h : w.ownsRow B 40 1024 v n xs) (hg : v.ownBlock = some g) {cs : Array Value} {t : TypeId} (hi : w.heap[i]? = some (.cells cs t)) (ht : t ≠ 40) : i ≠ g := fun e => by
  rcases h.2 with ⟨h1, _⟩ | ⟨g', cap, cur, h1, _, h2, _⟩
  · rw [h1] at hg; cases hg
  · rw [h1] at hg
    have e' : g' = g := by injection hg
    subst e'
    rw [e, h2] at hi
    injection hi with hi
    injection hi with _ hi
    exact ht hi.symm
theorem row_map {B g b : Nat} {n : Nat} {xs : List Value} {v : Value} (h : w.ownsRow B 40 1024 v n xs) (hg : v.ownBlock = some g) (hm : SeenAt w b k l) : b ≠ g := fun e => by
  rcases h.2 with ⟨h1, _⟩ | ⟨g', cap, cur, h1, _, h2, _⟩
  · rw [h1] at hg; cases hg
  · rw [h1] at hg
    have e' : g' = g := by injection hg
    subst e'
    exact hm.ne h2 e.symm
end Go.Proofs.Ytbnbbelkddbndaa
