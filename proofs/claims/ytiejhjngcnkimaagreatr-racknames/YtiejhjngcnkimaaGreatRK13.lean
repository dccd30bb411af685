/- Read of a log that lives; no condition but that numbers do not pass their greatest. -/
import Derived.Test.YtiejhjngcnkimaaGreatRK12
namespace Go.Proofs.YtiejhjngcnkimaaGreatRW
open Go.RowKit Go.Maps
variable {w W : World} {g d c mb : Nat} {v : Value} {x : LSt} {s : CSt} {t : St} {os ks : List (Nat × Obj)} {base : Nat} {book : Int → Nat → Int}
theorem LS.beside {W' : World} {q : Nat} {o : Obj} (h : LS w W g d c mb v x s t os ((q, o) :: ks)) (hf : Fr (fun k => k = q) W W') (hq : w.heap.size ≤ q) (hks : ∀ p ∈ ks, p.1 ≠ q) : LogSit w W' g d x s t ks := by
  have hne : ∀ k, LHas g mb v k → k ≠ q := fun k hk e => h.ap (q, o) (List.mem_cons_self ..) (by rw [← e]; exact hk)
  have hk : ∀ k, LHas g mb v k → W'.heap[k]? = W.heap[k]? := fun k hk => hf.block k (h.log.lt k hk) (hne k hk)
  refine ⟨c, mb, v, os.filter (fun p => decide (p.1 ≠ q)), h.sit.turn hf (fun k e => by subst e; exact ⟨hq, o, List.mem_append.2 (.inr (List.mem_cons_self ..))⟩) fun p hp => ?_, h.log.kept hk, fun k hk2 => ?_, fun p hp => h.ap p (List.mem_cons_of_mem _ hp)⟩
  · rcases List.mem_append.1 hp with hp | hp
    · obtain ⟨hp1, hp2⟩ := List.mem_filter.1 hp
      have hp3 : p.1 ≠ q := by simpa using hp2
      have hb := h.sit.blk (List.mem_append.2 (.inl hp1) : (p.1, p.2) ∈ os ++ (q, o) :: ks)
      exact ⟨(hf.block p.1 (Array.getElem?_eq_some_iff.1 hb).1 hp3).trans hb, .inl ⟨p.2, List.mem_append.2 (.inl hp1)⟩⟩
    · have hb := h.sit.blk (List.mem_append.2 (.inr (List.mem_cons_of_mem _ hp)) : (p.1, p.2) ∈ os ++ (q, o) :: ks)
      exact ⟨(hf.block p.1 (Array.getElem?_eq_some_iff.1 hb).1 (hks p hp)).trans hb, .inl ⟨p.2, List.mem_append.2 (.inr (List.mem_cons_of_mem _ hp))⟩⟩
  · obtain ⟨h1, o2, ho2⟩ := h.own k hk2
    exact ⟨h1, o2, List.mem_filter.2 ⟨ho2, by simpa using hne k hk2⟩⟩
theorem LS.ksLt (h : LS w W g d c mb v x s t os ks) : ∀ p ∈ ks, p.1 ≠ W.heap.size := fun p hp e => by
  have := (Array.getElem?_eq_some_iff.1 (h.sit.blk (List.mem_append.2 (.inr hp) : (p.1, p.2) ∈ os ++ ks))).1
  omega
def RdPost (w : World) (g d : Nat) (x : LSt) (t : St) (book : Int → Nat → Int) (ks : List (Nat × Obj)) (F : Nat → Int) (e : Ending) (W' : World) : Prop :=
  e = .returned (.tuple #[.agg (blk F), .int .i64 0]) ∧ ∃ t', (t' = t ∨ t' = readS t) ∧ LogI w W' g d x t' book ks
set_option maxRecDepth 20000 in
set_option maxHeartbeats 1600000 in
theorem LogI.read (h : LogI w W g d x t book ks) (hc : chkE x t = 0) {k : Int} (hk : Dat x.b x.l k) (hs : t.stopped = false) (hr : Room t) : Calls Tryz.prog 99 #[ptr g, .int .i64 k] W (RdPost w g d x t book ks (book k)) := by
  obtain ⟨s, ⟨c, mb, v, os, h⟩, hI⟩ := h
  have hksz := h.ksLt
  have hbase := h.sit.below.size
  have hA := h.add (.cells (blk nought) 85)
  have hu := hI.used hs hk
  have hck : Calls Tryz.prog 45 #[ptr g] (W.alloc (.cells (blk nought) 85)) fun e W' => e = .returned (.int .i64 0) ∧ W'.cell? ⟨g, 3, none⟩ = some (.int .i64 x.b) ∧ W'.cell? ⟨g, 12, none⟩ = some (.pointer (some ⟨c, 0, none⟩)) ∧ Calls Tryz.prog 147 #[ptr g, .int .i64 k] W' (fun e W'' => e = .returned (.bool false) ∧ W'' = W') ∧ Hid (Calls Tryz.prog 148 #[ptr c, .int .i64 k] W' fun e W'' => e = .returned (.tuple #[.agg (blk (book k)), .int .i64 0]) ∧ W''.heap[W.heap.size]? = some (.cells (blk nought) 85) ∧ Hid (RdPost w g d x t book ks (book k) (.returned (.tuple #[.agg (blk (book k)), .int .i64 0])) (W''.setRow W.heap.size (blk (book k))))) := by
    refine hA.check.mono ?_
    rintro e W' ⟨rfl, m, rfl⟩
    have hB := hA.later (below_drewN _ m)
    have ho : ofL x k = false := by unfold ofL; exact decide_eq_false fun q => hk.2 q
    have ho2 := hB.ofLog k
    rw [ho] at ho2
    refine ⟨by rw [hc], hB.log.c3, hB.log.c12, ho2, ?_⟩
    refine (hB.cread hr k).mono ?_
    rintro e W2 ⟨rfl, h2⟩
    obtain ⟨a1, a2, _, a4⟩ := hI.c.read hk hu h2.sit.ok.1
    refine ⟨by rw [hI.c.reads hk hu, hu], h2.sit.blk (List.mem_append.2 (.inr (List.mem_cons_self ..))), rfl, rdD s t k, a4, rdC s t k, h2.beside (Fr.setRow W2 W.heap.size _) hbase hksz, ?_⟩
    exact ⟨hI.fine, a1, hI.nd, hI.rng, by rw [a2]; exact hI.fast, hI.last, hI.len, hI.steps, hI.commits, hI.room, hI.more⟩
  have hk1 : ¬ k < 0 := by have := hk.1; omega
  have hk2 : ¬ x.b ≤ k := by have := hk.1; omega
  clear h hA hI hu hksz hbase
  unfold ptr at *
  generalize book k = F at *
  have z25 := zero25
  go_enter Tryz.func99, Tryz.ntmps99
  go_wp2_with (go_at_call 45; fail)
  refine hck.mono ?_
  rintro e W1 ⟨rfl, c3, c12, ofl, HR⟩
  clear hck
  go_wp2_with (first | (go_at_call 147; refine ofl.mono ?_; rintro e W2 ⟨rfl, rfl⟩) | (go_at_call 148; fail))
  refine HR.out.mono ?_
  rintro e W3 ⟨rfl, hg, HP⟩
  clear HR ofl c3 c12
  go_wp2_with (first | refine wpList_store25 rfl (.tmp 4) (.tmp 45) rfl W.heap.size F rfl rfl _ hg ?_)
  exact retBT rfl W.heap.size F rfl (setRow_heap _ _ _ _ _ _ hg) rfl HP.out
end Go.Proofs.YtiejhjngcnkimaaGreatRW
