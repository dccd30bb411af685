/- The law's own function fresh: a log on a disk of noughts; for every geometry that may be. -/
import Derived.Test.YtglcliokhlafoaaLives
namespace Go.Proofs.Ytglcliokhlafoaa
open Go.RowKit Go.Maps
theorem ret4 {fn : Func} {p q r u : Tmp} {ty : TypeId} {R : Ending → World → Prop} {a : Act} {w : World} (h : fn.results = #[.tmp p, .tmp q, .cell r ty, .tmp u]) (g : Nat) (cs : Array Value)
    (hp : a.tmps.getD r undef = .pointer (some ⟨g, 0, none⟩)) (hl : (loadVar ty ⟨g, 0, none⟩).run Try.prog w = .ok (.agg cs) w)
    (hdf : a.defers = []) (hR : R (.returned (.tuple #[a.tmps.getD p undef, a.tmps.getD q undef, .agg cs, a.tmps.getD u undef])) w) : bodyPost Try.prog fn R .ret a w := by
  refine bodyPost_ret ?_ hdf hR
  generalize a.tmps = T at *
  simp only [Array.getD_eq_getD_getElem?] at hp
  simp [results, h, hp, asAddr, hl]
theorem exec_storeL {a : Act} {o : Oper} {u : World} {x y : Operand} (ho : o.op = .store 30 x y) (g : Nat) (cs c0 : Array Value) (hs : cs.size = 9) (hs0 : c0.size = 9) (h1 : cs.all (·.oneCell') = true) (hx : a.eval x = .pointer (some ⟨g, 0, none⟩)) (hy : a.eval y = .agg cs) (hg : u.heap[g]? = some (.cells c0 30)) :
    (execOp a.eval o).run Try.prog u = .ok .skip (u.setRow g cs) := by
  have hz : (Try.prog.info? 30).map (·.size) = some cs.size := by rw [hs]; exact H.size25L
  unfold execOp
  simp only [ho, hx, hy, Instr.storeAt, Instr.sureAddr, Sem.run_bind, Sem.run_pure, Result.andThen_ok, run_storeVar_row u g 30 30 c0 cs hg hz (by rw [hs, hs0]) h1]
theorem newV_ops (n : Int) : (newV n).ops = [] := rfl
theorem rm_new (n : Int) : Rm (newV n) 3 := by
  refine ⟨?_, ?_, ?_, ?_⟩
  · rw [newV_ops]; decide
  · show (0 : Int) + 3 < _; omega
  · show (0 : Int) + 3 < _; omega
  · show (0 : Int) + 3 < _; omega
theorem layA_one (b l i : Int) : (layA b l i).all (·.oneCell') = true := H.lay_one _ _ _ _ _ _ _ _ _
/-- A block beside is written, and let go. -/
theorem LS.outside {w W W' : World} {g d c mb : Nat} {v : Value} {x : LSt} {s : CSt} {t : St} {os ks : List (Nat × Obj)} {q : Nat} (h : LS w W g d c mb v x s t os ks) (hf : Fr (fun k => k = q) W W') (hq : w.heap.size ≤ q) (hm : ∃ o, (q, o) ∈ ks) : LogSit w W' g d x s t [] := by
  obtain ⟨o, ho⟩ := hm
  have hne : ∀ k, LHas g mb v k → k ≠ q := fun k hk e => h.ap _ ho (by rw [← e]; exact hk)
  have hk : ∀ k, LHas g mb v k → W'.heap[k]? = W.heap[k]? := fun k hk => hf.block k (h.log.lt k hk) (hne k hk)
  have hne2 : ∀ p ∈ os, LHas g mb v p.1 → W'.heap[p.1]? = some p.2 := fun p hp hl => by
    rw [hk p.1 hl]
    exact h.sit.blk (List.mem_append.2 (.inl hp))
  refine ⟨c, mb, v, os.filter (fun p => decide (p.1 ≠ q)), h.sit.turn hf (fun k e => by subst e; exact ⟨hq, o, List.mem_append.2 (.inr ho)⟩) fun p hp => ?_, h.log.kept hk, fun k hk2 => ?_, fun p hp => by simp at hp⟩
  · rw [List.append_nil] at hp
    obtain ⟨hp1, hp2⟩ := List.mem_filter.1 hp
    have hp3 : p.1 ≠ q := by simpa using hp2
    have hb := h.sit.blk (List.mem_append.2 (.inl hp1) : (p.1, p.2) ∈ os ++ ks)
    exact ⟨(hf.block p.1 (Array.getElem?_eq_some_iff.1 hb).1 hp3).trans hb, .inl ⟨p.2, List.mem_append.2 (.inl hp1)⟩⟩
  · obtain ⟨h1, o2, ho2⟩ := h.own k hk2
    exact ⟨h1, o2, List.mem_filter.2 ⟨ho2, by simpa using hne k hk2⟩⟩
/-- The disk that a fresh log stands on. -/
def freshT (b : Int) : St := claimV (readS (newV b))
end Go.Proofs.Ytglcliokhlafoaa
