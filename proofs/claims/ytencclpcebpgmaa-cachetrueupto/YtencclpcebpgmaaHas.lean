/- A disk with whatever stays beside it while the disk alone turns: each call in one form; no condition but that numbers do not pass their greatest. -/
import Derived.Test.YtencclpcebpgmaaAwake
namespace Go.Proofs.Ytencclpcebpgmaa
open Go.RowKit

/-- P stays while nothing turns but the disk's own blocks and new ones. -/
def Stays (P : World → Loc → Prop) : Prop := ∀ W W' L L', (∀ k, L.has k → k < W.heap.size) → P W L → Goes W W' L L' → P W' L'
/-- The disk at d stands for s, and P. -/
def Has (P : World → Loc → Prop) (W : World) (d : Nat) (s : St) : Prop := ∃ L : Loc, L.d = d ∧ DiskAt W L s ∧ P W L
variable {P : World → Loc → Prop} {W : World} {d : Nat} {s : St}
theorem Has.ok (h : Has P W d s) : Ok s := by
  obtain ⟨L, _, hD, _⟩ := h
  exact hD.ok
theorem Has.later (hP : Stays P) {W' : World} (h : Has P W d s) (hb : Below W.heap.size W W') : Has P W' d s := by
  obtain ⟨L, hd, hD, hp⟩ := h
  exact ⟨L, hd, hD.later hb, hP W W' L L hD.lt hp (Goes.ofBelow L hb)⟩
theorem Has.goes (hP : Stays P) {W' : World} {L L' : Loc} {s' : St} (hd : L.d = d) (hD : DiskAt W L s) (hp : P W L) (hD' : DiskAt W' L' s') (hG : Goes W W' L L') : Has P W' d s' := ⟨L', hG.d.trans hd, hD', hP W W' L L' hD.lt hp hG⟩
theorem has_stopped (h : Has P W d s) : Calls Try.prog 17 #[.pointer (some ⟨d, 0, none⟩)] W fun e W' => e = .returned (.bool s.stopped) ∧ W' = W := by
  obtain ⟨L, rfl, hD, _⟩ := h
  exact stopped_of hD
theorem has_made (h : Has P W d s) : Calls Try.prog 16 #[.pointer (some ⟨d, 0, none⟩)] W fun e W' => e = .returned (.int .i64 s.made) ∧ W' = W := by
  obtain ⟨L, rfl, hD, _⟩ := h
  exact made_of hD
theorem has_fuse (hP : Stays P) (h : Has P W d s) (n : Int) (hn : n ≤ 9223372036854775807) : Calls Try.prog 20 #[.pointer (some ⟨d, 0, none⟩), .int .i64 n] W fun e W' => e = .returned (.tuple #[]) ∧ Has P W' d (fuseV s n) := by
  obtain ⟨L, rfl, hD, hp⟩ := h
  exact (fuse_of hD n hn).mono fun e W' ⟨h1, h2, h3⟩ => ⟨h1, Has.goes hP rfl hD hp h2 h3⟩
theorem has_read (hP : Stays P) (h : Has P W d s) (hr : Room s) (k : Int) :
    Calls Try.prog 37 #[.pointer (some ⟨d, 0, none⟩), .int .i64 k] W fun e W' => e = .returned (.tuple #[.agg (blk (readB s k)), .int .i64 (refV s k)]) ∧ Has P W' d (readV s k) := by
  obtain ⟨L, rfl, hD, hp⟩ := h
  unfold readB readV
  by_cases hb : refV s k = 0
  · rw [if_pos hb, if_pos hb, hb]
    exact (read_ok hD hr hb).mono fun e W' ⟨h1, h2, h3⟩ => ⟨h1, Has.goes hP rfl hD hp h2 h3⟩
  · rw [if_neg hb, if_neg hb]
    exact (read_bad hD hb).mono fun e W' ⟨h1, h2⟩ => ⟨h1, Has.goes hP rfl hD hp (hD.later h2) (Goes.ofBelow L h2)⟩
theorem has_write (hP : Stays P) (h : Has P W d s) (hr : Room s) (k : Int) {f : Nat → Int} (hf : Can f) :
    Calls Try.prog 42 #[.pointer (some ⟨d, 0, none⟩), .int .i64 k, .agg (blk f)] W fun e W' => e = .returned (.int .i64 (writeE s k)) ∧ Has P W' d (writeV s k f) := by
  obtain ⟨L, rfl, hD, hp⟩ := h
  unfold writeE writeV
  by_cases hb : refV s k = 0
  · rw [if_pos hb, if_pos hb]
    cases hl : lets s
    · exact (write_dead hD hr hb hl f).mono fun e W' ⟨h1, h2, h3⟩ => ⟨h1, Has.goes hP rfl hD hp h2 h3⟩
    · exact (write_ok hD hr hb hl hf).mono fun e W' ⟨h1, L', h2, h3⟩ => ⟨h1, Has.goes hP rfl hD hp h2 h3⟩
  · rw [if_neg hb, if_neg hb]
    exact (write_bad hD hb f).mono fun e W' ⟨h1, h2⟩ => ⟨h1, Has.goes hP rfl hD hp (hD.later h2) (Goes.ofBelow L h2)⟩
theorem has_barrier (hP : Stays P) (h : Has P W d s) (hr : Room s) :
    Calls Try.prog 22 #[.pointer (some ⟨d, 0, none⟩)] W fun e W' => e = .returned (.int .i64 (barE s)) ∧ Has P W' d (barV s) := by
  obtain ⟨L, rfl, hD, hp⟩ := h
  unfold barE barV
  cases hs : s.stopped
  · cases hl : lets s
    · exact (barrier_dead hD hr hs hl).mono fun e W' ⟨h1, h2, h3⟩ => ⟨h1, Has.goes hP rfl hD hp h2 h3⟩
    · exact (barrier_ok hD hr hs hl).mono fun e W' ⟨h1, L', h2, h3⟩ => ⟨h1, Has.goes hP rfl hD hp h2 h3⟩
  · exact (barrier_stopped hD hs).mono fun e W' ⟨h1, h2⟩ => ⟨h1, by rw [h2]; exact ⟨L, rfl, hD, hp⟩⟩
theorem has_crash (hP : Stays P) (h : Has P W d s) {kv : Value} {kl : List Bool} (hkv : BoolsAt W kv kl) (hwl : s.wait.length < 68719476736) (hkl : kl.length < 9223372036854775807) :
    Calls Try.prog 32 #[.pointer (some ⟨d, 0, none⟩), kv] W fun e W' => e = .returned (.int .i64 0) ∧ Has P W' d (crashS s kl) := by
  obtain ⟨L, rfl, hD, hp⟩ := h
  exact (crash_of hD hkv hwl hkl).mono fun e W' ⟨h1, L', h2, h3⟩ => ⟨h1, Has.goes hP rfl hD hp h2 h3⟩
end Go.Proofs.Ytencclpcebpgmaa
