/- Encode of head and of the document: the same, of every layout and every list of targets. -/
import Derived.Test.YtgkhheblmknedaaRefEnc
namespace Go.Proofs.Ytgkhheblmknedaa
open Go.RowKit
def encB (b l i a c d e f g : Int) (ts : List Int) : Nat → Int := if standsB b l i a c d e f g = true ∧ mayB (1 + l) b (l - 1) ts = true then headF ts else nought
def encN (b l i a c d e f g : Int) (ts : List Int) : Int := if standsB b l i a c d e f g = true then (if mayB (1 + l) b (l - 1) ts = true then 0 else 4) else 2
theorem stands_is {b l i a c d e f g : Int} (h : standsB b l i a c d e f g = true) : Fine b l i ∧ c = 1 + l := by
  have := of_decide_eq_true h
  exact ⟨this.1, this.2.2.1⟩
theorem enc_any (b l i a c d e f g : Int) (ts : List Int) (p : Option Addr) (cap : Nat) (w : World) (hb : I64 b) (hlen : ts.length < 9223372036854775807) (hts : IntsAt w p ts) (hwf : WfI ts) :
    Calls Try.prog 11 #[.agg (lay9 b l i a c d e f g), .agg #[.slice p ts.length cap]] w fun e' w' => e' = .returned (.tuple #[.agg (blk (encB b l i a c d e f g ts)), .int .i64 (encN b l i a c d e f g ts)]) ∧ Below w.heap.size w w' := by
  unfold encB encN
  by_cases hs : standsB b l i a c d e f g = true
  · obtain ⟨hf, rfl⟩ := stands_is hs
    by_cases hm : mayB (1 + l) b (l - 1) ts = true
    · rw [if_pos ⟨hs, hm⟩, if_pos hs, if_pos hm]
      have hP : MayP (1 + l) b (l - 1) ts := of_decide_eq_true hm
      have h1 := hf.1; have h2 := hf.2.1; have h5 := hf.2.2.2.2.1
      exact enc_ok b l i a (1 + l) d e f g ts p cap w hb hs ⟨h1, h2⟩ hts (hP.u (by omega) (by omega)) (by have := hP.1; omega) hm
    · rw [if_neg (fun q => hm q.2), if_pos hs, if_neg hm]
      exact enc_bad b l i a (1 + l) d e f g ts p cap w hb hs ⟨hf.1, hf.2.1⟩ hlen hts hwf (by simpa using hm)
  · rw [if_neg (fun q => hs q.1), if_neg hs]
    exact enc_not b l i a c d e f g _ w hb (by simpa using hs)
theorem refEnc_any (b l i a c d e f g : Int) (ts : List Int) (p : Option Addr) (cap : Nat) (w : World) (hlen : ts.length < 9223372036854775807) (hts : IntsAt w p ts) :
    Calls Try.prog 10 #[.agg (lay9 b l i a c d e f g), .agg #[.slice p ts.length cap]] w fun e' w' => e' = .returned (.tuple #[.agg (blk (encB b l i a c d e f g ts)), .int .i64 (encN b l i a c d e f g ts)]) ∧ Below w.heap.size w w' := by
  unfold encB encN
  by_cases hs : standsB b l i a c d e f g = true
  · obtain ⟨hf, rfl⟩ := stands_is hs
    by_cases hm : mayB (1 + l) b (l - 1) ts = true
    · rw [if_pos ⟨hs, hm⟩, if_pos hs, if_pos hm]
      have hP : MayP (1 + l) b (l - 1) ts := of_decide_eq_true hm
      have h1 := hf.1; have h2 := hf.2.1; have h5 := hf.2.2.2.2.1
      exact refEnc_ok b l i a (1 + l) d e f g ts p cap w hs ⟨h1, h2⟩ hts (hP.u (by omega) (by omega)) (by have := hP.1; omega) hm
    · rw [if_neg (fun q => hm q.2), if_pos hs, if_neg hm]
      exact refEnc_bad b l i a (1 + l) d e f g ts p cap w hs ⟨hf.1, hf.2.1⟩ hlen hts (by simpa using hm)
  · rw [if_neg (fun q => hs q.1), if_neg hs]
    exact refEnc_not b l i a c d e f g _ w (by simpa using hs)
end Go.Proofs.Ytgkhheblmknedaa
