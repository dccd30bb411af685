/- The cache of the document's examples; what the laws look at first; no condition. -/
import Derived.Test.YtencclpcebpgmaaSit
namespace Go.Proofs.Ytencclpcebpgmaa
open Go.RowKit Go.Maps
variable {w W : World} {c d : Nat} {s : CSt} {t : St} {ks : List (Nat × Obj)}

set_option maxRecDepth 20000 in
theorem ten_any (hB : Below w.heap.size w W) (hk : ∀ p ∈ ks, W.heap[p.1]? = some p.2) :
    Calls Try.prog 34 #[] W fun e W' => ∃ c d, e = .returned (.tuple #[ptr d, ptr c, .bool true]) ∧ Sit w W' c d (newC 2) (newV 10) ks := by
  have hn := sits_new (n := 10) (by decide) hB hk
  have HN : Hid (Calls Try.prog 38 _ _ _) := hn
  clear hn hB hk
  go_enter Try.func34, Try.ntmps34
  go_wp2_with (go_at_call 38; fail)
  refine HN.out.mono ?_
  rintro e W1 ⟨d, rfl, h1⟩
  have HC : Hid (Calls Try.prog 11 _ _ _) := sit_new h1 (n := 2) (by omega)
  clear HN h1
  go_wp2_with (go_at_call 11; fail)
  refine HC.out.mono ?_
  rintro e W2 ⟨c, rfl, h2⟩
  have H2 : Hid (Sit w W2 c d (newC 2) (newV 10) ks) := h2
  clear HC h2
  unfold ptr
  go_wp2
  go_ret3
  exact ⟨c, d, rfl, H2.out⟩
end Go.Proofs.Ytencclpcebpgmaa
