/-
  No cell of these rows narrows 'for every input' (looked for: loops, veiled, ifaces, maps, wideKeys, modest, calm, conditions, laid).
  DERIVED. THE GIVEN ROWS OF THIS SEAT. 2 by the template 'for every input the law returns true; each argument reads behind the call as it read before'; 0 by the template 'total and deterministic' (their statements: YtlcdpmjdnihocaaGreatTotals.lean).
  GIVEN WITH THE SEED: the statements are not yours to turn. If you find one false, say at which input.
  Laid BY PROGRAM, IN A SANDBOX (cutbox-rows.mjs): the forced cells as the released guide's own fill.sh prints them over the translation bbd7380f94b03b87… (all of the seat's roots in one cut). By AI agents, Wed Nov 11 2026. No macro, syntax, notation, axiom, sorry.
-/
import Derived.Test.YtlcdpmjdnihocaaGreatChecked
import GoSem.Claim
import GoSem.ClaimJoined
import GoSem.ClaimMapViews
import Derived.JoinedTies
import Derived.KernelRfl
namespace Go.Proofs.YtlcdpmjdnihocaaGreat
/- THE CELL 'sum', in the pinned program and in every row, IS THE sha256 OF THE DUMP (.gsa) THAT YtlcdpmjdnihocaaGreatProg.lean LOADS. Nothing in Lean hashes anything: it is a label: what it is worth is what the hold of that sum in a sandbox is worth. -/
noncomputable def Tryz.pinned : Pinned := { name := "ytlcdpmjdnihocaagreat", sum := "bbd7380f94b03b87332002cc60690268759843c1dc3b34ac728d7d5daa31edd9", checked := Tryz.checked }
namespace Rows
def none {H : Type} : Left H := { results := [], args := [] }

/-- 'undercroftlaw23.MkfsCalls': WHATEVER THE INPUT: true; the input reads as it did. -/
def mkfsCallsSpec : ChangeSpec := { name := "mkfsCalls", fn := fun _ => fun
  | [d1, d2, d3] => { results := [.lit (.bool true)], args := [d1, d2, d3] }
  | _ => none }
def mkfsCallsRow : OpenClaim := { program := "ytlcdpmjdnihocaagreat", sum := "bbd7380f94b03b87332002cc60690268759843c1dc3b34ac728d7d5daa31edd9", func := "undercroft/undercroftlaw23.MkfsCalls", spec := "mkfsCalls", unfollowed := true, recurses := true, apart := false }
def MkfsCallsSaid : Prop := mkfsCallsRow.holds Tryz.pinned (OpenSpec.ofChange mkfsCallsSpec)

/-- ITS FALSE NEIGHBOUR: 'it returns false'. Refute it at one input. -/
def mkfsCallsWrong : ChangeSpec := { name := "mkfsCalls", fn := fun _ => fun
  | [d1, d2, d3] => { results := [.lit (.bool false)], args := [d1, d2, d3] }
  | _ => none }
def MkfsCallsWrongFalsely : Prop := mkfsCallsRow.holds Tryz.pinned (OpenSpec.ofChange mkfsCallsWrong)

/-- 'undercroftlaw23.MkfsFresh': WHATEVER THE INPUT: true; the input reads as it did. -/
def mkfsFreshSpec : ChangeSpec := { name := "mkfsFresh", fn := fun _ => fun
  | [d1, d2] => { results := [.lit (.bool true)], args := [d1, d2] }
  | _ => none }
def mkfsFreshRow : OpenClaim := { program := "ytlcdpmjdnihocaagreat", sum := "bbd7380f94b03b87332002cc60690268759843c1dc3b34ac728d7d5daa31edd9", func := "undercroft/undercroftlaw23.MkfsFresh", spec := "mkfsFresh", unfollowed := true, recurses := true, apart := false }
def MkfsFreshSaid : Prop := mkfsFreshRow.holds Tryz.pinned (OpenSpec.ofChange mkfsFreshSpec)

/-- ITS FALSE NEIGHBOUR: 'it returns false'. Refute it at one input. -/
def mkfsFreshWrong : ChangeSpec := { name := "mkfsFresh", fn := fun _ => fun
  | [d1, d2] => { results := [.lit (.bool false)], args := [d1, d2] }
  | _ => none }
def MkfsFreshWrongFalsely : Prop := mkfsFreshRow.holds Tryz.pinned (OpenSpec.ofChange mkfsFreshWrong)

/- THE SECOND FORM. 'bulk': how many values and letters a reading holds, each counted each time it is reached (what is shared counts as often as it is met; a slice's spare places count too). A statement '..UptoSaid' is the law's where the arguments, and the package variables that the reading takes, are together of bulk at most 1048576: NARROWER than '..Said'. Prove '..Said' where nothing that the law and all that it calls make is longer than what came in: it says more and counts as full. Else prove '..UptoSaid'. A law counts once. -/
mutual
def uptoBulk {H : Type} : DataW H → Nat
  | .lit (.string bytes) => bytes.length + 1
  | .lit _ => 1
  | .nil => 1
  | .ptr d => uptoBulk d + 1
  | .slice elems spare => uptoBulkAll elems + uptoBulkAll spare + 1
  | .agg parts => uptoBulkAll parts + 1
  | .iface _ d => uptoBulk d + 1
  | .map entries => uptoBulkEntries entries + 1
  | .held _ => 1
def uptoBulkAll {H : Type} : List (DataW H) → Nat
  | [] => 0
  | d :: r => uptoBulk d + uptoBulkAll r
def uptoBulkEntries {H : Type} : List (Lit × DataW H) → Nat
  | [] => 0
  | x :: r => uptoBulkEntry x + uptoBulkEntries r
def uptoBulkEntry {H : Type} : Lit × DataW H → Nat
  | (.string bytes, d) => bytes.length + uptoBulk d + 1
  | (_, d) => uptoBulk d + 1
 end
def uptoSmall : (H : Type) → List (DataW H) → Bool := fun _ ds => decide (uptoBulkAll ds ≤ 1048576)
def OpenSpec.upto (s : _root_.Go.ChangeSpec) : _root_.Go.OpenSpec := { _root_.Go.OpenSpec.ofChange s with cond := some uptoSmall }

/-- 'undercroftlaw23.MkfsCalls', WHERE WHAT IT READS IS OF BULK AT MOST 1048576: true; the input reads as it did. -/
def mkfsCallsUptoRow : OpenClaim := { program := "ytlcdpmjdnihocaagreat", sum := "bbd7380f94b03b87332002cc60690268759843c1dc3b34ac728d7d5daa31edd9", func := "undercroft/undercroftlaw23.MkfsCalls", spec := "mkfsCalls", unfollowed := true, recurses := true, apart := false, narrowed := true }
def MkfsCallsUptoSaid : Prop := mkfsCallsUptoRow.holds Tryz.pinned (OpenSpec.upto mkfsCallsSpec)

/-- 'undercroftlaw23.MkfsFresh', WHERE WHAT IT READS IS OF BULK AT MOST 1048576: true; the input reads as it did. -/
def mkfsFreshUptoRow : OpenClaim := { program := "ytlcdpmjdnihocaagreat", sum := "bbd7380f94b03b87332002cc60690268759843c1dc3b34ac728d7d5daa31edd9", func := "undercroft/undercroftlaw23.MkfsFresh", spec := "mkfsFresh", unfollowed := true, recurses := true, apart := false, narrowed := true }
def MkfsFreshUptoSaid : Prop := mkfsFreshUptoRow.holds Tryz.pinned (OpenSpec.upto mkfsFreshSpec)

end Rows
end Go.Proofs.YtlcdpmjdnihocaaGreat
