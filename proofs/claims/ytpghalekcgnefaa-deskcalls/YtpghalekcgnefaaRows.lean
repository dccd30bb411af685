/-
  No cell of these rows narrows 'for every input' (looked for: loops, veiled, ifaces, maps, wideKeys, modest, calm, conditions, laid).
  DERIVED. THE GIVEN ROWS OF THIS SEAT. 4 by the template 'for every input the law returns true; each argument reads behind the call as it read before'; 0 by the template 'total and deterministic' (their statements: YtpghalekcgnefaaTotals.lean).
  GIVEN WITH THE SEED: the statements are not yours to turn. If you find one false, say at which input.
  Laid BY PROGRAM, IN A SANDBOX (cutbox-rows.mjs): the forced cells as the released guide's own fill.sh prints them over the translation 4130641ef64970e3… (all of the seat's roots in one cut). By AI agents, Wed Nov 11 2026. No macro, syntax, notation, axiom, sorry.
-/
import Derived.Test.YtpghalekcgnefaaChecked
import GoSem.Claim
import GoSem.ClaimJoined
import GoSem.ClaimMapViews
import Derived.JoinedTies
import Derived.KernelRfl
namespace Go.Proofs.Ytpghalekcgnefaa
/- THE CELL 'sum', in the pinned program and in every row, IS THE sha256 OF THE DUMP (.gsa) THAT YtpghalekcgnefaaProg.lean LOADS. Nothing in Lean hashes anything: it is a label: what it is worth is what the hold of that sum in a sandbox is worth. -/
noncomputable def Try.pinned : Pinned := { name := "ytpghalekcgnefaa", sum := "4130641ef64970e3456dfbb86bf1b3c4bc8b5bfe1fe91a78d495d88889bd6295", checked := Try.checked }
namespace Rows
def none {H : Type} : Left H := { results := [], args := [] }

/-- 'undercroftlaw17.DeskCalls': WHATEVER THE INPUT: true; the input reads as it did. -/
def deskCallsSpec : ChangeSpec := { name := "deskCalls", fn := fun _ => fun
  | [d1, d2, d3] => { results := [.lit (.bool true)], args := [d1, d2, d3] }
  | _ => none }
def deskCallsRow : OpenClaim := { program := "ytpghalekcgnefaa", sum := "4130641ef64970e3456dfbb86bf1b3c4bc8b5bfe1fe91a78d495d88889bd6295", func := "undercroft/undercroftlaw17.DeskCalls", spec := "deskCalls", unfollowed := true, recurses := true, apart := false }
def DeskCallsSaid : Prop := deskCallsRow.holds Try.pinned (OpenSpec.ofChange deskCallsSpec)

/-- ITS FALSE NEIGHBOUR: 'it returns false'. Refute it at one input. -/
def deskCallsWrong : ChangeSpec := { name := "deskCalls", fn := fun _ => fun
  | [d1, d2, d3] => { results := [.lit (.bool false)], args := [d1, d2, d3] }
  | _ => none }
def DeskCallsWrongFalsely : Prop := deskCallsRow.holds Try.pinned (OpenSpec.ofChange deskCallsWrong)

/-- 'undercroftlaw17.DeskCounts': WHATEVER THE INPUT: true; the input reads as it did. -/
def deskCountsSpec : ChangeSpec := { name := "deskCounts", fn := fun _ => fun
  | [d1, d2] => { results := [.lit (.bool true)], args := [d1, d2] }
  | _ => none }
def deskCountsRow : OpenClaim := { program := "ytpghalekcgnefaa", sum := "4130641ef64970e3456dfbb86bf1b3c4bc8b5bfe1fe91a78d495d88889bd6295", func := "undercroft/undercroftlaw17.DeskCounts", spec := "deskCounts", apart := false }
def DeskCountsSaid : Prop := deskCountsRow.holds Try.pinned (OpenSpec.ofChange deskCountsSpec)

/-- ITS FALSE NEIGHBOUR: 'it returns false'. Refute it at one input. -/
def deskCountsWrong : ChangeSpec := { name := "deskCounts", fn := fun _ => fun
  | [d1, d2] => { results := [.lit (.bool false)], args := [d1, d2] }
  | _ => none }
def DeskCountsWrongFalsely : Prop := deskCountsRow.holds Try.pinned (OpenSpec.ofChange deskCountsWrong)

/-- 'undercroftlaw17.DeskNil': WHATEVER THE INPUT: true; the input reads as it did. -/
def deskNilSpec : ChangeSpec := { name := "deskNil", fn := fun _ => fun
  | [d] => { results := [.lit (.bool true)], args := [d] }
  | _ => none }
def deskNilRow : OpenClaim := { program := "ytpghalekcgnefaa", sum := "4130641ef64970e3456dfbb86bf1b3c4bc8b5bfe1fe91a78d495d88889bd6295", func := "undercroft/undercroftlaw17.DeskNil", spec := "deskNil", unfollowed := true, recurses := true, apart := false }
def DeskNilSaid : Prop := deskNilRow.holds Try.pinned (OpenSpec.ofChange deskNilSpec)

/-- ITS FALSE NEIGHBOUR: 'it returns false'. Refute it at one input. -/
def deskNilWrong : ChangeSpec := { name := "deskNil", fn := fun _ => fun
  | [d] => { results := [.lit (.bool false)], args := [d] }
  | _ => none }
def DeskNilWrongFalsely : Prop := deskNilRow.holds Try.pinned (OpenSpec.ofChange deskNilWrong)

/-- 'undercroftlaw17.DeskNames': WHATEVER THE INPUT: true; the input reads as it did. -/
def deskNamesSpec : ChangeSpec := { name := "deskNames", fn := fun _ => fun
  | [] => { results := [.lit (.bool true)], args := [] }
  | _ => none }
def deskNamesRow : OpenClaim := { program := "ytpghalekcgnefaa", sum := "4130641ef64970e3456dfbb86bf1b3c4bc8b5bfe1fe91a78d495d88889bd6295", func := "undercroft/undercroftlaw17.DeskNames", spec := "deskNames", unfollowed := true, recurses := true, apart := false }
def DeskNamesSaid : Prop := deskNamesRow.holds Try.pinned (OpenSpec.ofChange deskNamesSpec)

/-- ITS FALSE NEIGHBOUR: 'it returns false'. Refute it at one input. -/
def deskNamesWrong : ChangeSpec := { name := "deskNames", fn := fun _ => fun
  | [] => { results := [.lit (.bool false)], args := [] }
  | _ => none }
def DeskNamesWrongFalsely : Prop := deskNamesRow.holds Try.pinned (OpenSpec.ofChange deskNamesWrong)

/- THE SECOND FORM. 'bulk': how many values and letters a reading holds, each counted each time it is reached (what is shared counts as often as it is met; a slice's spare places count too). A statement '..UptoSaid' is the law's where the arguments, and the package variables that the reading takes, are together of bulk at most 1048576: NARROWER than '..Said'. Prove '..Said' where nothing that the law and all that it calls make is longer than what came in: it says more and counts as full. Else prove '..UptoSaid'. A law counts once. -/
mutual
def uptoBulk {H : Type} : DataW H → Nat
  | .lit (.string bytes) => bytes.length + 1
  | .lit _ => 1
  | .nil => 1
  | .ptr d => uptoBulk d + 1
  | .slice elems spare => uptoBulkAll elems + uptoBulkAll spare + 1
  | .agg parts => uptoBulkAll parts + 1
  | .iface _ d => uptoBulk d + 1
  | .map entries => uptoBulkEntries entries + 1
  | .held _ => 1
def uptoBulkAll {H : Type} : List (DataW H) → Nat
  | [] => 0
  | d :: r => uptoBulk d + uptoBulkAll r
def uptoBulkEntries {H : Type} : List (Lit × DataW H) → Nat
  | [] => 0
  | x :: r => uptoBulkEntry x + uptoBulkEntries r
def uptoBulkEntry {H : Type} : Lit × DataW H → Nat
  | (.string bytes, d) => bytes.length + uptoBulk d + 1
  | (_, d) => uptoBulk d + 1
 end
def uptoSmall : (H : Type) → List (DataW H) → Bool := fun _ ds => decide (uptoBulkAll ds ≤ 1048576)
def OpenSpec.upto (s : _root_.Go.ChangeSpec) : _root_.Go.OpenSpec := { _root_.Go.OpenSpec.ofChange s with cond := some uptoSmall }

/-- 'undercroftlaw17.DeskCalls', WHERE WHAT IT READS IS OF BULK AT MOST 1048576: true; the input reads as it did. -/
def deskCallsUptoRow : OpenClaim := { program := "ytpghalekcgnefaa", sum := "4130641ef64970e3456dfbb86bf1b3c4bc8b5bfe1fe91a78d495d88889bd6295", func := "undercroft/undercroftlaw17.DeskCalls", spec := "deskCalls", unfollowed := true, recurses := true, apart := false, narrowed := true }
def DeskCallsUptoSaid : Prop := deskCallsUptoRow.holds Try.pinned (OpenSpec.upto deskCallsSpec)

/-- 'undercroftlaw17.DeskCounts', WHERE WHAT IT READS IS OF BULK AT MOST 1048576: true; the input reads as it did. -/
def deskCountsUptoRow : OpenClaim := { program := "ytpghalekcgnefaa", sum := "4130641ef64970e3456dfbb86bf1b3c4bc8b5bfe1fe91a78d495d88889bd6295", func := "undercroft/undercroftlaw17.DeskCounts", spec := "deskCounts", apart := false, narrowed := true }
def DeskCountsUptoSaid : Prop := deskCountsUptoRow.holds Try.pinned (OpenSpec.upto deskCountsSpec)

/-- 'undercroftlaw17.DeskNil', WHERE WHAT IT READS IS OF BULK AT MOST 1048576: true; the input reads as it did. -/
def deskNilUptoRow : OpenClaim := { program := "ytpghalekcgnefaa", sum := "4130641ef64970e3456dfbb86bf1b3c4bc8b5bfe1fe91a78d495d88889bd6295", func := "undercroft/undercroftlaw17.DeskNil", spec := "deskNil", unfollowed := true, recurses := true, apart := false, narrowed := true }
def DeskNilUptoSaid : Prop := deskNilUptoRow.holds Try.pinned (OpenSpec.upto deskNilSpec)

/-- 'undercroftlaw17.DeskNames', WHERE WHAT IT READS IS OF BULK AT MOST 1048576: true; the input reads as it did. -/
def deskNamesUptoRow : OpenClaim := { program := "ytpghalekcgnefaa", sum := "4130641ef64970e3456dfbb86bf1b3c4bc8b5bfe1fe91a78d495d88889bd6295", func := "undercroft/undercroftlaw17.DeskNames", spec := "deskNames", unfollowed := true, recurses := true, apart := false, narrowed := true }
def DeskNamesUptoSaid : Prop := deskNamesUptoRow.holds Try.pinned (OpenSpec.upto deskNamesSpec)

end Rows
end Go.Proofs.Ytpghalekcgnefaa
