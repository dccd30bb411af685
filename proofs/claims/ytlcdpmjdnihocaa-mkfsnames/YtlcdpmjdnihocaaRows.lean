/-
  No cell of these rows narrows 'for every input' (looked for: loops, veiled, ifaces, maps, wideKeys, modest, calm, conditions, laid).
  DERIVED. THE GIVEN ROWS OF THIS SEAT. 3 by the template 'for every input the law returns true; each argument reads behind the call as it read before'; 0 by the template 'total and deterministic' (their statements: YtlcdpmjdnihocaaTotals.lean).
  GIVEN WITH THE SEED: the statements are not yours to turn. If you find one false, say at which input.
  Laid BY PROGRAM, IN A SANDBOX (cutbox-rows.mjs): the forced cells as the released guide's own fill.sh prints them over the translation f7c29313f26b5bdd… (all of the seat's roots in one cut). By AI agents, Wed Nov 11 2026. No macro, syntax, notation, axiom, sorry.
-/
import Derived.Test.YtlcdpmjdnihocaaChecked
import GoSem.Claim
import GoSem.ClaimJoined
import GoSem.ClaimMapViews
import Derived.JoinedTies
import Derived.KernelRfl
namespace Go.Proofs.Ytlcdpmjdnihocaa
/- THE CELL 'sum', in the pinned program and in every row, IS THE sha256 OF THE DUMP (.gsa) THAT YtlcdpmjdnihocaaProg.lean LOADS. Nothing in Lean hashes anything: it is a label: what it is worth is what the hold of that sum in a sandbox is worth. -/
noncomputable def Try.pinned : Pinned := { name := "ytlcdpmjdnihocaa", sum := "f7c29313f26b5bdddf2c56cb29851053d14ad9fdc9d19212310fa375409587f9", checked := Try.checked }
namespace Rows
def none {H : Type} : Left H := { results := [], args := [] }

/-- 'undercroftlaw23.MkfsMade': WHATEVER THE INPUT: true; the input reads as it did. -/
def mkfsMadeSpec : ChangeSpec := { name := "mkfsMade", fn := fun _ => fun
  | [d1, d2, d3] => { results := [.lit (.bool true)], args := [d1, d2, d3] }
  | _ => none }
def mkfsMadeRow : OpenClaim := { program := "ytlcdpmjdnihocaa", sum := "f7c29313f26b5bdddf2c56cb29851053d14ad9fdc9d19212310fa375409587f9", func := "undercroft/undercroftlaw23.MkfsMade", spec := "mkfsMade", unfollowed := true, recurses := true, apart := false }
def MkfsMadeSaid : Prop := mkfsMadeRow.holds Try.pinned (OpenSpec.ofChange mkfsMadeSpec)

/-- ITS FALSE NEIGHBOUR: 'it returns false'. Refute it at one input. -/
def mkfsMadeWrong : ChangeSpec := { name := "mkfsMade", fn := fun _ => fun
  | [d1, d2, d3] => { results := [.lit (.bool false)], args := [d1, d2, d3] }
  | _ => none }
def MkfsMadeWrongFalsely : Prop := mkfsMadeRow.holds Try.pinned (OpenSpec.ofChange mkfsMadeWrong)

/-- 'undercroftlaw23.MkfsNames': WHATEVER THE INPUT: true; the input reads as it did. -/
def mkfsNamesSpec : ChangeSpec := { name := "mkfsNames", fn := fun _ => fun
  | [] => { results := [.lit (.bool true)], args := [] }
  | _ => none }
def mkfsNamesRow : OpenClaim := { program := "ytlcdpmjdnihocaa", sum := "f7c29313f26b5bdddf2c56cb29851053d14ad9fdc9d19212310fa375409587f9", func := "undercroft/undercroftlaw23.MkfsNames", spec := "mkfsNames", unfollowed := true, recurses := true, apart := false }
def MkfsNamesSaid : Prop := mkfsNamesRow.holds Try.pinned (OpenSpec.ofChange mkfsNamesSpec)

/-- ITS FALSE NEIGHBOUR: 'it returns false'. Refute it at one input. -/
def mkfsNamesWrong : ChangeSpec := { name := "mkfsNames", fn := fun _ => fun
  | [] => { results := [.lit (.bool false)], args := [] }
  | _ => none }
def MkfsNamesWrongFalsely : Prop := mkfsNamesRow.holds Try.pinned (OpenSpec.ofChange mkfsNamesWrong)

/-- 'undercroftlaw23.MkfsStays': WHATEVER THE INPUT: true; the input reads as it did. -/
def mkfsStaysSpec : ChangeSpec := { name := "mkfsStays", fn := fun _ => fun
  | [d1, d2] => { results := [.lit (.bool true)], args := [d1, d2] }
  | _ => none }
def mkfsStaysRow : OpenClaim := { program := "ytlcdpmjdnihocaa", sum := "f7c29313f26b5bdddf2c56cb29851053d14ad9fdc9d19212310fa375409587f9", func := "undercroft/undercroftlaw23.MkfsStays", spec := "mkfsStays", unfollowed := true, recurses := true, apart := false }
def MkfsStaysSaid : Prop := mkfsStaysRow.holds Try.pinned (OpenSpec.ofChange mkfsStaysSpec)

/-- ITS FALSE NEIGHBOUR: 'it returns false'. Refute it at one input. -/
def mkfsStaysWrong : ChangeSpec := { name := "mkfsStays", fn := fun _ => fun
  | [d1, d2] => { results := [.lit (.bool false)], args := [d1, d2] }
  | _ => none }
def MkfsStaysWrongFalsely : Prop := mkfsStaysRow.holds Try.pinned (OpenSpec.ofChange mkfsStaysWrong)

/- THE SECOND FORM. 'bulk': how many values and letters a reading holds, each counted each time it is reached (what is shared counts as often as it is met; a slice's spare places count too). A statement '..UptoSaid' is the law's where the arguments, and the package variables that the reading takes, are together of bulk at most 1048576: NARROWER than '..Said'. Prove '..Said' where nothing that the law and all that it calls make is longer than what came in: it says more and counts as full. Else prove '..UptoSaid'. A law counts once. -/
mutual
def uptoBulk {H : Type} : DataW H → Nat
  | .lit (.string bytes) => bytes.length + 1
  | .lit _ => 1
  | .nil => 1
  | .ptr d => uptoBulk d + 1
  | .slice elems spare => uptoBulkAll elems + uptoBulkAll spare + 1
  | .agg parts => uptoBulkAll parts + 1
  | .iface _ d => uptoBulk d + 1
  | .map entries => uptoBulkEntries entries + 1
  | .held _ => 1
def uptoBulkAll {H : Type} : List (DataW H) → Nat
  | [] => 0
  | d :: r => uptoBulk d + uptoBulkAll r
def uptoBulkEntries {H : Type} : List (Lit × DataW H) → Nat
  | [] => 0
  | x :: r => uptoBulkEntry x + uptoBulkEntries r
def uptoBulkEntry {H : Type} : Lit × DataW H → Nat
  | (.string bytes, d) => bytes.length + uptoBulk d + 1
  | (_, d) => uptoBulk d + 1
 end
def uptoSmall : (H : Type) → List (DataW H) → Bool := fun _ ds => decide (uptoBulkAll ds ≤ 1048576)
def OpenSpec.upto (s : _root_.Go.ChangeSpec) : _root_.Go.OpenSpec := { _root_.Go.OpenSpec.ofChange s with cond := some uptoSmall }

/-- 'undercroftlaw23.MkfsMade', WHERE WHAT IT READS IS OF BULK AT MOST 1048576: true; the input reads as it did. -/
def mkfsMadeUptoRow : OpenClaim := { program := "ytlcdpmjdnihocaa", sum := "f7c29313f26b5bdddf2c56cb29851053d14ad9fdc9d19212310fa375409587f9", func := "undercroft/undercroftlaw23.MkfsMade", spec := "mkfsMade", unfollowed := true, recurses := true, apart := false, narrowed := true }
def MkfsMadeUptoSaid : Prop := mkfsMadeUptoRow.holds Try.pinned (OpenSpec.upto mkfsMadeSpec)

/-- 'undercroftlaw23.MkfsNames', WHERE WHAT IT READS IS OF BULK AT MOST 1048576: true; the input reads as it did. -/
def mkfsNamesUptoRow : OpenClaim := { program := "ytlcdpmjdnihocaa", sum := "f7c29313f26b5bdddf2c56cb29851053d14ad9fdc9d19212310fa375409587f9", func := "undercroft/undercroftlaw23.MkfsNames", spec := "mkfsNames", unfollowed := true, recurses := true, apart := false, narrowed := true }
def MkfsNamesUptoSaid : Prop := mkfsNamesUptoRow.holds Try.pinned (OpenSpec.upto mkfsNamesSpec)

/-- 'undercroftlaw23.MkfsStays', WHERE WHAT IT READS IS OF BULK AT MOST 1048576: true; the input reads as it did. -/
def mkfsStaysUptoRow : OpenClaim := { program := "ytlcdpmjdnihocaa", sum := "f7c29313f26b5bdddf2c56cb29851053d14ad9fdc9d19212310fa375409587f9", func := "undercroft/undercroftlaw23.MkfsStays", spec := "mkfsStays", unfollowed := true, recurses := true, apart := false, narrowed := true }
def MkfsStaysUptoSaid : Prop := mkfsStaysUptoRow.holds Try.pinned (OpenSpec.upto mkfsStaysSpec)

end Rows
end Go.Proofs.Ytlcdpmjdnihocaa
