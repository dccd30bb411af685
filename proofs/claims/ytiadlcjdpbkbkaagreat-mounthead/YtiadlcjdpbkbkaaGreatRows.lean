/-
  No cell of these rows narrows 'for every input' (looked for: loops, veiled, ifaces, maps, wideKeys, modest, calm, conditions, laid).
  DERIVED. THE GIVEN ROWS OF THIS SEAT. 3 by the template 'for every input the law returns true; each argument reads behind the call as it read before'; 0 by the template 'total and deterministic' (their statements: YtiadlcjdpbkbkaaGreatTotals.lean).
  GIVEN WITH THE SEED: the statements are not yours to turn. If you find one false, say at which input.
  Laid BY PROGRAM, IN A SANDBOX (cutbox-rows.mjs): the forced cells as the released guide's own fill.sh prints them over the translation 9c23b0066500ffcb… (all of the seat's roots in one cut). By AI agents, Wed Nov 11 2026. No macro, syntax, notation, axiom, sorry.
-/
import Derived.Test.YtiadlcjdpbkbkaaGreatChecked
import GoSem.Claim
import GoSem.ClaimJoined
import GoSem.ClaimMapViews
import Derived.JoinedTies
import Derived.KernelRfl
namespace Go.Proofs.YtiadlcjdpbkbkaaGreat
/- THE CELL 'sum', in the pinned program and in every row, IS THE sha256 OF THE DUMP (.gsa) THAT YtiadlcjdpbkbkaaGreatProg.lean LOADS. Nothing in Lean hashes anything: it is a label: what it is worth is what the hold of that sum in a sandbox is worth. -/
noncomputable def Tryz.pinned : Pinned := { name := "ytiadlcjdpbkbkaagreat", sum := "9c23b0066500ffcb088ec626ecc3e325047f8708a5cc407a1bf7172f0b7678ca", checked := Tryz.checked }
namespace Rows
def none {H : Type} : Left H := { results := [], args := [] }

/-- 'undercroftlaw24.MountNames': WHATEVER THE INPUT: true; the input reads as it did. -/
def mountNamesSpec : ChangeSpec := { name := "mountNames", fn := fun _ => fun
  | [] => { results := [.lit (.bool true)], args := [] }
  | _ => none }
def mountNamesRow : OpenClaim := { program := "ytiadlcjdpbkbkaagreat", sum := "9c23b0066500ffcb088ec626ecc3e325047f8708a5cc407a1bf7172f0b7678ca", func := "undercroft/undercroftlaw24.MountNames", spec := "mountNames", unfollowed := true, recurses := true, apart := false }
def MountNamesSaid : Prop := mountNamesRow.holds Tryz.pinned (OpenSpec.ofChange mountNamesSpec)

/-- ITS FALSE NEIGHBOUR: 'it returns false'. Refute it at one input. -/
def mountNamesWrong : ChangeSpec := { name := "mountNames", fn := fun _ => fun
  | [] => { results := [.lit (.bool false)], args := [] }
  | _ => none }
def MountNamesWrongFalsely : Prop := mountNamesRow.holds Tryz.pinned (OpenSpec.ofChange mountNamesWrong)

/-- 'undercroftlaw24.MountHead': WHATEVER THE INPUT: true; the input reads as it did. -/
def mountHeadSpec : ChangeSpec := { name := "mountHead", fn := fun _ => fun
  | [] => { results := [.lit (.bool true)], args := [] }
  | _ => none }
def mountHeadRow : OpenClaim := { program := "ytiadlcjdpbkbkaagreat", sum := "9c23b0066500ffcb088ec626ecc3e325047f8708a5cc407a1bf7172f0b7678ca", func := "undercroft/undercroftlaw24.MountHead", spec := "mountHead", unfollowed := true, recurses := true, apart := false }
def MountHeadSaid : Prop := mountHeadRow.holds Tryz.pinned (OpenSpec.ofChange mountHeadSpec)

/-- ITS FALSE NEIGHBOUR: 'it returns false'. Refute it at one input. -/
def mountHeadWrong : ChangeSpec := { name := "mountHead", fn := fun _ => fun
  | [] => { results := [.lit (.bool false)], args := [] }
  | _ => none }
def MountHeadWrongFalsely : Prop := mountHeadRow.holds Tryz.pinned (OpenSpec.ofChange mountHeadWrong)

/-- 'undercroftlaw24.MountNil': WHATEVER THE INPUT: true; the input reads as it did. -/
def mountNilSpec : ChangeSpec := { name := "mountNil", fn := fun _ => fun
  | [] => { results := [.lit (.bool true)], args := [] }
  | _ => none }
def mountNilRow : OpenClaim := { program := "ytiadlcjdpbkbkaagreat", sum := "9c23b0066500ffcb088ec626ecc3e325047f8708a5cc407a1bf7172f0b7678ca", func := "undercroft/undercroftlaw24.MountNil", spec := "mountNil", unfollowed := true, recurses := true, apart := false }
def MountNilSaid : Prop := mountNilRow.holds Tryz.pinned (OpenSpec.ofChange mountNilSpec)

/-- ITS FALSE NEIGHBOUR: 'it returns false'. Refute it at one input. -/
def mountNilWrong : ChangeSpec := { name := "mountNil", fn := fun _ => fun
  | [] => { results := [.lit (.bool false)], args := [] }
  | _ => none }
def MountNilWrongFalsely : Prop := mountNilRow.holds Tryz.pinned (OpenSpec.ofChange mountNilWrong)

/- THE SECOND FORM. 'bulk': how many values and letters a reading holds, each counted each time it is reached (what is shared counts as often as it is met; a slice's spare places count too). A statement '..UptoSaid' is the law's where the arguments, and the package variables that the reading takes, are together of bulk at most 1048576: NARROWER than '..Said'. Prove '..Said' where nothing that the law and all that it calls make is longer than what came in: it says more and counts as full. Else prove '..UptoSaid'. A law counts once. -/
mutual
def uptoBulk {H : Type} : DataW H → Nat
  | .lit (.string bytes) => bytes.length + 1
  | .lit _ => 1
  | .nil => 1
  | .ptr d => uptoBulk d + 1
  | .slice elems spare => uptoBulkAll elems + uptoBulkAll spare + 1
  | .agg parts => uptoBulkAll parts + 1
  | .iface _ d => uptoBulk d + 1
  | .map entries => uptoBulkEntries entries + 1
  | .held _ => 1
def uptoBulkAll {H : Type} : List (DataW H) → Nat
  | [] => 0
  | d :: r => uptoBulk d + uptoBulkAll r
def uptoBulkEntries {H : Type} : List (Lit × DataW H) → Nat
  | [] => 0
  | x :: r => uptoBulkEntry x + uptoBulkEntries r
def uptoBulkEntry {H : Type} : Lit × DataW H → Nat
  | (.string bytes, d) => bytes.length + uptoBulk d + 1
  | (_, d) => uptoBulk d + 1
 end
def uptoSmall : (H : Type) → List (DataW H) → Bool := fun _ ds => decide (uptoBulkAll ds ≤ 1048576)
def OpenSpec.upto (s : _root_.Go.ChangeSpec) : _root_.Go.OpenSpec := { _root_.Go.OpenSpec.ofChange s with cond := some uptoSmall }

/-- 'undercroftlaw24.MountNames', WHERE WHAT IT READS IS OF BULK AT MOST 1048576: true; the input reads as it did. -/
def mountNamesUptoRow : OpenClaim := { program := "ytiadlcjdpbkbkaagreat", sum := "9c23b0066500ffcb088ec626ecc3e325047f8708a5cc407a1bf7172f0b7678ca", func := "undercroft/undercroftlaw24.MountNames", spec := "mountNames", unfollowed := true, recurses := true, apart := false, narrowed := true }
def MountNamesUptoSaid : Prop := mountNamesUptoRow.holds Tryz.pinned (OpenSpec.upto mountNamesSpec)

/-- 'undercroftlaw24.MountHead', WHERE WHAT IT READS IS OF BULK AT MOST 1048576: true; the input reads as it did. -/
def mountHeadUptoRow : OpenClaim := { program := "ytiadlcjdpbkbkaagreat", sum := "9c23b0066500ffcb088ec626ecc3e325047f8708a5cc407a1bf7172f0b7678ca", func := "undercroft/undercroftlaw24.MountHead", spec := "mountHead", unfollowed := true, recurses := true, apart := false, narrowed := true }
def MountHeadUptoSaid : Prop := mountHeadUptoRow.holds Tryz.pinned (OpenSpec.upto mountHeadSpec)

/-- 'undercroftlaw24.MountNil', WHERE WHAT IT READS IS OF BULK AT MOST 1048576: true; the input reads as it did. -/
def mountNilUptoRow : OpenClaim := { program := "ytiadlcjdpbkbkaagreat", sum := "9c23b0066500ffcb088ec626ecc3e325047f8708a5cc407a1bf7172f0b7678ca", func := "undercroft/undercroftlaw24.MountNil", spec := "mountNil", unfollowed := true, recurses := true, apart := false, narrowed := true }
def MountNilUptoSaid : Prop := mountNilUptoRow.holds Tryz.pinned (OpenSpec.upto mountNilSpec)

end Rows
end Go.Proofs.YtiadlcjdpbkbkaaGreat
