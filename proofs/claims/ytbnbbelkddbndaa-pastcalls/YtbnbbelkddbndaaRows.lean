/-
  No cell of these rows narrows 'for every input' (looked for: loops, veiled, ifaces, maps, wideKeys, modest, calm, conditions, laid).
  DERIVED. THE GIVEN ROWS OF THIS SEAT. 6 by the template 'for every input the law returns true; each argument reads behind the call as it read before'; 0 by the template 'total and deterministic' (their statements: YtbnbbelkddbndaaTotals.lean).
  GIVEN WITH THE SEED: the statements are not yours to turn. If you find one false, say at which input.
  Laid BY PROGRAM, IN A SANDBOX (cutbox-rows.mjs): the forced cells as the released guide's own fill.sh prints them over the translation 6998488f00b10255… (all of the seat's roots in one cut). By AI agents, Wed Nov 11 2026. No macro, syntax, notation, axiom, sorry.
-/
import Derived.Test.YtbnbbelkddbndaaChecked
import GoSem.Claim
import GoSem.ClaimJoined
import GoSem.ClaimMapViews
import Derived.JoinedTies
import Derived.KernelRfl
namespace Go.Proofs.Ytbnbbelkddbndaa
/- THE CELL 'sum', in the pinned program and in every row, IS THE sha256 OF THE DUMP (.gsa) THAT YtbnbbelkddbndaaProg.lean LOADS. Nothing in Lean hashes anything: it is a label: what it is worth is what the hold of that sum in a sandbox is worth. -/
noncomputable def Try.pinned : Pinned := { name := "ytbnbbelkddbndaa", sum := "6998488f00b1025563911bd055fcd4c3c8a0fe38dcfcfa70ea963f115f604068", checked := Try.checked }
namespace Rows
def none {H : Type} : Left H := { results := [], args := [] }

/-- 'undercroftlaw05.PastCalls': WHATEVER THE INPUT: true; the input reads as it did. -/
def pastCallsSpec : ChangeSpec := { name := "pastCalls", fn := fun _ => fun
  | [d1, d2] => { results := [.lit (.bool true)], args := [d1, d2] }
  | _ => none }
def pastCallsRow : OpenClaim := { program := "ytbnbbelkddbndaa", sum := "6998488f00b1025563911bd055fcd4c3c8a0fe38dcfcfa70ea963f115f604068", func := "undercroft/undercroftlaw05.PastCalls", spec := "pastCalls", unfollowed := true, recurses := true, plainKeys := false, apart := false }
def PastCallsSaid : Prop := pastCallsRow.holds Try.pinned (OpenSpec.ofChange pastCallsSpec)

/-- ITS FALSE NEIGHBOUR: 'it returns false'. Refute it at one input. -/
def pastCallsWrong : ChangeSpec := { name := "pastCalls", fn := fun _ => fun
  | [d1, d2] => { results := [.lit (.bool false)], args := [d1, d2] }
  | _ => none }
def PastCallsWrongFalsely : Prop := pastCallsRow.holds Try.pinned (OpenSpec.ofChange pastCallsWrong)

/-- 'undercroftlaw05.PastSome': WHATEVER THE INPUT: true; the input reads as it did. -/
def pastSomeSpec : ChangeSpec := { name := "pastSome", fn := fun _ => fun
  | [d] => { results := [.lit (.bool true)], args := [d] }
  | _ => none }
def pastSomeRow : OpenClaim := { program := "ytbnbbelkddbndaa", sum := "6998488f00b1025563911bd055fcd4c3c8a0fe38dcfcfa70ea963f115f604068", func := "undercroft/undercroftlaw05.PastSome", spec := "pastSome", unfollowed := true, recurses := true, plainKeys := false, apart := false }
def PastSomeSaid : Prop := pastSomeRow.holds Try.pinned (OpenSpec.ofChange pastSomeSpec)

/-- ITS FALSE NEIGHBOUR: 'it returns false'. Refute it at one input. -/
def pastSomeWrong : ChangeSpec := { name := "pastSome", fn := fun _ => fun
  | [d] => { results := [.lit (.bool false)], args := [d] }
  | _ => none }
def PastSomeWrongFalsely : Prop := pastSomeRow.holds Try.pinned (OpenSpec.ofChange pastSomeWrong)

/-- 'undercroftlaw05.PastCut': WHATEVER THE INPUT: true; the input reads as it did. -/
def pastCutSpec : ChangeSpec := { name := "pastCut", fn := fun _ => fun
  | [d1, d2] => { results := [.lit (.bool true)], args := [d1, d2] }
  | _ => none }
def pastCutRow : OpenClaim := { program := "ytbnbbelkddbndaa", sum := "6998488f00b1025563911bd055fcd4c3c8a0fe38dcfcfa70ea963f115f604068", func := "undercroft/undercroftlaw05.PastCut", spec := "pastCut", unfollowed := true, recurses := true, plainKeys := false, apart := false }
def PastCutSaid : Prop := pastCutRow.holds Try.pinned (OpenSpec.ofChange pastCutSpec)

/-- ITS FALSE NEIGHBOUR: 'it returns false'. Refute it at one input. -/
def pastCutWrong : ChangeSpec := { name := "pastCut", fn := fun _ => fun
  | [d1, d2] => { results := [.lit (.bool false)], args := [d1, d2] }
  | _ => none }
def PastCutWrongFalsely : Prop := pastCutRow.holds Try.pinned (OpenSpec.ofChange pastCutWrong)

/-- 'undercroftlaw05.PastSame': WHATEVER THE INPUT: true; the input reads as it did. -/
def pastSameSpec : ChangeSpec := { name := "pastSame", fn := fun _ => fun
  | [d1, d2, d3] => { results := [.lit (.bool true)], args := [d1, d2, d3] }
  | _ => none }
def pastSameRow : OpenClaim := { program := "ytbnbbelkddbndaa", sum := "6998488f00b1025563911bd055fcd4c3c8a0fe38dcfcfa70ea963f115f604068", func := "undercroft/undercroftlaw05.PastSame", spec := "pastSame", unfollowed := true, recurses := true, plainKeys := false, apart := false }
def PastSameSaid : Prop := pastSameRow.holds Try.pinned (OpenSpec.ofChange pastSameSpec)

/-- ITS FALSE NEIGHBOUR: 'it returns false'. Refute it at one input. -/
def pastSameWrong : ChangeSpec := { name := "pastSame", fn := fun _ => fun
  | [d1, d2, d3] => { results := [.lit (.bool false)], args := [d1, d2, d3] }
  | _ => none }
def PastSameWrongFalsely : Prop := pastSameRow.holds Try.pinned (OpenSpec.ofChange pastSameWrong)

/-- 'undercroftlaw05.PastNames': WHATEVER THE INPUT: true; the input reads as it did. -/
def pastNamesSpec : ChangeSpec := { name := "pastNames", fn := fun _ => fun
  | [] => { results := [.lit (.bool true)], args := [] }
  | _ => none }
def pastNamesRow : OpenClaim := { program := "ytbnbbelkddbndaa", sum := "6998488f00b1025563911bd055fcd4c3c8a0fe38dcfcfa70ea963f115f604068", func := "undercroft/undercroftlaw05.PastNames", spec := "pastNames", unfollowed := true, recurses := true, plainKeys := false, apart := false }
def PastNamesSaid : Prop := pastNamesRow.holds Try.pinned (OpenSpec.ofChange pastNamesSpec)

/-- ITS FALSE NEIGHBOUR: 'it returns false'. Refute it at one input. -/
def pastNamesWrong : ChangeSpec := { name := "pastNames", fn := fun _ => fun
  | [] => { results := [.lit (.bool false)], args := [] }
  | _ => none }
def PastNamesWrongFalsely : Prop := pastNamesRow.holds Try.pinned (OpenSpec.ofChange pastNamesWrong)

/-- 'undercroftlaw05.PastDisk': WHATEVER THE INPUT: true; the input reads as it did. -/
def pastDiskSpec : ChangeSpec := { name := "pastDisk", fn := fun _ => fun
  | [d] => { results := [.lit (.bool true)], args := [d] }
  | _ => none }
def pastDiskRow : OpenClaim := { program := "ytbnbbelkddbndaa", sum := "6998488f00b1025563911bd055fcd4c3c8a0fe38dcfcfa70ea963f115f604068", func := "undercroft/undercroftlaw05.PastDisk", spec := "pastDisk", unfollowed := true, recurses := true, plainKeys := false, apart := false }
def PastDiskSaid : Prop := pastDiskRow.holds Try.pinned (OpenSpec.ofChange pastDiskSpec)

/-- ITS FALSE NEIGHBOUR: 'it returns false'. Refute it at one input. -/
def pastDiskWrong : ChangeSpec := { name := "pastDisk", fn := fun _ => fun
  | [d] => { results := [.lit (.bool false)], args := [d] }
  | _ => none }
def PastDiskWrongFalsely : Prop := pastDiskRow.holds Try.pinned (OpenSpec.ofChange pastDiskWrong)

/- THE SECOND FORM. 'bulk': how many values and letters a reading holds, each counted each time it is reached (what is shared counts as often as it is met; a slice's spare places count too). A statement '..UptoSaid' is the law's where the arguments, and the package variables that the reading takes, are together of bulk at most 1048576: NARROWER than '..Said'. Prove '..Said' where nothing that the law and all that it calls make is longer than what came in: it says more and counts as full. Else prove '..UptoSaid'. A law counts once. -/
mutual
def uptoBulk {H : Type} : DataW H → Nat
  | .lit (.string bytes) => bytes.length + 1
  | .lit _ => 1
  | .nil => 1
  | .ptr d => uptoBulk d + 1
  | .slice elems spare => uptoBulkAll elems + uptoBulkAll spare + 1
  | .agg parts => uptoBulkAll parts + 1
  | .iface _ d => uptoBulk d + 1
  | .map entries => uptoBulkEntries entries + 1
  | .held _ => 1
def uptoBulkAll {H : Type} : List (DataW H) → Nat
  | [] => 0
  | d :: r => uptoBulk d + uptoBulkAll r
def uptoBulkEntries {H : Type} : List (Lit × DataW H) → Nat
  | [] => 0
  | x :: r => uptoBulkEntry x + uptoBulkEntries r
def uptoBulkEntry {H : Type} : Lit × DataW H → Nat
  | (.string bytes, d) => bytes.length + uptoBulk d + 1
  | (_, d) => uptoBulk d + 1
 end
def uptoSmall : (H : Type) → List (DataW H) → Bool := fun _ ds => decide (uptoBulkAll ds ≤ 1048576)
def OpenSpec.upto (s : _root_.Go.ChangeSpec) : _root_.Go.OpenSpec := { _root_.Go.OpenSpec.ofChange s with cond := some uptoSmall }

/-- 'undercroftlaw05.PastCalls', WHERE WHAT IT READS IS OF BULK AT MOST 1048576: true; the input reads as it did. -/
def pastCallsUptoRow : OpenClaim := { program := "ytbnbbelkddbndaa", sum := "6998488f00b1025563911bd055fcd4c3c8a0fe38dcfcfa70ea963f115f604068", func := "undercroft/undercroftlaw05.PastCalls", spec := "pastCalls", unfollowed := true, recurses := true, plainKeys := false, apart := false, narrowed := true }
def PastCallsUptoSaid : Prop := pastCallsUptoRow.holds Try.pinned (OpenSpec.upto pastCallsSpec)

/-- 'undercroftlaw05.PastSome', WHERE WHAT IT READS IS OF BULK AT MOST 1048576: true; the input reads as it did. -/
def pastSomeUptoRow : OpenClaim := { program := "ytbnbbelkddbndaa", sum := "6998488f00b1025563911bd055fcd4c3c8a0fe38dcfcfa70ea963f115f604068", func := "undercroft/undercroftlaw05.PastSome", spec := "pastSome", unfollowed := true, recurses := true, plainKeys := false, apart := false, narrowed := true }
def PastSomeUptoSaid : Prop := pastSomeUptoRow.holds Try.pinned (OpenSpec.upto pastSomeSpec)

/-- 'undercroftlaw05.PastCut', WHERE WHAT IT READS IS OF BULK AT MOST 1048576: true; the input reads as it did. -/
def pastCutUptoRow : OpenClaim := { program := "ytbnbbelkddbndaa", sum := "6998488f00b1025563911bd055fcd4c3c8a0fe38dcfcfa70ea963f115f604068", func := "undercroft/undercroftlaw05.PastCut", spec := "pastCut", unfollowed := true, recurses := true, plainKeys := false, apart := false, narrowed := true }
def PastCutUptoSaid : Prop := pastCutUptoRow.holds Try.pinned (OpenSpec.upto pastCutSpec)

/-- 'undercroftlaw05.PastSame', WHERE WHAT IT READS IS OF BULK AT MOST 1048576: true; the input reads as it did. -/
def pastSameUptoRow : OpenClaim := { program := "ytbnbbelkddbndaa", sum := "6998488f00b1025563911bd055fcd4c3c8a0fe38dcfcfa70ea963f115f604068", func := "undercroft/undercroftlaw05.PastSame", spec := "pastSame", unfollowed := true, recurses := true, plainKeys := false, apart := false, narrowed := true }
def PastSameUptoSaid : Prop := pastSameUptoRow.holds Try.pinned (OpenSpec.upto pastSameSpec)

/-- 'undercroftlaw05.PastNames', WHERE WHAT IT READS IS OF BULK AT MOST 1048576: true; the input reads as it did. -/
def pastNamesUptoRow : OpenClaim := { program := "ytbnbbelkddbndaa", sum := "6998488f00b1025563911bd055fcd4c3c8a0fe38dcfcfa70ea963f115f604068", func := "undercroft/undercroftlaw05.PastNames", spec := "pastNames", unfollowed := true, recurses := true, plainKeys := false, apart := false, narrowed := true }
def PastNamesUptoSaid : Prop := pastNamesUptoRow.holds Try.pinned (OpenSpec.upto pastNamesSpec)

/-- 'undercroftlaw05.PastDisk', WHERE WHAT IT READS IS OF BULK AT MOST 1048576: true; the input reads as it did. -/
def pastDiskUptoRow : OpenClaim := { program := "ytbnbbelkddbndaa", sum := "6998488f00b1025563911bd055fcd4c3c8a0fe38dcfcfa70ea963f115f604068", func := "undercroft/undercroftlaw05.PastDisk", spec := "pastDisk", unfollowed := true, recurses := true, plainKeys := false, apart := false, narrowed := true }
def PastDiskUptoSaid : Prop := pastDiskUptoRow.holds Try.pinned (OpenSpec.upto pastDiskSpec)

end Rows
end Go.Proofs.Ytbnbbelkddbndaa
