/-
  No cell of these rows narrows 'for every input' (looked for: loops, veiled, ifaces, maps, wideKeys, modest, calm, conditions, laid).
  DERIVED. THE GIVEN ROWS OF THIS SEAT. 5 by the template 'for every input the law returns true; each argument reads behind the call as it read before'; 0 by the template 'total and deterministic' (their statements: YtiejhjngcnkimaaGreatRTotals.lean).
  GIVEN WITH THE SEED: the statements are not yours to turn. If you find one false, say at which input.
  Laid BY PROGRAM, IN A SANDBOX (cutbox-rows.mjs): the forced cells as the released guide's own fill.sh prints them over the translation 8c7a6b04b4092e27… (all of the seat's roots in one cut). By AI agents, Wed Nov 11 2026. No macro, syntax, notation, axiom, sorry.
-/
import Derived.Test.YtiejhjngcnkimaaGreatRChecked
import GoSem.Claim
import GoSem.ClaimJoined
import GoSem.ClaimMapViews
import Derived.JoinedTies
import Derived.KernelRfl
namespace Go.Proofs.YtiejhjngcnkimaaGreatR
/- THE CELL 'sum', in the pinned program and in every row, IS THE sha256 OF THE DUMP (.gsa) THAT YtiejhjngcnkimaaGreatRProg.lean LOADS. Nothing in Lean hashes anything: it is a label: what it is worth is what the hold of that sum in a sandbox is worth. -/
noncomputable def Tryz.pinned : Pinned := { name := "ytiejhjngcnkimaagreatr", sum := "8c7a6b04b4092e277c13c83ca58128378a088b78e1817e1e168bca3f2c3e9f53", checked := Tryz.checked }
namespace Rows
def none {H : Type} : Left H := { results := [], args := [] }

/-- 'undercroftlaw11.RackNames': WHATEVER THE INPUT: true; the input reads as it did. -/
def rackNamesSpec : ChangeSpec := { name := "rackNames", fn := fun _ => fun
  | [] => { results := [.lit (.bool true)], args := [] }
  | _ => none }
def rackNamesRow : OpenClaim := { program := "ytiejhjngcnkimaagreatr", sum := "8c7a6b04b4092e277c13c83ca58128378a088b78e1817e1e168bca3f2c3e9f53", func := "undercroft/undercroftlaw11.RackNames", spec := "rackNames", unfollowed := true, recurses := true, apart := false }
def RackNamesSaid : Prop := rackNamesRow.holds Tryz.pinned (OpenSpec.ofChange rackNamesSpec)

/-- ITS FALSE NEIGHBOUR: 'it returns false'. Refute it at one input. -/
def rackNamesWrong : ChangeSpec := { name := "rackNames", fn := fun _ => fun
  | [] => { results := [.lit (.bool false)], args := [] }
  | _ => none }
def RackNamesWrongFalsely : Prop := rackNamesRow.holds Tryz.pinned (OpenSpec.ofChange rackNamesWrong)

/-- 'undercroftlaw12.ChartNil': WHATEVER THE INPUT: true; the input reads as it did. -/
def chartNilSpec : ChangeSpec := { name := "chartNil", fn := fun _ => fun
  | [d1, d2, d3] => { results := [.lit (.bool true)], args := [d1, d2, d3] }
  | _ => none }
def chartNilRow : OpenClaim := { program := "ytiejhjngcnkimaagreatr", sum := "8c7a6b04b4092e277c13c83ca58128378a088b78e1817e1e168bca3f2c3e9f53", func := "undercroft/undercroftlaw12.ChartNil", spec := "chartNil", unfollowed := true, recurses := true, apart := false }
def ChartNilSaid : Prop := chartNilRow.holds Tryz.pinned (OpenSpec.ofChange chartNilSpec)

/-- ITS FALSE NEIGHBOUR: 'it returns false'. Refute it at one input. -/
def chartNilWrong : ChangeSpec := { name := "chartNil", fn := fun _ => fun
  | [d1, d2, d3] => { results := [.lit (.bool false)], args := [d1, d2, d3] }
  | _ => none }
def ChartNilWrongFalsely : Prop := chartNilRow.holds Tryz.pinned (OpenSpec.ofChange chartNilWrong)

/-- 'undercroftlaw12.ChartNames': WHATEVER THE INPUT: true; the input reads as it did. -/
def chartNamesSpec : ChangeSpec := { name := "chartNames", fn := fun _ => fun
  | [] => { results := [.lit (.bool true)], args := [] }
  | _ => none }
def chartNamesRow : OpenClaim := { program := "ytiejhjngcnkimaagreatr", sum := "8c7a6b04b4092e277c13c83ca58128378a088b78e1817e1e168bca3f2c3e9f53", func := "undercroft/undercroftlaw12.ChartNames", spec := "chartNames", unfollowed := true, recurses := true, apart := false }
def ChartNamesSaid : Prop := chartNamesRow.holds Tryz.pinned (OpenSpec.ofChange chartNamesSpec)

/-- ITS FALSE NEIGHBOUR: 'it returns false'. Refute it at one input. -/
def chartNamesWrong : ChangeSpec := { name := "chartNames", fn := fun _ => fun
  | [] => { results := [.lit (.bool false)], args := [] }
  | _ => none }
def ChartNamesWrongFalsely : Prop := chartNamesRow.holds Tryz.pinned (OpenSpec.ofChange chartNamesWrong)

/-- 'undercroftlaw14.FetchNames': WHATEVER THE INPUT: true; the input reads as it did. -/
def fetchNamesSpec : ChangeSpec := { name := "fetchNames", fn := fun _ => fun
  | [] => { results := [.lit (.bool true)], args := [] }
  | _ => none }
def fetchNamesRow : OpenClaim := { program := "ytiejhjngcnkimaagreatr", sum := "8c7a6b04b4092e277c13c83ca58128378a088b78e1817e1e168bca3f2c3e9f53", func := "undercroft/undercroftlaw14.FetchNames", spec := "fetchNames", unfollowed := true, recurses := true, apart := false }
def FetchNamesSaid : Prop := fetchNamesRow.holds Tryz.pinned (OpenSpec.ofChange fetchNamesSpec)

/-- ITS FALSE NEIGHBOUR: 'it returns false'. Refute it at one input. -/
def fetchNamesWrong : ChangeSpec := { name := "fetchNames", fn := fun _ => fun
  | [] => { results := [.lit (.bool false)], args := [] }
  | _ => none }
def FetchNamesWrongFalsely : Prop := fetchNamesRow.holds Tryz.pinned (OpenSpec.ofChange fetchNamesWrong)

/-- 'undercroftlaw15.LayNil': WHATEVER THE INPUT: true; the input reads as it did. -/
def layNilSpec : ChangeSpec := { name := "layNil", fn := fun _ => fun
  | [d1, d2, d3] => { results := [.lit (.bool true)], args := [d1, d2, d3] }
  | _ => none }
def layNilRow : OpenClaim := { program := "ytiejhjngcnkimaagreatr", sum := "8c7a6b04b4092e277c13c83ca58128378a088b78e1817e1e168bca3f2c3e9f53", func := "undercroft/undercroftlaw15.LayNil", spec := "layNil", unfollowed := true, recurses := true, apart := false }
def LayNilSaid : Prop := layNilRow.holds Tryz.pinned (OpenSpec.ofChange layNilSpec)

/-- ITS FALSE NEIGHBOUR: 'it returns false'. Refute it at one input. -/
def layNilWrong : ChangeSpec := { name := "layNil", fn := fun _ => fun
  | [d1, d2, d3] => { results := [.lit (.bool false)], args := [d1, d2, d3] }
  | _ => none }
def LayNilWrongFalsely : Prop := layNilRow.holds Tryz.pinned (OpenSpec.ofChange layNilWrong)

/- THE SECOND FORM. 'bulk': how many values and letters a reading holds, each counted each time it is reached (what is shared counts as often as it is met; a slice's spare places count too). A statement '..UptoSaid' is the law's where the arguments, and the package variables that the reading takes, are together of bulk at most 1048576: NARROWER than '..Said'. Prove '..Said' where nothing that the law and all that it calls make is longer than what came in: it says more and counts as full. Else prove '..UptoSaid'. A law counts once. -/
mutual
def uptoBulk {H : Type} : DataW H → Nat
  | .lit (.string bytes) => bytes.length + 1
  | .lit _ => 1
  | .nil => 1
  | .ptr d => uptoBulk d + 1
  | .slice elems spare => uptoBulkAll elems + uptoBulkAll spare + 1
  | .agg parts => uptoBulkAll parts + 1
  | .iface _ d => uptoBulk d + 1
  | .map entries => uptoBulkEntries entries + 1
  | .held _ => 1
def uptoBulkAll {H : Type} : List (DataW H) → Nat
  | [] => 0
  | d :: r => uptoBulk d + uptoBulkAll r
def uptoBulkEntries {H : Type} : List (Lit × DataW H) → Nat
  | [] => 0
  | x :: r => uptoBulkEntry x + uptoBulkEntries r
def uptoBulkEntry {H : Type} : Lit × DataW H → Nat
  | (.string bytes, d) => bytes.length + uptoBulk d + 1
  | (_, d) => uptoBulk d + 1
 end
def uptoSmall : (H : Type) → List (DataW H) → Bool := fun _ ds => decide (uptoBulkAll ds ≤ 1048576)
def OpenSpec.upto (s : _root_.Go.ChangeSpec) : _root_.Go.OpenSpec := { _root_.Go.OpenSpec.ofChange s with cond := some uptoSmall }

/-- 'undercroftlaw11.RackNames', WHERE WHAT IT READS IS OF BULK AT MOST 1048576: true; the input reads as it did. -/
def rackNamesUptoRow : OpenClaim := { program := "ytiejhjngcnkimaagreatr", sum := "8c7a6b04b4092e277c13c83ca58128378a088b78e1817e1e168bca3f2c3e9f53", func := "undercroft/undercroftlaw11.RackNames", spec := "rackNames", unfollowed := true, recurses := true, apart := false, narrowed := true }
def RackNamesUptoSaid : Prop := rackNamesUptoRow.holds Tryz.pinned (OpenSpec.upto rackNamesSpec)

/-- 'undercroftlaw12.ChartNil', WHERE WHAT IT READS IS OF BULK AT MOST 1048576: true; the input reads as it did. -/
def chartNilUptoRow : OpenClaim := { program := "ytiejhjngcnkimaagreatr", sum := "8c7a6b04b4092e277c13c83ca58128378a088b78e1817e1e168bca3f2c3e9f53", func := "undercroft/undercroftlaw12.ChartNil", spec := "chartNil", unfollowed := true, recurses := true, apart := false, narrowed := true }
def ChartNilUptoSaid : Prop := chartNilUptoRow.holds Tryz.pinned (OpenSpec.upto chartNilSpec)

/-- 'undercroftlaw12.ChartNames', WHERE WHAT IT READS IS OF BULK AT MOST 1048576: true; the input reads as it did. -/
def chartNamesUptoRow : OpenClaim := { program := "ytiejhjngcnkimaagreatr", sum := "8c7a6b04b4092e277c13c83ca58128378a088b78e1817e1e168bca3f2c3e9f53", func := "undercroft/undercroftlaw12.ChartNames", spec := "chartNames", unfollowed := true, recurses := true, apart := false, narrowed := true }
def ChartNamesUptoSaid : Prop := chartNamesUptoRow.holds Tryz.pinned (OpenSpec.upto chartNamesSpec)

/-- 'undercroftlaw14.FetchNames', WHERE WHAT IT READS IS OF BULK AT MOST 1048576: true; the input reads as it did. -/
def fetchNamesUptoRow : OpenClaim := { program := "ytiejhjngcnkimaagreatr", sum := "8c7a6b04b4092e277c13c83ca58128378a088b78e1817e1e168bca3f2c3e9f53", func := "undercroft/undercroftlaw14.FetchNames", spec := "fetchNames", unfollowed := true, recurses := true, apart := false, narrowed := true }
def FetchNamesUptoSaid : Prop := fetchNamesUptoRow.holds Tryz.pinned (OpenSpec.upto fetchNamesSpec)

/-- 'undercroftlaw15.LayNil', WHERE WHAT IT READS IS OF BULK AT MOST 1048576: true; the input reads as it did. -/
def layNilUptoRow : OpenClaim := { program := "ytiejhjngcnkimaagreatr", sum := "8c7a6b04b4092e277c13c83ca58128378a088b78e1817e1e168bca3f2c3e9f53", func := "undercroft/undercroftlaw15.LayNil", spec := "layNil", unfollowed := true, recurses := true, apart := false, narrowed := true }
def LayNilUptoSaid : Prop := layNilUptoRow.holds Tryz.pinned (OpenSpec.upto layNilSpec)

end Rows
end Go.Proofs.YtiejhjngcnkimaaGreatR
