/- Where the regions of a geometry lie, as plain numbers, and the values that stand for them; no condition. -/
import Derived.Test.YtohknfoljnddjaaNum
namespace Go.Proofs.Ytohknfoljnddjaa
open Go.RowKit

def nodeB (i : Int) : Int := (i + 16) / 16
def bitsB (b : Int) : Int := (b + 8191) / 8192
def bitsAt (l i : Int) : Int := 1 + l + nodeB i
def dataAt (b l i : Int) : Int := bitsAt l i + bitsB b
/-- Is there a layout of the geometry b, l, i? -/
abbrev Fine (b l i : Int) : Prop := 32 ≤ l ∧ l ≤ 256 ∧ 1 ≤ i ∧ i ≤ 65535 ∧ b ≤ 1048576 ∧ dataAt b l i < b
theorem Fine.pos {b l i : Int} (h : Fine b l i) : 35 ≤ b := by
  unfold Fine dataAt bitsAt nodeB bitsB at h; omega

/-- Is a geometry within its bounds? -/
def bndB (b l i : Int) : Bool := decide (32 ≤ l ∧ l ≤ 256 ∧ 1 ≤ i ∧ i ≤ 65535 ∧ b ≤ 1048576)

def geoV (b l i : Int) : Value := .agg #[.int .i64 b, .int .i64 l, .int .i64 i]
def lay9 (b l i a c d e f g : Int) : Array Value := #[.int .i64 b, .int .i64 l, .int .i64 i, .int .i64 a, .int .i64 c, .int .i64 d, .int .i64 e, .int .i64 f, .int .i64 g]
def layV (b l i : Int) : Value := .agg (lay9 b l i 1 (1 + l) (nodeB i) (bitsAt l i) (bitsB b) (dataAt b l i))
def layZ : Value := .agg (lay9 0 0 0 0 0 0 0 0 0)
/-- What Of answers. -/
def ofV (b l i : Int) : Value := if Fine b l i then layV b l i else layZ
def ofE (b l i : Int) : Int := if Fine b l i then 0 else 2
def I64 (x : Int) : Prop := -9223372036854775808 ≤ x ∧ x ≤ 9223372036854775807
end Go.Proofs.Ytohknfoljnddjaa
