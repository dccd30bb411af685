/- Several texts joined, each with its own remark; no condition. -/
import Derived.WalkKit
import Derived.WalkSpells
import Derived.WalkLawsBesides
import Derived.Deep.WholeRow
import Derived.Laws.StructEq
import Derived.Test.YtiejhjngcnkimaaGreatRRows
import Derived.BigQuiet
import Derived.Lib.BitFns
import Derived.Laws.BitsAllLaws
import Derived.Lib.Strings
import Derived.Lib.Slices
import Derived.Lib.Small
import Derived.Lib.Walk
import Derived.StillTailTactics
/- What a block of 1024 bytes is as cells: a plain function from places to numbers, laid as cells; no condition. -/
namespace Go.Proofs.YtiejhjngcnkimaaGreatRV
open Go.RowKit
end Go.Proofs.YtiejhjngcnkimaaGreatRV
/- The block type of this program over its translation: loads, stores and results of whole blocks; fits; no condition. -/
namespace Go.Proofs.YtiejhjngcnkimaaGreatRV
open Go.RowKit
end Go.Proofs.YtiejhjngcnkimaaGreatRV
/- Two blocks held against each other: equal just where every byte is; for every two blocks. -/
namespace Go.Proofs.YtiejhjngcnkimaaGreatRV
open Go.RowKit
end Go.Proofs.YtiejhjngcnkimaaGreatRV
/- Regions whose order is drawn and whose calls make memory but turn none that was there: one walk in the text's order serves every order. -/
namespace Go.Proofs.YtiejhjngcnkimaaGreatRV
open Go.RowKit
end Go.Proofs.YtiejhjngcnkimaaGreatRV
/- The bits of a block, as plain functions: asked, set, counted, the first that is clear; no program. -/
namespace Go.Proofs.YtiejhjngcnkimaaGreatRV
open Go.Lib
end Go.Proofs.YtiejhjngcnkimaaGreatRV
/- The small functions of bits: exists, mask, inside, span; the two of math/bits; for every argument that they are called at. -/
namespace Go.Proofs.YtiejhjngcnkimaaGreatRV
open Go.RowKit
end Go.Proofs.YtiejhjngcnkimaaGreatRV
/- Has and Set of bits: for every block of bytes, every number and either way. -/
namespace Go.Proofs.YtiejhjngcnkimaaGreatRV
open Go.RowKit
end Go.Proofs.YtiejhjngcnkimaaGreatRV
/- First and Count of bits: the least clear bit, how many are set; for every block of bytes and every span. -/
namespace Go.Proofs.YtiejhjngcnkimaaGreatRV
open Go.RowKit Go.Lib
end Go.Proofs.YtiejhjngcnkimaaGreatRV
