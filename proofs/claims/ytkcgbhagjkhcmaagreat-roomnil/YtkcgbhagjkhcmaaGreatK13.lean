/- Several texts joined, each with its own remark; no condition. -/
import Derived.Test.YtkcgbhagjkhcmaaGreatK12
import Derived.Deep.Cut
import Derived.Deep.CutRange
/- The group's blocks are held at their own places; no condition but that numbers do not pass their greatest. -/
namespace Go.Proofs.YtkcgbhagjkhcmaaGreatW
open Go.RowKit Go.Maps
variable {w W : World} {g d c mb : Nat} {v : Value} {x : LSt} {s : CSt} {t : St} {os ks : List (Nat × Obj)} {base : Nat} {book : Int → Nat → Int}
end Go.Proofs.YtkcgbhagjkhcmaaGreatW
/- The group's blocks are held in the log; no condition but that numbers do not pass their greatest. -/
namespace Go.Proofs.YtkcgbhagjkhcmaaGreatW
open Go.RowKit Go.Maps
variable {w W : World} {g d c mb : Nat} {v : Value} {x : LSt} {s : CSt} {t : St} {os ks : List (Nat × Obj)} {base : Nat} {book : Int → Nat → Int}
theorem LS.cread (h : LS w W g d c mb v x s t os ks) (hr : Room t) (k : Int) : Calls Tryz.prog 105 #[ptr c, .int .i64 k] W fun e W' => e = .returned (.tuple #[.agg (blk (rdB s t k)), .int .i64 (usedE s t k)]) ∧ LS w W' g d c mb v x (rdC s t k) (rdD s t k) os ks :=
  (sit_read h.sit hr k).mono fun _ _ ⟨h1, h2⟩ => ⟨h1, h.step h2⟩
variable {n0 : Int} {i : Nat} {wx : World}
end Go.Proofs.YtkcgbhagjkhcmaaGreatW
/- The group's blocks are held in the log: the walk; no condition but that numbers do not pass their greatest. -/
namespace Go.Proofs.YtkcgbhagjkhcmaaGreatW
open Go.RowKit Go.Maps
variable {w W : World} {g d c mb : Nat} {v : Value} {x : LSt} {s : CSt} {t : St} {os ks : List (Nat × Obj)} {base : Nat} {book : Int → Nat → Int}
end Go.Proofs.YtkcgbhagjkhcmaaGreatW
/- A commit; no condition but that numbers do not pass their greatest. -/
namespace Go.Proofs.YtkcgbhagjkhcmaaGreatW
open Go.RowKit Go.Maps
variable {w W : World} {g d c mb : Nat} {v : Value} {x : LSt} {s : CSt} {t : St} {os ks : List (Nat × Obj)} {base : Nat} {book : Int → Nat → Int}
end Go.Proofs.YtkcgbhagjkhcmaaGreatW
/- A commit: the walk; no condition but that numbers do not pass their greatest. -/
namespace Go.Proofs.YtkcgbhagjkhcmaaGreatW
open Go.RowKit Go.Maps
variable {w W : World} {g d c mb : Nat} {v : Value} {x : LSt} {s : CSt} {t : St} {os ks : List (Nat × Obj)} {base : Nat} {book : Int → Nat → Int}
end Go.Proofs.YtkcgbhagjkhcmaaGreatW
