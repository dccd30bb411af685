/- A desk as a part of memory: each of its calls beside whatever lies apart; for a desk that holds fewer than a million inodes, fewer than a million times each. -/
import Derived.Test.YtpghalekcgnefaaDk1
import Derived.Test.YtpghalekcgnefaaSep
namespace Go.Proofs.Ytpghalekcgnefaa
open Go.RowKit Go.Maps
/-- A desk. -/
def dkP (g b : Nat) (m : Int) (L : List (Int × Int)) : Part := ⟨fun k => k = g ∨ k = b, fun W => DeskAt W g b m L⟩
theorem dkP_good (g b : Nat) (m : Int) (L : List (Int × Int)) : (dkP g b m L).Good := fun _ _ hs _ h => DeskAt.frame hs (h g (.inl rfl)) (h b (.inr rfl))
section
variable {w W : World} {g b : Nat} {m : Int} {L : List (Int × Int)} {l : List Part} {c : Nat}
theorem Sep.desk (h : Sep w W (dkP g b m L :: l)) : DeskAt W g b m L := h.head
theorem Sep.new (h : Sep w W l) (n : Int) : Calls Try.prog 7 #[.int .i64 n] W fun e W' => ∃ g b, e = .returned (.pointer (some ⟨g, 0, none⟩)) ∧ Sep w W' (dkP g b (max n 0) [] :: l) := by
  refine (desk_new n W).mono ?_
  rintro e W' ⟨g, b, he, hd, hb, h1, h2⟩
  refine ⟨g, b, he, h.add hb (dkP_good _ _ _ _) hd ?_⟩
  rintro k (rfl | rfl)
  · exact ⟨h1, hd.lt.1⟩
  · exact ⟨h2, hd.lt.2⟩
theorem Sep.hold (h : Sep w W (dkP g b m L :: l)) (ho : Dok m L c) (hc : c < 1000000) (k : Int) (hk : (Lit.int .i64 k).wf = true) : Calls Try.prog 13 #[.pointer (some ⟨g, 0, none⟩), .int .i64 k] W fun e W' => e = .returned (.int .i64 (holdE m L k)) ∧ Sep w W' (dkP g b m (holdL m L k) :: l) := by
  refine (hold_ok h.desk ho hc k hk).mono ?_
  rintro e W' ⟨he, hd, hf⟩
  refine ⟨he, h.turn hf (fun k _ q => .inr q) (dkP_good _ _ _ _) hd ?_⟩
  rintro k (rfl | rfl)
  · exact ⟨.inl (.inl rfl), hd.lt.1⟩
  · exact ⟨.inl (.inr rfl), hd.lt.2⟩
theorem Sep.dropD (h : Sep w W (dkP g b m L :: l)) (ho : Dok m L c) (hc : c < 1000000) (k : Int) (hk : (Lit.int .i64 k).wf = true) : Calls Try.prog 15 #[.pointer (some ⟨g, 0, none⟩), .int .i64 k] W fun e W' => e = .returned (.tuple #[.bool (dropB L k), .int .i64 (dropE L k)]) ∧ Sep w W' (dkP g b m (dropL L k) :: l) := by
  refine (drop_ok h.desk ho hc k hk).mono ?_
  rintro e W' ⟨he, hd, hf⟩
  refine ⟨he, h.turn hf (fun k _ q => .inr q) (dkP_good _ _ _ _) hd ?_⟩
  rintro k (rfl | rfl)
  · exact ⟨.inl (.inl rfl), hd.lt.1⟩
  · exact ⟨.inl (.inr rfl), hd.lt.2⟩
theorem Sep.full (h : Sep w W (dkP g b m L :: l)) : Calls Try.prog 14 #[.pointer (some ⟨g, 0, none⟩)] W fun e W' => e = .returned (.bool (fullB m L)) ∧ Sep w W' (dkP g b m L :: l) := by
  refine (full_ok h.desk).mono ?_
  rintro e W' ⟨he, hb⟩
  exact ⟨he, h.later hb⟩
end
theorem wf64 {k : Int} (h1 : -9223372036854775808 ≤ k) (h2 : k ≤ 9223372036854775807) : (Lit.int .i64 k).wf = true := WalkArith.wf_i64 (by omega)
end Go.Proofs.Ytpghalekcgnefaa
