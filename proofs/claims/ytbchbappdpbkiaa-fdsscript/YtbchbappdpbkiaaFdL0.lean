/- The law's own small calls over acts (plain, same), Pick; owned lists as parts; the table of acts beside whatever lies apart; no condition but bounds. -/
import Derived.Test.YtbchbappdpbkiaaFddA
import Derived.Test.YtbchbappdpbkiaaLater
namespace Go.Proofs.Ytbchbappdpbkiaa
open Go.RowKit Go.Maps
theorem plain_ok (x1 x2 x3 x4 : Int) (w : World) : Calls Try.prog 18 #[.agg #[.int .i64 x1, .int .i64 x2, .int .i64 x3, .int .i64 x4]] w fun e w' => e = .returned (.agg #[.int .i64 x1, .int .i64 x2, .int .i64 x3, .int .i64 x4]) ∧ Below w.heap.size w w' := by
  have HB : Hid (Below w.heap.size w ((w.alloc (.cells #[.int .i64 x1, .int .i64 x2, .int .i64 x3, .int .i64 x4] 38)).alloc (.cells #[.int .i64 x1, .int .i64 x2, .int .i64 x3, .int .i64 x4] 38))) := below_next (below_new _ _) (below_new _ _)
  have r1 : ((w.alloc (.cells #[.int .i64 x1, .int .i64 x2, .int .i64 x3, .int .i64 x4] 38)).alloc (.cells #[.int .i64 x1, .int .i64 x2, .int .i64 x3, .int .i64 x4] 38)).heap[w.heap.size + 1]? = some (.cells #[.int .i64 x1, .int .i64 x2, .int .i64 x3, .int .i64 x4] 38) := by
    have := heap_alloc_new (w.alloc (.cells #[.int .i64 x1, .int .i64 x2, .int .i64 x3, .int .i64 x4] 38)) (.cells #[.int .i64 x1, .int .i64 x2, .int .i64 x3, .int .i64 x4] 38)
    rwa [World.size_alloc] at this
  go_enter Try.func18, Try.ntmps18
  go_wp2
  exact retR Try.underlying38 rfl rfl (w.heap.size + 1) #[.int .i64 x1, .int .i64 x2, .int .i64 x3, .int .i64 x4] 38 infAct rfl r1 rfl ⟨rfl, HB.out⟩
theorem same_ok (x1 x2 x3 x4 : Int) (w : World) : Calls Try.prog 20 #[.agg #[.int .i64 x1, .int .i64 x2, .int .i64 x3, .int .i64 x4], .agg #[.int .i64 x1, .int .i64 x2, .int .i64 x3, .int .i64 x4]] w fun e w' => e = .returned (.bool true) ∧ Below w.heap.size w w' := by
  have HB : Hid (Below w.heap.size w ((w.alloc (.cells #[.int .i64 x1, .int .i64 x2, .int .i64 x3, .int .i64 x4] 38)).alloc (.cells #[.int .i64 x1, .int .i64 x2, .int .i64 x3, .int .i64 x4] 38))) := below_next (below_new _ _) (below_new _ _)
  have e1 : (x1 == x1) = true := by simp
  have e2 : (x2 == x2) = true := by simp
  have e3 : (x3 == x3) = true := by simp
  have e4 : (x4 == x4) = true := by simp
  go_enter Try.func20, Try.ntmps20
  go_wp2
  go_ret
  exact ⟨rfl, HB.out⟩
theorem pick_ok (i n : Int) (hn : 1 ≤ n ∧ n ≤ 1048576) (w : World) : Calls Try.prog 10 #[.int .i64 i, .int .i64 n] w fun e w' => e = .returned (.int .i64 (i % n)) ∧ w' = w := by
  have h0 : n ≠ 0 := by omega
  have hb : -n < Int.tmod i n ∧ Int.tmod i n < n := by
    have h1 := Int.natAbs_tmod i n
    have h2 : (Int.tmod i n).natAbs < n.natAbs := by
      rw [Int.natAbs_tmod]
      exact Nat.mod_lt _ (by omega)
    omega
  have hw : IntKind.i64.wrap (Int.tmod i n) = Int.tmod i n := by rw [IntKind.wrap_i64]; omega
  have hm : Int.tmod i n % n = i % n := by
    have h1 := Int.tmod_add_mul_tdiv i n
    have h2 : i % n = (Int.tmod i n + n * Int.tdiv i n) % n := by rw [h1]
    rw [h2, Int.add_mul_emod_self_left]
  by_cases hneg : Int.tmod i n < 0
  · have he : Int.tmod i n + n = i % n := by
      rw [← hm, ← Int.add_emod_right, Int.emod_eq_of_lt (by omega) (by omega)]
    have hw2 : IntKind.i64.wrap (Int.tmod i n + n) = Int.tmod i n + n := by rw [IntKind.wrap_i64]; omega
    rw [← he]
    clear hm he
    go_enter Try.func10, Try.ntmps10
    go_wp2
    go_ret
    exact ⟨rfl, rfl⟩
  · have he : Int.tmod i n = i % n := by rw [← hm, Int.emod_eq_of_lt (by omega) (by omega)]
    rw [← he]
    clear hm he
    go_enter Try.func10, Try.ntmps10
    go_wp2
    go_ret
    exact ⟨rfl, rfl⟩
/-- A list that a call owns, as a part of memory. -/
def olP (v : Value) (e sz n : Nat) (xs : List Value) : Part := ⟨fun k => v.ownBlock = some k, fun W => W.ownsRow 0 e sz v n xs⟩
theorem olP_good (v : Value) (e sz n : Nat) (xs : List Value) : (olP v e sz n xs).Good := fun W W' hs _ h => by
  obtain ⟨q, h2⟩ := hs
  refine ⟨q, ?_⟩
  rcases h2 with h2 | ⟨b, cap, cur, rfl, hB, hh, h3⟩
  · exact .inl h2
  · exact .inr ⟨b, cap, cur, rfl, hB, (h b rfl).trans hh, h3⟩
section
variable {w W W' : World} {l : List Part}
theorem sep_nilL (h : Sep w W l) (e sz : Nat) : Sep w W (olP (.slice none 0 0) e sz 0 [] :: l) := by
  refine h.add (Below.refl _ _) (olP_good _ _ _ _ _) (World.ownsRow_nil _ _ _ _) ?_
  intro _ hk
  cases hk
/-- What an owned list has become, by an append or by a store. -/
theorem sep_own {v v' : Value} {e sz n n' : Nat} {xs xs' : List Value} (h : Sep w W (olP v e sz n xs :: l)) (hF : Fr (fun k => v.ownBlock = some k) W W') (ho : W'.ownsRow 0 e sz v' n' xs') (hb : ∀ k, v'.ownBlock = some k → v.ownBlock = some k ∨ W.heap.size ≤ k) : Sep w W' (olP v' e sz n' xs' :: l) :=
  h.turn hF (fun _ _ q => q) (olP_good _ _ _ _ _) ho fun k hk => ⟨hb k hk, own_lt ho hk⟩
variable {g le : Nat} {v : Value} {m : Int} {R : List (Option Ac)}
theorem sep_openA (h : Sep w W (tpA g v le m R :: l)) (hl : R.length ≤ 10000000) (x : Ac) : Calls Try.prog 17 #[.pointer (some ⟨g, 0, none⟩), thA (some x)] W fun e W' => e = .returned (.tuple #[.int .i64 (openN R m), .int .i64 (openE R m)]) ∧ ∃ v' le', Sep w W' (tpA g v' le' m (openT R m x) :: l) :=
  (open_okA h.head hl x).mono fun _ _ ⟨e, hT⟩ => ⟨e, sep_toA h hT⟩
theorem sep_closeA (h : Sep w W (tpA g v le m R :: l)) (hl : R.length ≤ 10000000) (fd : Int) : Calls Try.prog 19 #[.pointer (some ⟨g, 0, none⟩), .int .i64 fd] W fun e W' => e = .returned (.tuple #[thA (getO R fd), .int .i64 (refV R fd)]) ∧ ∃ v' le', Sep w W' (tpA g v' le' m (closeR R fd) :: l) :=
  (close_okA h.head hl fd).mono fun _ _ ⟨e, hT⟩ => ⟨e, sep_toA h hT⟩
theorem sep_setA (h : Sep w W (tpA g v le m R :: l)) (fd : Int) (x : Ac) : Calls Try.prog 21 #[.pointer (some ⟨g, 0, none⟩), .int .i64 fd, thA (some x)] W fun e W' => e = .returned (.int .i64 (refV R fd)) ∧ ∃ v' le', Sep w W' (tpA g v' le' m (setR R fd x) :: l) :=
  (set_okA h.head fd x).mono fun _ _ ⟨e, hT⟩ => ⟨e, sep_toA h hT⟩
theorem sep_fullA (h : Sep w W (tpA g v le m R :: l)) : Calls Try.prog 24 #[.pointer (some ⟨g, 0, none⟩)] W fun e W' => e = .returned (.bool (decide ((cnt R : Int) = m))) ∧ Sep w W' (tpA g v le m R :: l) :=
  (full_okA h.head).mono fun _ _ ⟨e, hb⟩ => ⟨e, h.later hb⟩
theorem sep_getA (h : Sep w W (tpA g v le m R :: l)) (fd : Int) : Calls Try.prog 22 #[.pointer (some ⟨g, 0, none⟩), .int .i64 fd] W fun e W' => e = .returned (.tuple #[thA (getO R fd), .int .i64 (refV R fd)]) ∧ Sep w W' (tpA g v le m R :: l) :=
  (get_okA h.head fd).mono fun _ _ ⟨e, hb⟩ => ⟨e, h.later hb⟩
end
end Go.Proofs.Ytbchbappdpbkiaa
