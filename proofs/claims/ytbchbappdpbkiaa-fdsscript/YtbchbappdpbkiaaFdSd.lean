/- FdsScript's state: both pairs of tables and what is kept; each act of either kind keeps it; no condition but bounds. -/
import Derived.Test.YtbchbappdpbkiaaFdSc
namespace Go.Proofs.Ytbchbappdpbkiaa
open Go.RowKit Go.Maps
/-- Things that are ints of the machine. -/
def BdR (R : List (Option Int)) : Prop := ∀ k y, atR R k = some y → -9223372036854775808 ≤ y ∧ y ≤ 9223372036854775807
theorem BdR.nil : BdR [] := fun k y h => by unfold atR at h; simp at h
theorem BdR.mem {R : List (Option Int)} (h : BdR R) : ∀ y ∈ vsL R, -9223372036854775808 ≤ y ∧ y ≤ 9223372036854775807 := fun y hy => by
  unfold vsL at hy
  obtain ⟨p, hp, rfl⟩ := List.mem_map.1 hy
  obtain ⟨i, hi, e⟩ := List.mem_iff_getElem.1 hp
  have h1 : (hl R)[i]? = some p := by rw [List.getElem?_eq_getElem hi, e]
  exact h p.1 p.2 (atR_some.2 (hl_get h1).1)
theorem BdR.get {R : List (Option Int)} (h : BdR R) (fd : Int) : ∀ y, getO R fd = some y → -9223372036854775808 ≤ y ∧ y ≤ 9223372036854775807 := fun y hy => by
  unfold getO at hy
  split at hy
  · exact h _ y hy
  · cases hy
theorem BdR.opened {R : List (Option Int)} (h : BdR R) (m x : Int) (hx : -9223372036854775808 ≤ x ∧ x ≤ 9223372036854775807) : BdR (openT R m x) := by
  unfold openT
  split
  · exact h
  · intro k y hy
    rw [atR_open] at hy
    split at hy
    · injection hy with hy; rw [← hy]; exact hx
    · exact h k y hy
theorem BdR.sets {R : List (Option Int)} (h : BdR R) (fd x : Int) (hx : -9223372036854775808 ≤ x ∧ x ≤ 9223372036854775807) : BdR (setR R fd x) := by
  rcases fd_cases R fd with ⟨k, y, _, hk, _, _, _, hs⟩ | ⟨_, _, _, hs⟩
  · rw [hs]
    intro j z hz
    rw [atR_set _ _ _ _ (List.getElem?_eq_some_iff.1 hk).1] at hz
    split at hz
    · injection hz with hz; rw [← hz]; exact hx
    · exact h j z hz
  · rw [hs]; exact h
theorem BdR.closed {R : List (Option Int)} (h : BdR R) (fd : Int) : BdR (closeR R fd) := by
  rcases fd_cases R fd with ⟨k, y, _, hk, _, _, hs, _⟩ | ⟨_, _, hs, _⟩
  · rw [hs]
    intro j z hz
    rw [atR_set _ _ _ _ (List.getElem?_eq_some_iff.1 hk).1] at hz
    split at hz
    · cases hz
    · exact h j z hz
  · rw [hs]; exact h
theorem len_openT (R : List (Option Int)) (m x : Int) : (openT R m x).length ≤ R.length + 1 := by
  unfold openT
  split
  · omega
  · exact len_open R x
theorem perm5 (A B C A' C' : List Part) : (A ++ (B ++ (C ++ (A' ++ C')))).Perm (A' ++ (B ++ (C' ++ (A ++ C)))) := by
  classical
  rw [List.perm_iff_count]
  intro a
  simp only [List.count_append]
  omega
structure Bds (n : Nat) (RA RB : List (Option Int)) (LI : List ItI) (LT : List ItT) : Prop where
  ra : RA.length ≤ n
  rb : RB.length ≤ n
  li : LI.length ≤ n
  lt : LT.length ≤ n
  bd : BdR RB
  ir : ∀ y ∈ LI, y.R.length ≤ 900000
  tr : ∀ y ∈ LT, y.R.length ≤ 900000
def StP (gA gP gB gQ gK : Nat) (mA mB : Int) (RA RB : List (Option Int)) (vA vB vF vV wF wV v0 v1 v2 v3 v4 v5 : Value) (leA leB : Nat) (LI : List ItI) (LT : List ItT) : List Part :=
  tpI gA vA leA mA RA :: rfL gP mA vF vV RA (bxP gK #[v0, v1, v2, v3, v4, v5] 35 :: k0I v0 LI :: k1I v1 LI :: k2I v2 LI :: itsI LI :: tpT gB vB leB mB (mapR tx RB) :: rfL gQ mB wF wV RB (k0T v3 LT :: k1T v4 LT :: k2T v5 LT :: itsT LT :: []))
def StQ (gA gP gB gQ gK : Nat) (mA mB : Int) (RA RB : List (Option Int)) (vA vB vF vV wF wV v0 v1 v2 v3 v4 v5 : Value) (leA leB : Nat) (LI : List ItI) (LT : List ItT) : List Part :=
  tpT gB vB leB mB (mapR tx RB) :: rfL gQ mB wF wV RB (bxP gK #[v0, v1, v2, v3, v4, v5] 35 :: k0T v3 LT :: k1T v4 LT :: k2T v5 LT :: itsT LT :: tpI gA vA leA mA RA :: rfL gP mA vF vV RA (k0I v0 LI :: k1I v1 LI :: k2I v2 LI :: itsI LI :: []))
/-- Both pairs of tables, and what is kept. -/
def St (w W : World) (gA gP gB gQ gK : Nat) (mA mB : Int) (n : Nat) : Prop :=
  ∃ RA RB vA vB vF vV wF wV v0 v1 v2 v3 v4 v5 leA leB LI LT, Bds n RA RB LI LT ∧ Sep w W (StP gA gP gB gQ gK mA mB RA RB vA vB vF vV wF wV v0 v1 v2 v3 v4 v5 leA leB LI LT)
section
variable {w W : World} {gA gP gB gQ gK : Nat} {mA mB : Int} {n : Nat} {RA RB : List (Option Int)} {vA vB vF vV wF wV v0 v1 v2 v3 v4 v5 : Value} {leA leB : Nat} {LI : List ItI} {LT : List ItT}
theorem St.toQ (h : Sep w W (StP gA gP gB gQ gK mA mB RA RB vA vB vF vV wF wV v0 v1 v2 v3 v4 v5 leA leB LI LT)) : Sep w W (StQ gA gP gB gQ gK mA mB RA RB vA vB vF vV wF wV v0 v1 v2 v3 v4 v5 leA leB LI LT) :=
  h.perm (perm5 [_, _, _, _] [_] [_, _, _, _] [_, _, _, _] [_, _, _, _])
theorem St.ofQ (h : Sep w W (StQ gA gP gB gQ gK mA mB RA RB vA vB vF vV wF wV v0 v1 v2 v3 v4 v5 leA leB LI LT)) : Sep w W (StP gA gP gB gQ gK mA mB RA RB vA vB vF vV wF wV v0 v1 v2 v3 v4 v5 leA leB LI LT) :=
  h.perm (perm5 [_, _, _, _] [_] [_, _, _, _] [_, _, _, _] [_, _, _, _])
theorem St.later {W' : World} (h : St w W gA gP gB gQ gK mA mB n) (hb : Below W.heap.size W W') : St w W' gA gP gB gQ gK mA mB n := by
  obtain ⟨RA, RB, vA, vB, vF, vV, wF, wV, v0, v1, v2, v3, v4, v5, leA, leB, LI, LT, hB, hs⟩ := h
  exact ⟨RA, RB, vA, vB, vF, vV, wF, wV, v0, v1, v2, v3, v4, v5, leA, leB, LI, LT, hB, hs.later hb⟩
theorem St.more (h : St w W gA gP gB gQ gK mA mB n) {k : Nat} (hk : n ≤ k) : St w W gA gP gB gQ gK mA mB k := by
  obtain ⟨RA, RB, vA, vB, vF, vV, wF, wV, v0, v1, v2, v3, v4, v5, leA, leB, LI, LT, hB, hs⟩ := h
  exact ⟨RA, RB, vA, vB, vF, vV, wF, wV, v0, v1, v2, v3, v4, v5, leA, leB, LI, LT, ⟨Nat.le_trans hB.ra hk, Nat.le_trans hB.rb hk, Nat.le_trans hB.li hk, Nat.le_trans hB.lt hk, hB.bd, hB.ir, hB.tr⟩, hs⟩
variable (a0 kd fd x : Int)
theorem st_ints (h : St w W gA gP gB gQ gK mA mB n) (hn : n ≤ 800000) : Calls Try.prog 11 #[.pointer (some ⟨gK, 0, none⟩), .pointer (some ⟨gA, 0, none⟩), .pointer (some ⟨gP, 0, none⟩), .agg #[.int .i64 a0, .int .i64 kd, .int .i64 fd, .int .i64 x]] W fun e W' => e = .returned (.bool true) ∧ St w W' gA gP gB gQ gK mA mB (n + 1) := by
  have h' := h
  obtain ⟨RA, RB, vA, vB, vF, vV, wF, wV, v0, v1, v2, v3, v4, v5, leA, leB, LI, LT, hB, hs⟩ := h
  have hra : RA.length ≤ 900000 := by have := hB.ra; omega
  have hli : LI.length ≤ 900000 := by have := hB.li; omega
  have hb1 := hB.ra; have hb2 := hB.rb; have hb3 := hB.li; have hb4 := hB.lt
  by_cases k0 : kd = 0
  · subst k0
    refine (actI_open (.pointer (some ⟨gK, 0, none⟩)) a0 x fd hs hra).mono ?_
    rintro e W' ⟨e1, vA', le', vF', vV', s⟩
    exact ⟨e1, _, RB, vA', vB, vF', vV', wF, wV, v0, v1, v2, v3, v4, v5, le', leB, LI, LT, ⟨by have := len_openT RA mA x; omega, by omega, by omega, by omega, hB.bd, hB.ir, hB.tr⟩, s⟩
  by_cases k1 : kd = 1
  · subst k1
    refine (actI_get (.pointer (some ⟨gK, 0, none⟩)) a0 x fd hs hra).mono ?_
    rintro e W' ⟨e1, s⟩
    exact ⟨e1, RA, RB, vA, vB, vF, vV, wF, wV, v0, v1, v2, v3, v4, v5, leA, leB, LI, LT, ⟨by omega, by omega, by omega, by omega, hB.bd, hB.ir, hB.tr⟩, s⟩
  by_cases k2 : kd = 2
  · subst k2
    refine (actI_set (.pointer (some ⟨gK, 0, none⟩)) a0 x fd hs hra).mono ?_
    rintro e W' ⟨e1, vA', le', vF', vV', s⟩
    exact ⟨e1, _, RB, vA', vB, vF', vV', wF, wV, v0, v1, v2, v3, v4, v5, le', leB, LI, LT, ⟨by rw [len_set]; omega, by omega, by omega, by omega, hB.bd, hB.ir, hB.tr⟩, s⟩
  by_cases k3 : kd = 3
  · subst k3
    refine (actI_close (.pointer (some ⟨gK, 0, none⟩)) a0 x fd hs hra).mono ?_
    rintro e W' ⟨e1, vA', le', vF', vV', s⟩
    exact ⟨e1, _, RB, vA', vB, vF', vV', wF, wV, v0, v1, v2, v3, v4, v5, le', leB, LI, LT, ⟨by rw [len_close]; omega, by omega, by omega, by omega, hB.bd, hB.ir, hB.tr⟩, s⟩
  by_cases k4 : kd = 4
  · subst k4
    refine (actI_len (.pointer (some ⟨gK, 0, none⟩)) a0 x fd hs).mono ?_
    rintro e W' ⟨e1, s⟩
    exact ⟨e1, RA, RB, vA, vB, vF, vV, wF, wV, v0, v1, v2, v3, v4, v5, leA, leB, LI, LT, ⟨by omega, by omega, by omega, by omega, hB.bd, hB.ir, hB.tr⟩, s⟩
  by_cases k5 : kd = 5
  · subst k5
    refine (actI_all a0 x fd hs hra hli hB.ir).mono ?_
    rintro e W' ⟨e1, va', vb', vc', L', hl1, hl2, s⟩
    exact ⟨e1, RA, RB, vA, vB, vF, vV, wF, wV, va', vb', vc', v3, v4, v5, leA, leB, L', LT, ⟨by omega, by omega, by omega, by omega, hB.bd, hl2, hB.tr⟩, s⟩
  refine (actI_other (.pointer (some ⟨gK, 0, none⟩)) a0 x fd kd (by omega) _ _).mono ?_
  rintro e W' ⟨e1, hb⟩
  exact ⟨e1, (h'.later hb).more (by omega)⟩
theorem st_texts (h : St w W gA gP gB gQ gK mA mB n) (hn : n ≤ 800000) (hx : -9223372036854775808 ≤ x ∧ x ≤ 9223372036854775807) : Calls Try.prog 12 #[.pointer (some ⟨gK, 0, none⟩), .pointer (some ⟨gB, 0, none⟩), .pointer (some ⟨gQ, 0, none⟩), .agg #[.int .i64 a0, .int .i64 kd, .int .i64 fd, .int .i64 x]] W fun e W' => e = .returned (.bool true) ∧ St w W' gA gP gB gQ gK mA mB (n + 1) := by
  have h' := h
  obtain ⟨RA, RB, vA, vB, vF, vV, wF, wV, v0, v1, v2, v3, v4, v5, leA, leB, LI, LT, hB, hs0⟩ := h
  have hs := St.toQ hs0
  have hra : RB.length ≤ 900000 := by have := hB.rb; omega
  have hli : LT.length ≤ 900000 := by have := hB.lt; omega
  have hb1 := hB.ra; have hb2 := hB.rb; have hb3 := hB.li; have hb4 := hB.lt
  by_cases k0 : kd = 0
  · subst k0
    refine (actT_open (.pointer (some ⟨gK, 0, none⟩)) a0 x fd hs hra hx).mono ?_
    rintro e W' ⟨e1, vB', le', wF', wV', s⟩
    exact ⟨e1, RA, _, vA, vB', vF, vV, wF', wV', v0, v1, v2, v3, v4, v5, leA, le', LI, LT, ⟨by omega, by have := len_openT RB mB x; omega, by omega, by omega, hB.bd.opened mB x hx, hB.ir, hB.tr⟩, St.ofQ s⟩
  by_cases k1 : kd = 1
  · subst k1
    refine (actT_get (.pointer (some ⟨gK, 0, none⟩)) a0 x fd hs hra (hB.bd.get fd)).mono ?_
    rintro e W' ⟨e1, s⟩
    exact ⟨e1, RA, RB, vA, vB, vF, vV, wF, wV, v0, v1, v2, v3, v4, v5, leA, leB, LI, LT, ⟨by omega, by omega, by omega, by omega, hB.bd, hB.ir, hB.tr⟩, St.ofQ s⟩
  by_cases k2 : kd = 2
  · subst k2
    refine (actT_set (.pointer (some ⟨gK, 0, none⟩)) a0 x fd hs hra hx).mono ?_
    rintro e W' ⟨e1, vB', le', wF', wV', s⟩
    exact ⟨e1, RA, _, vA, vB', vF, vV, wF', wV', v0, v1, v2, v3, v4, v5, leA, le', LI, LT, ⟨by omega, by rw [len_set]; omega, by omega, by omega, hB.bd.sets fd x hx, hB.ir, hB.tr⟩, St.ofQ s⟩
  by_cases k3 : kd = 3
  · subst k3
    refine (actT_close (.pointer (some ⟨gK, 0, none⟩)) a0 x fd hs hra (hB.bd.get fd)).mono ?_
    rintro e W' ⟨e1, vB', le', wF', wV', s⟩
    exact ⟨e1, RA, _, vA, vB', vF, vV, wF', wV', v0, v1, v2, v3, v4, v5, leA, le', LI, LT, ⟨by omega, by rw [len_close]; omega, by omega, by omega, hB.bd.closed fd, hB.ir, hB.tr⟩, St.ofQ s⟩
  by_cases k4 : kd = 4
  · subst k4
    refine (actT_len (.pointer (some ⟨gK, 0, none⟩)) a0 x fd hs).mono ?_
    rintro e W' ⟨e1, s⟩
    exact ⟨e1, RA, RB, vA, vB, vF, vV, wF, wV, v0, v1, v2, v3, v4, v5, leA, leB, LI, LT, ⟨by omega, by omega, by omega, by omega, hB.bd, hB.ir, hB.tr⟩, St.ofQ s⟩
  by_cases k5 : kd = 5
  · subst k5
    refine (actT_all a0 x fd hs hra hli hB.bd.mem hB.tr).mono ?_
    rintro e W' ⟨e1, va', vb', vc', L', hl1, hl2, s⟩
    exact ⟨e1, RA, RB, vA, vB, vF, vV, wF, wV, v0, v1, v2, va', vb', vc', leA, leB, LI, L', ⟨by omega, by omega, by omega, by omega, hB.bd, hB.ir, hl2⟩, St.ofQ s⟩
  refine (actT_other (.pointer (some ⟨gK, 0, none⟩)) a0 x fd kd (by omega) _ _).mono ?_
  rintro e W' ⟨e1, hb⟩
  exact ⟨e1, (h'.later hb).more (by omega)⟩
theorem st_again (h : St w W gA gP gB gQ gK mA mB n) (hn : n ≤ 800000) : Calls Try.prog 13 #[.pointer (some ⟨gK, 0, none⟩)] W fun e W' => e = .returned (.bool true) ∧ St w W' gA gP gB gQ gK mA mB n := by
  have h' := h
  obtain ⟨RA, RB, vA, vB, vF, vV, wF, wV, v0, v1, v2, v3, v4, v5, leA, leB, LI, LT, hB, hs⟩ := h
  have hb3 := hB.li; have hb4 := hB.lt
  have s1 : Sep w W (bxP gK #[v0, v1, v2, v3, v4, v5] 35 :: k0I v0 LI :: k1I v1 LI :: k2I v2 LI :: itsI LI :: k0T v3 LT :: k1T v4 LT :: k2T v5 LT :: itsT LT :: _) :=
    (hs.perm (pAB [_, _, _, _] [_, _, _, _, _] _)).perm ((pAB [_, _, _, _, _, _, _, _] [_, _, _, _] []).append_left [_, _, _, _, _])
  refine (again_ok s1 (by omega) (by omega) hB.ir hB.tr).mono ?_
  rintro e W' ⟨e1, hb⟩
  exact ⟨e1, h'.later hb⟩
end
end Go.Proofs.Ytbchbappdpbkiaa
