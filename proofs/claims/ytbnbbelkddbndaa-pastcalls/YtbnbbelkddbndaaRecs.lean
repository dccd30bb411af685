/- Lists of ops: one behind the other, appended; whether a scene is larger than is gone through; no condition but a bound that no list here passes. -/
import Derived.Test.YtbnbbelkddbndaaCutMath
import Derived.Test.YtbnbbelkddbndaaLives
import Derived.Deep.Upon
namespace Go.Proofs.Ytbnbbelkddbndaa
open Go.RowKit Go.Maps
theorem recs_cells {w : World} {b off : Nat} {m : List Rec} (h : RecsAt w b off m) : ∀ j u, (opCells m)[j]? = some u → w.cell? ⟨b, off + j, none⟩ = some u := fun j u hu => by
  have hj : j < m.length * 1026 := by have := (List.getElem?_eq_some_iff.1 hu).1; rwa [opCells_len] at this
  have hd : j / 1026 < m.length := Nat.div_lt_of_lt_mul (by rw [Nat.mul_comm]; exact hj)
  have hr : m[j / 1026]? = some m[j / 1026] := List.getElem?_eq_getElem hd
  have hm := Nat.mod_lt j (show 0 < 1026 by omega)
  have e : j = j / 1026 * 1026 + j % 1026 := by have := Nat.div_add_mod j 1026; omega
  obtain ⟨h1, h2, h3⟩ := h _ _ hr
  have hg := opCells_get m (j / 1026) (j % 1026) _ hr hm
  rw [← e, hu] at hg
  generalize m[j / 1026] = r at *
  generalize j / 1026 = i at *
  generalize j % 1026 = t at *
  subst e
  cases t with
  | zero =>
    have e : u = Value.int .u8 r.kind := by
      have h : some u = (recCells r)[0]? := hg
      exact Option.some.inj (h.trans rfl)
    rw [e, Nat.add_zero]
    exact h1
  | succ t =>
    cases t with
    | zero =>
      have e : u = Value.int .i64 r.pos := by
        have h : some u = (recCells r)[1]? := hg
        exact Option.some.inj (h.trans rfl)
      rw [e, show off + (i * 1026 + (0 + 1)) = off + i * 1026 + 1 by omega]
      exact h2
    | succ t =>
      have e : (blk r.dat).toList[t]? = some u := by
        rw [hg]
        simp only [recCells, List.getElem?_cons_succ]
      have := h3 t u e
      rw [show off + (i * 1026 + (t + 1 + 1)) = off + i * 1026 + 2 + t by omega]
      exact this
theorem load42 {w : World} {b off k : Nat} {m : List Rec} {r : Rec} (h : RecsAt w b off m) (hr : m[k]? = some r) : (Instr.loadAt 42 (.pointer (some ⟨b, off + k * 1026, none⟩))).run Try.prog w = .ok (.agg (recCells r).toArray) w := by
  refine run_loadAt_mid (P := Try.prog) w b (off + k * 1026) 42 (recCells r) _ (fun j v hv => ?_) Try.underlying42 rfl (by rw [recCells_len]; exact size108)
  have hj : j < 1026 := by have := (List.getElem?_eq_some_iff.1 hv).1; rwa [recCells_len] at this
  have hg := opCells_get m k j r hr hj
  rw [hv] at hg
  have := recs_cells h (k * 1026 + j) v hg
  rwa [← Nat.add_assoc] at this
section
variable {ops : Array Oper} {rest : List Oper} {o : Oper} {a : Act} {w : World} {Q : Exit → Act → World → Prop}
theorem wpList_load42A (hgd : o.guard = none) (x : Operand) (ho : o.op = .load 42 x) (p : Value) (R : Array Value) (hx : a.eval x = p) (hr : (Instr.loadAt 42 p).run Try.prog w = .ok (.agg R) w)
    (h : wpList Try.prog ops Q rest (a.put o.dst (.agg R)) w) : wpList Try.prog ops Q (o :: rest) a w :=
  wpList_plain hgd fun _ hK => by
    unfold Oper.wp execOp
    simp only [ho, hx, hr, Sem.run_bind, Result.andThen_ok, Sem.run_pure]
    exact hK _ _ h
theorem appendR_run {B : Nat} {v : Value} {l m : List Rec} {q : Option Addr} {cq : Nat} (hown : w.ownsRow B 42 1026 v l.length (opCells l)) (hm : OpsAt w q m) (hn : l.length + m.length ≤ 100000) (hB : B ≤ w.heap.size) (ty : TypeId) :
    ∃ v' w', (Builtin.append_ #[25, 25] ty #[v, .slice q m.length cq]).run Try.prog w = .ok v' w' ∧ w'.ownsRow B 42 1026 v' (l ++ m).length (opCells (l ++ m)) ∧ Fr (fun i => v.ownBlock = some i) w w' := by
  obtain ⟨i0, hi0, hz0, hz1, hz2⟩ := info_parts info108
  by_cases h0 : 0 < m.length
  · obtain ⟨b, off, rfl, hlt, hR⟩ := hm h0
    obtain ⟨v', w', hr, h1, h2, _⟩ := run_append_own_at (P := Try.prog) w B 25 ty 42 i0 _ 1026 1040 Try.underlying25 hi0 hz0 hz1 hz2 (rec_size _) (by decide) v l.length _ hown ⟨b, off, none⟩ m.length cq (opCells m) (by rw [opCells_len]) (fun j u hu => by rw [Go.WideShapes.add_plain]; exact recs_cells hR j u hu)
      (fun u hu => by
        unfold opCells at hu
        obtain ⟨r, _, hr⟩ := List.mem_flatMap.1 hu
        exact recCells_one r u hr) (by unfold maxLen; omega) (by omega) hB
    refine ⟨v', w', hr, ?_, Fr.ofGrown h2⟩
    rw [List.length_append, opCells_append]
    exact h1
  · have e : m = [] := List.eq_nil_of_length_eq_zero (by omega)
    subst e
    refine ⟨v, w, ?_, by rw [List.append_nil]; exact hown, Fr.refl _ _⟩
    obtain ⟨p, c, hv, hc⟩ : ∃ p c, v = .slice p l.length c ∧ l.length ≤ c := by
      rcases hown.2 with ⟨h1, h2⟩ | ⟨g, cap, cur, h1, _, _, hc, _⟩
      · exact ⟨none, 0, by rw [h1, h2], by omega⟩
      · exact ⟨_, cap, h1, hc⟩
    subst hv
    refine run_append_nothing (P := Try.prog) w 25 25 ty 42 i0 Try.underlying25 hi0 p l.length c hc _ ?_
    cases q with
    | none => exact Src.ofNil w Try.underlying25 cq
    | some ad => exact Src.ofSlice w Try.underlying25 ad 0 cq [] (by simp) (fun j u hu => by simp at hu) (fun u hu => by simp at hu)
theorem wpList_appendR (hgd : o.guard = none) (s x : Operand) (ho : o.op = .call { callee := .builtin .append, args := #[s, x], argTypes := #[25, 25] }) (B : Nat) (v : Value) (l m : List Rec) (q : Option Addr) (cq : Nat) (hs : a.eval s = v) (hx : a.eval x = .slice q m.length cq)
    (hown : w.ownsRow B 42 1026 v l.length (opCells l)) (hm : OpsAt w q m) (hn : l.length + m.length ≤ 100000) (hB : B ≤ w.heap.size)
    (h : ∀ v' w', w'.ownsRow B 42 1026 v' (l ++ m).length (opCells (l ++ m)) → Fr (fun i => v.ownBlock = some i) w w' → wpList Try.prog ops Q rest (a.put o.dst v') w') : wpList Try.prog ops Q (o :: rest) a w := by
  refine wpList_plain hgd fun K' hK' => ?_
  obtain ⟨v', w', hr, h1, h2⟩ := appendR_run (cq := cq) hown hm hn hB o.type
  unfold Oper.wp execOp
  simp only [ho, resolve, invoke, builtin, Sem.run_bind, Sem.run_pure, Result.andThen_ok, List.map_toArray, List.map_cons, List.map_nil, hs, hx, hr]
  exact hK' _ _ (h v' w' h1 h2)
end
/-- A row of ops that the law has made itself. -/
theorem own_ops {w : World} {B : Nat} {v : Value} {l : List Rec} (h : w.ownsRow B 42 1026 v l.length (opCells l)) : ∃ p c, v = .slice p l.length c ∧ l.length ≤ c ∧ OpsAt w p l ∧ (∀ g, v.ownBlock = some g → B ≤ g ∧ g < w.heap.size) := by
  rcases h.2 with ⟨h1, h2⟩ | ⟨g, cap, cur, h1, hg, hh, hc, hm, hs, ht⟩
  · exact ⟨none, 0, by rw [h1, h2], by omega, fun q => by omega, h.lt⟩
  · refine ⟨_, cap, h1, hc, fun _ => ⟨g, 0, rfl, (Array.getElem?_eq_some_iff.1 hh).1, fun k r hr => ?_⟩, h.lt⟩
    have key : ∀ j, j < 1026 → w.cell? ⟨g, 0 + k * 1026 + j, none⟩ = (recCells r)[j]? := fun j hj => by
      have hlt : k < l.length := (List.getElem?_eq_some_iff.1 hr).1
      have hin : k * 1026 + j < l.length * 1026 := by simp only [Nat.mul_comm _ 1026] at *; omega
      rw [Nat.zero_add, cell_of_row w g _ cur 42 _ hh, ← Array.getElem?_toList, ← opCells_get _ k j r hr hj, ← ht, List.getElem?_take_of_lt hin]
    refine ⟨(key 0 (by omega)).trans rfl, (key 1 (by omega)).trans rfl, fun j v hv => ?_⟩
    have hj : j < 1024 := by have := (List.getElem?_eq_some_iff.1 hv).1; rwa [blk_list_len] at this
    rw [show 0 + k * 1026 + 2 + j = 0 + k * 1026 + (j + 2) by omega, key (j + 2) (by omega)]
    rw [show (recCells r)[j + 2]? = (blk r.dat).toList[j]? by simp only [recCells, List.getElem?_cons_succ]]
    exact hv
/-- A scene, as it comes. -/
def sceneV (n : Int) (p : Option Addr) (a cp : Nat) (po : Option Addr) (b co : Nat) (k : Int) (ka : Option Addr) (c kc : Nat) (q : Int) : Array Value := #[.int .i64 n, .slice p a cp, .slice po b co, .int .i64 k, .slice ka c kc, .int .i64 q]
def largeB (a b c : Nat) : Bool := decide (120 < a) || (decide (120 < b) || decide (120 < c))
set_option maxRecDepth 20000 in
theorem large_any (n : Int) (p : Option Addr) (a cp : Nat) (po : Option Addr) (b co : Nat) (k : Int) (ka : Option Addr) (c kc : Nat) (q : Int) (w : World) (ha : a ≤ 9223372036854775807) (hb : b ≤ 9223372036854775807) (hc : c ≤ 9223372036854775807) :
    Calls Try.prog 9 #[.agg (sceneV n p a cp po b co k ka c kc q)] w fun e w' => e = .returned (.bool (largeB a b c)) ∧ Below w.heap.size w w' := by
  have hB := below_new w (.cells (sceneV n p a cp po b co k ka c kc q) 28)
  unfold sceneV at *
  by_cases h1 : (a : Int) > 120
  · have e : largeB a b c = true := by unfold largeB; simp; omega
    rw [e]
    go_enter Try.func9, Try.ntmps9
    go_wp2
    go_ret
    exact ⟨rfl, hB⟩
  · by_cases h2 : (b : Int) > 120
    · have e : largeB a b c = true := by unfold largeB; simp; omega
      rw [e]
      go_enter Try.func9, Try.ntmps9
      go_wp2
      go_ret
      exact ⟨rfl, hB⟩
    · by_cases h3 : (c : Int) > 120
      · have e : largeB a b c = true := by unfold largeB; simp; omega
        rw [e]
        go_enter Try.func9, Try.ntmps9
        go_wp2
        go_ret
        exact ⟨rfl, hB⟩
      · have e : largeB a b c = false := by unfold largeB; simp; omega
        rw [e]
        go_enter Try.func9, Try.ntmps9
        go_wp2
        go_ret
        exact ⟨rfl, hB⟩
theorem pick_any (i n : Int) (hn : 1 ≤ n ∧ n ≤ 1048576) (w : World) : Calls Try.prog 17 #[.int .i64 i, .int .i64 n] w fun e w' => e = .returned (.int .i64 (i % n)) ∧ w' = w := by
  have h0 : n ≠ 0 := by omega
  have hb : -n < Int.tmod i n ∧ Int.tmod i n < n := by
    have h1 := Int.natAbs_tmod i n
    have h2 : (Int.tmod i n).natAbs < n.natAbs := by
      rw [Int.natAbs_tmod]
      exact Nat.mod_lt _ (by omega)
    omega
  have hw : IntKind.i64.wrap (Int.tmod i n) = Int.tmod i n := by rw [IntKind.wrap_i64]; omega
  have hm : Int.tmod i n % n = i % n := by
    have h1 := Int.tmod_add_mul_tdiv i n
    have h2 : i % n = (Int.tmod i n + n * Int.tdiv i n) % n := by rw [h1]
    rw [h2, Int.add_mul_emod_self_left]
  by_cases hneg : Int.tmod i n < 0
  · have he : Int.tmod i n + n = i % n := by
      rw [← hm, ← Int.add_emod_right, Int.emod_eq_of_lt (by omega) (by omega)]
    have hw2 : IntKind.i64.wrap (Int.tmod i n + n) = Int.tmod i n + n := by rw [IntKind.wrap_i64]; omega
    rw [← he]
    clear hm he
    go_enter Try.func17, Try.ntmps17
    go_wp2
    go_ret
    exact ⟨rfl, rfl⟩
  · have he : Int.tmod i n = i % n := by rw [← hm, Int.emod_eq_of_lt (by omega) (by omega)]
    rw [← he]
    clear hm he
    go_enter Try.func17, Try.ntmps17
    go_wp2
    go_ret
    exact ⟨rfl, rfl⟩
end Go.Proofs.Ytbnbbelkddbndaa
