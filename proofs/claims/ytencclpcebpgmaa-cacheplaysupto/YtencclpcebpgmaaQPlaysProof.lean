/- CachePlaysUptoSaid: for every disk, both sizes and steps CachePlays answers true and leaves its arguments as they were; where what comes in is of bulk at most 1048576. -/
import Derived.Test.YtencclpcebpgmaaP21
import Derived.Test.YtencclpcebpgmaaP22
import Derived.Deep.Slices
import Derived.WalkKit
import Derived.ProofKit
import Derived.OpenShut
import Derived.ShutString
import Derived.ChangeOld
import Derived.Below
import Derived.JoinedCond
namespace Go.Proofs.Ytencclpcebpgmaa.cachePlays
open Go.ChangeShapes Go.WideShapes Go.ChangeAt Go.RowKit
set_option linter.unusedVariables false

set_option maxRecDepth 100000 in
theorem own : ownKnob Try.prog.godebug = none := by kernel_rfl
set_option maxRecDepth 100000 in
theorem laidOut : laidOutB Try.prog = true := by kernel_rfl
set_option maxRecDepth 100000 in
theorem cells44 : Try.prog.cellsOf 44 = 1 := by kernel_rfl
set_option maxRecDepth 100000 in
theorem cells46 : Try.prog.cellsOf 46 = 4 := by kernel_rfl
set_option maxRecDepth 100000 in
theorem cells5 : Try.prog.cellsOf 5 = 1 := by kernel_rfl
set_option maxRecDepth 100000 in
theorem cells4 : Try.prog.cellsOf 4 = 1 := by kernel_rfl
set_option maxRecDepth 100000 in
theorem cells3 : Try.prog.cellsOf 3 = 1 := by kernel_rfl

section
variable {Hh : Type} {enc : TypeId × Value → Hh} {w w1 : World} {base : Nat} {sp : Nat → Bool} {held : Bool} {r : Reach} {b0 : Nat} {v : Value} {d : DataW Hh} {p : List MemPlace}
set_option maxRecDepth 100000 in
theorem open_u16 {fuel : Nat} {x : DataW Hh × List MemPlace} {a : Option Addr} {len cap : Nat} (h : DataW.trod enc Try.prog w base sp held fuel 22 [.slice a len cap] = some x) : ∃ xs : Nat → Int, U16At w a len xs ∧ ∀ i, 0 ≤ xs i ∧ xs i < 65536 := by
  rcases open_ints Try.underlying22 Try.underlying44 (by kernel_rfl) h with ⟨hcs, _⟩ | ⟨x, l, c, zs, hcs, _, hl, hm, hz, hx, hcell, hwz⟩
  · simp at hcs
    obtain ⟨rfl, rfl, rfl⟩ := hcs
    exact ⟨fun _ => 0, fun i hi => absurd hi (Nat.not_lt_zero _), fun _ => ⟨Int.le_refl _, (by decide : (0 : Int) < 65536)⟩⟩
  · simp at hcs
    obtain ⟨rfl, rfl, rfl⟩ := hcs
    have hz' : len ≤ zs.length := by rw [hz]; split <;> omega
    have hb : ∀ i, 0 ≤ zs.getD i 0 ∧ zs.getD i 0 < 65536 := fun i => by
      by_cases hi : i < zs.length
      · have := bounds_u16 (hwz (zs.getD i 0) (by simp [hi]))
        omega
      · simp [List.getElem?_eq_none (Nat.le_of_not_lt hi)]
    refine ⟨fun i => zs.getD i 0, fun i hi => ?_, hb⟩
    obtain ⟨b, off, rfl, hj⟩ := ints_at hcell (by omega)
    have h1 := hj i (by omega)
    exact ⟨b, off, rfl, block_lt_of_cell h1, h1, hb i⟩
set_option maxRecDepth 100000 in
theorem list4 {α : Type} {l : List α} (h : l.length = 4) : ∃ a b c d, l = [a, b, c, d] := by
  match l, h with
  | [a, b, c, d], _ => exact ⟨a, b, c, d, rfl⟩
set_option maxRecDepth 100000 in
theorem plain_rows {a : Addr} {k : Nat} {cs : List Value} (h : w.cells? base (a.add (0 * k)) k = some cs) (hk : 0 < k) : ∃ b off, a = ⟨b, off, none⟩ ∧ b < w.heap.size := by
  obtain ⟨_, hlen, hcell⟩ := World.cells?_some h
  have h0 := hcell 0 hk
  rw [Nat.zero_mul, Go.Deep.add_add, Nat.add_zero, List.getElem?_eq_getElem (by omega)] at h0
  obtain ⟨b, off, spot⟩ := a
  have hs : spot = none := by simpa [Addr.add] using World.cell?_spot h0
  subst hs
  rw [Go.WideShapes.add_plain] at h0
  exact ⟨b, off, rfl, World.block_lt_of_cell? w _ h0⟩
set_option maxRecDepth 100000 in
theorem add_at {b off i j : Nat} : ((⟨b, off, none⟩ : Addr).add i).add j = ⟨b, off + i + j, none⟩ := by
  rw [Go.WideShapes.add_plain, Go.WideShapes.add_plain]
set_option maxRecDepth 100000 in
theorem open_steps {fuel : Nat} {x : DataW Hh × List MemPlace} (h : DataW.trod enc Try.prog w base sp held fuel 23 [v] = some x) : ∃ a len cap, v = .slice a len cap ∧ StepsAt w a len ∧ (0 < len → 2 * len ≤ Rows.uptoBulk x.1) := by
  rcases Go.Deep.open_slice Try.underlying23 h with ⟨h0, _⟩ | ⟨a, len, cap, m, n, D, Pl, hv, _, hl, hm, hmm, hx0, hc⟩
  · exact ⟨none, 0, 0, by simpa using h0, fun r q => absurd q (Nat.not_lt_zero _), fun q => absurd q (Nat.lt_irrefl _)⟩
  · have hv' : v = .slice (some a) len cap := by simpa using hv
    subst hv'
    have hlm : len ≤ m := by rw [hmm]; split <;> omega
    refine ⟨some a, len, cap, rfl, fun r hr => ?_, fun _ => ?_⟩
    · obtain ⟨cs0, h01, _⟩ := hc 0 (by omega)
      obtain ⟨cs, h1, h2⟩ := hc r (by omega)
      rw [cells46] at h01 h1
      obtain ⟨b, off, rfl, hb⟩ := plain_rows h01 (by omega)
      obtain ⟨_, hlen, hcell⟩ := World.cells?_some h1
      obtain ⟨xs, q, _, _, _, hxl, hf⟩ := DataW.trod_struct Try.underlying46 h2
      obtain ⟨y0, y1, y2, y3, rfl⟩ := list4 (show xs.length = 4 from hxl)
      obtain ⟨v0, v1, v2, v3, rfl⟩ := list4 hlen
      have g0 := hf 0 _ rfl
      have g1 := hf 1 _ rfl
      have g2 := hf 2 _ rfl
      have g3 := hf 3 _ rfl
      simp [cells3, cells4, cells5, cells44] at g0 g1 g2 g3
      obtain ⟨k0, hk0, _, hw0⟩ := DataW.trod_int Try.underlying5 g0
      obtain ⟨k1, hk1, _⟩ := DataW.trod_bool Try.underlying4 g1
      obtain ⟨k2, hk2, _, hw2⟩ := DataW.trod_int Try.underlying3 g2
      obtain ⟨k3, hk3, _, hw3⟩ := DataW.trod_int Try.underlying44 g3
      have e0 : v0 = .int .u8 k0 := by simpa using hk0
      have e1 : v1 = .bool k1 := by simpa using hk1
      have e2 : v2 = .int .i64 k2 := by simpa using hk2
      have e3 : v3 = .int .u16 k3 := by simpa using hk3
      subst e0 e1 e2 e3
      have t0 := hcell 0 (by omega)
      have t1 := hcell 1 (by omega)
      have t2 := hcell 2 (by omega)
      have t3 := hcell 3 (by omega)
      rw [add_at] at t0 t1 t2 t3
      exact ⟨b, off, rfl, ⟨⟨k0, k1, k2, k3, hb, t0, t1, t2, t3, bounds_u8 hw0, bounds_i64 hw2, by have := bounds_u16 hw3; omega⟩⟩⟩
    · rw [hx0]
      have g1 : ∀ y : DataW Hh, 1 ≤ Rows.uptoBulk y := fun y => by
        cases y with
        | lit l => cases l <;> simp [Rows.uptoBulk]
        | nil => simp [Rows.uptoBulk]
        | ptr d => simp [Rows.uptoBulk]
        | slice elems spare => simp [Rows.uptoBulk]
        | agg parts => simp [Rows.uptoBulk]
        | iface t d => simp [Rows.uptoBulk]
        | map entries => simp [Rows.uptoBulk]
        | held h => simp [Rows.uptoBulk]
      have h1 : ∀ l : List (DataW Hh), (∀ y ∈ l, 2 ≤ Rows.uptoBulk y) → 2 * l.length ≤ Rows.uptoBulkAll l := fun l => by
        induction l with
        | nil => simp [Rows.uptoBulkAll]
        | cons y t ih =>
          intro hl
          have h2 := hl y (by simp)
          have h3 := ih fun z hz => hl z (by simp [hz])
          simp only [Rows.uptoBulkAll, List.length_cons]
          omega
      have h3 := h1 ((List.range len).map D) fun y hy => by
        obtain ⟨r, hr, rfl⟩ := List.mem_map.1 hy
        have hr' : r < len := List.mem_range.1 hr
        obtain ⟨cs, h1, h2⟩ := hc r (by omega)
        obtain ⟨xs, q, _, he, _, hxl, hf⟩ := DataW.trod_struct Try.underlying46 h2
        obtain ⟨y0, y1, y2, y3, rfl⟩ := list4 (show xs.length = 4 from hxl)
        have e := congrArg Prod.fst he
        simp only [List.map_cons, List.map_nil] at e
        rw [e]
        simp only [Rows.uptoBulk, Rows.uptoBulkAll]
        have := g1 y0.1
        omega
      rw [List.length_map, List.length_range] at h3
      simp only [Rows.uptoBulk]
      omega
end

set_option maxRecDepth 100000 in
theorem contract (H : Type) (enc : TypeId × Value → H) (W : World) (base : Nat) (args : Array Value) (ds gs : List (DataW H)) (before : List MemPlace)
    (hval0 : ∀ (j : Nat) t v, Try.f3.params[j]? = some t → args[j]? = some v → Value.okWide Try.prog W .any base t v)
    (hW : DataW.Whole enc Try.prog Try.f3.params.toList Rows.cachePlaysSpec.vars false W args.toList ds gs before) (hk : Rows.uptoSmall H (ds ++ gs) = true) :
    Calls Try.prog 3 args W fun e W' => ∃ v, e = .returned v ∧ Rows.cachePlaysSpec.post enc Try.prog Try.f3 false true false false W args v W' := by
  have hval := hval0
  have hW' := hW
  obtain ⟨p, q, hA0, hV, rfl, hfz, hnd⟩ := hW
  have hA : DataW.TrodAll enc Try.prog W 0 (fun _ => true) true Try.f3.params.toList args.toList ds p := hA0
  rw [Try.params3] at hA hval
  obtain ⟨v0, vs0, d0, ds0, p0, q0, hargs, rfl, rfl, h0, r0⟩ := trodAll_cons hA
  obtain ⟨v1, vs1, d1, ds1, p1, q1, rfl, rfl, rfl, h1, r1⟩ := trodAll_cons r0
  obtain ⟨v2, vs2, d2, ds2, p2, q2, rfl, rfl, rfl, h2, r2⟩ := trodAll_cons r1
  obtain ⟨v3, vs3, d3, ds3, p3, q3, rfl, rfl, rfl, h3, r3⟩ := trodAll_cons r2
  obtain ⟨rfl, rfl, rfl⟩ := trodAll_nil r3
  obtain rfl : args = #[v0, v1, v2, v3] := by cases args; simp_all
  obtain ⟨rfl, rfl⟩ := trodVars_none hV
  have lt0 : ∀ x ∈ p0, x.block < W.heap.size := by obtain ⟨m, hm⟩ := h0; exact DataW.trod_lt m _ _ _ hm
  have lt1 : ∀ x ∈ p1, x.block < W.heap.size := by obtain ⟨m, hm⟩ := h1; exact DataW.trod_lt m _ _ _ hm
  have lt2 : ∀ x ∈ p2, x.block < W.heap.size := by obtain ⟨m, hm⟩ := h2; exact DataW.trod_lt m _ _ _ hm
  have lt3 : ∀ x ∈ p3, x.block < W.heap.size := by obtain ⟨m, hm⟩ := h3; exact DataW.trod_lt m _ _ _ hm
  obtain ⟨a0, len0, cap0, rfl⟩ := okWide_slice Try.underlying22 (hval 0 22 v0 rfl rfl)
  obtain ⟨xs, hxs, hxb⟩ : ∃ xs : Nat → Int, U16At W a0 len0 xs ∧ ∀ i, 0 ≤ xs i ∧ xs i < 65536 := by
    obtain ⟨fuel, hf0⟩ := h0
    exact open_u16 hf0
  obtain ⟨xx, rfl, hxx⟩ : ∃ xx, v1 = .int .i64 xx ∧ I64 xx := by
    obtain ⟨a0, e0, _, _, w0⟩ := open_int Try.underlying3 (hval 1 3 v1 rfl rfl) h1
    exact ⟨a0, e0, bounds_i64 w0⟩
  obtain ⟨yy, rfl, hyy⟩ : ∃ xx, v2 = .int .i64 xx ∧ I64 xx := by
    obtain ⟨a0, e0, _, _, w0⟩ := open_int Try.underlying3 (hval 2 3 v2 rfl rfl) h2
    exact ⟨a0, e0, bounds_i64 w0⟩
  obtain ⟨a2, len2, cap2, e2, hst, hlen⟩ : ∃ a len cap, v3 = .slice a len cap ∧ StepsAt W a len ∧ (0 < len → 2 * len ≤ Rows.uptoBulk d3) := by
    obtain ⟨a, len, cap, rfl⟩ := okWide_slice Try.underlying23 (hval 3 23 v3 rfl rfl)
    obtain ⟨fuel, hf2⟩ := h3
    obtain ⟨a', len', cap', e', k1, k2⟩ := open_steps (v := .slice a len cap) hf2
    exact ⟨a', len', cap', e', k1, k2⟩
  subst e2
  have hm : len2 ≤ 900000 := by
    have hb : Rows.uptoBulkAll ([d0, d1, d2, d3] ++ ([] : List (DataW H))) ≤ 1048576 := of_decide_eq_true hk
    simp only [List.append_nil, Rows.uptoBulkAll] at hb
    by_cases h0 : 0 < len2
    · have := hlen h0
      omega
    · omega
  clear hA0
  have hw := law_plays awake_any a0 len0 cap0 xs hxs hxb xx yy a2 len2 cap2 hm hst
  refine hw.mono fun e W' ⟨he, bel⟩ => ?_
  subst he
  exact ⟨_, rfl, _, _, _, [], _, [], hW', trodAll_mk1 (shut_bool Try.underlying4 _), (trodAll_cons_mk (Below.trod laidOut (by kernel_rfl) (of_decide_eq_true (by kernel_rfl)) h0 bel lt0) (trodAll_cons_mk (Below.trod laidOut (by kernel_rfl) (of_decide_eq_true (by kernel_rfl)) h1 bel lt1) (trodAll_cons_mk (Below.trod laidOut (by kernel_rfl) (of_decide_eq_true (by kernel_rfl)) h2 bel lt2) (trodAll_cons_mk (Below.trod laidOut (by kernel_rfl) (of_decide_eq_true (by kernel_rfl)) h3 bel lt3) trodAll_mk0)))), rfl, bel.frame _, fun h => by cases h⟩

set_option maxRecDepth 100000 in
theorem lifted (os : Os) (started : os.Started) (H : Type) (enc : TypeId × Value → H) (F : Stop.Interp) :
    ReturnsInHanded {} Try.checked os 3 .any ((Rows.OpenSpec.upto Rows.cachePlaysSpec).pre6 enc Try.prog Try.f3 Rows.cachePlaysUptoRow.domain false) (((Rows.OpenSpec.upto Rows.cachePlaysSpec).at F).post enc Try.prog Try.f3 false true false false) := by
  refine returnsInHanded_of_cond (C := Try.checked) (s := Rows.OpenSpec.upto Rows.cachePlaysSpec) (k := Rows.uptoSmall) rfl own started (by kernel_rfl) Try.func3
    (OpenSpec.witness (enc := enc) (C := Try.checked) (s := Rows.OpenSpec.upto Rows.cachePlaysSpec) (k := Rows.uptoSmall) rfl false ⟨#[], #[.slice none 0 0, .int .i64 0, .int .i64 0, .slice none 0 0], []⟩ 8 (by kernel_rfl) (by kernel_rfl) (by kernel_rfl)
      (x := ([.nil, .lit (.int .i64 0), .lit (.int .i64 0), .nil], [], [])) (by kernel_rfl) rfl (by kernel_rfl)) ?_
  intro W base args ds gs before hval hW _ hk _
  exact contract H enc W base args ds gs before hval hW hk

set_option maxRecDepth 100000 in
theorem proved : Rows.CachePlaysUptoSaid :=
  OpenClaim.holds_of_cond 3 Try.f3 rfl rfl rfl rfl rfl rfl rfl ⟨rfl, rfl, rfl, rfl, rfl⟩ rfl rfl rfl rfl rfl (by kernel_rfl) Try.func3 (by kernel_rfl)
    (of_decide_eq_true (by kernel_rfl)) (by unfold Func.isWrapper; first | (rw [if_pos (by decide +kernel)]; kernel_rfl) | (rw [if_neg (by decide +kernel)]; exact ⟨rfl, rfl⟩))
    (fun os started H enc _ F => lifted os started H enc F)
end Go.Proofs.Ytencclpcebpgmaa.cachePlays
namespace Go.Proofs.Ytencclpcebpgmaa
set_option maxRecDepth 100000 in
theorem cachePlaysUpto_holds : Rows.CachePlaysUptoSaid := cachePlays.proved
end Go.Proofs.Ytencclpcebpgmaa
