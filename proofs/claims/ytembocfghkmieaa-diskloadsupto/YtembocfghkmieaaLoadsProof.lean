/- DiskLoadsUptoSaid: for every number of blocks and all cells DiskLoads answers true and leaves its arguments as they were; where what comes in is of bulk at most 1048576. -/
import Derived.Test.YtembocfghkmieaaLawLoads
import Derived.Test.YtembocfghkmieaaOpen
import Derived.Deep.Slices
import Derived.WalkKit
import Derived.ProofKit
import Derived.OpenShut
import Derived.ShutString
import Derived.ChangeOld
import Derived.Below
import Derived.JoinedCond
namespace Go.Proofs.Ytembocfghkmieaa.diskLoads
open Go.ChangeShapes Go.WideShapes Go.ChangeAt Go.RowKit
set_option linter.unusedVariables false

theorem own : ownKnob Try.prog.godebug = none := by kernel_rfl
theorem laidOut : laidOutB Try.prog = true := by kernel_rfl

section
variable {Hh : Type} {enc : TypeId × Value → Hh} {w : World} {base : Nat} {sp : Nat → Bool} {held : Bool} {v : Value} {x : DataW Hh × List MemPlace} {fuel : Nat}
theorem list2 {α : Type} {l : List α} (h : l.length = 2) : ∃ a b, l = [a, b] := by
  match l, h with
  | [a, b], _ => exact ⟨a, b, rfl⟩
theorem cins_of_trod (h : DataW.trod enc Try.prog w base sp held fuel 22 [v] = some x) : ∃ a len cap, v = .slice a len cap ∧ CinsAt w a len ∧ (0 < len → len ≤ Rows.uptoBulk x.1) := by
  rcases Go.Deep.open_slice Try.underlying22 h with ⟨h0, _⟩ | ⟨a, len, cap, m, n, D, Pl, hv, _, hl, hm, hmm, hx0, hc⟩
  · have hv : v = .slice none 0 0 := by simpa using h0
    subst hv
    exact ⟨none, 0, 0, rfl, ⟨by decide, fun r hr => absurd hr (by omega)⟩, fun q => absurd q (Nat.lt_irrefl _)⟩
  · have hv' : v = .slice (some a) len cap := by simpa using hv
    subst hv'
    have hlm : len ≤ m := by rw [hmm]; split <;> omega
    refine ⟨some a, len, cap, rfl, ⟨by unfold maxLen at hm; omega, fun r hr => ?_⟩, fun _ => ?_⟩
    · obtain ⟨cs0, h01, _⟩ := hc 0 (by omega)
      obtain ⟨cs, h1, h2⟩ := hc r (by omega)
      have c81 : Try.prog.cellsOf 62 = 2 := by kernel_rfl
      have c3 : Try.prog.cellsOf 3 = 1 := by kernel_rfl
      have c41 : Try.prog.cellsOf 41 = 1 := by kernel_rfl
      obtain ⟨b, off, rfl, hb⟩ := plain_rows h01 (by rw [c81]; omega)
      rw [c81] at h1
      obtain ⟨_, hlen, hcell⟩ := World.cells?_some h1
      obtain ⟨xs, q, _, _, _, hxl, hf⟩ := DataW.trod_struct Try.underlying62 h2
      obtain ⟨y0, y1, rfl⟩ := list2 (show xs.length = 2 from hxl)
      obtain ⟨v0, v1, rfl⟩ := list2 hlen
      have g0 := hf 0 _ rfl
      have g1 := hf 1 _ rfl
      simp [c3, c41] at g0 g1
      obtain ⟨pos, hp, hp1⟩ := int_of_trod g0 rfl
      obtain ⟨pa, pl, pc, pf, rfl, hlies, hbyte⟩ := bytes_of_trod g1
      have e0 : v0 = .int .i64 pos := by simpa using hp
      subst e0
      have k0 := hcell 0 (by omega)
      have k1 := hcell 1 (by omega)
      rw [add_at] at k0 k1
      exact ⟨b, off, rfl, ⟨⟨pos, pa, pl, pc, pf, hb, k0, k1, hlies, hbyte, hp1⟩⟩⟩
    · rw [hx0]
      have h1 : ∀ l : List (DataW Hh), l.length ≤ Rows.uptoBulkAll l := fun l => by
        induction l with
        | nil => simp [Rows.uptoBulkAll]
        | cons y t ih =>
          have h2 : 1 ≤ Rows.uptoBulk y := by
            cases y with
            | lit l => cases l <;> simp [Rows.uptoBulk]
            | nil => simp [Rows.uptoBulk]
            | ptr d => simp [Rows.uptoBulk]
            | slice elems spare => simp [Rows.uptoBulk]
            | agg parts => simp [Rows.uptoBulk]
            | iface t d => simp [Rows.uptoBulk]
            | map entries => simp [Rows.uptoBulk]
            | held h => simp [Rows.uptoBulk]
          simp only [Rows.uptoBulkAll, List.length_cons]
          omega
      have h3 := h1 ((List.range len).map D)
      rw [List.length_map, List.length_range] at h3
      simp only [Rows.uptoBulk]
      omega
end

set_option maxRecDepth 100000 in
theorem contract (H : Type) (enc : TypeId × Value → H) (W : World) (base : Nat) (args : Array Value) (ds gs : List (DataW H)) (before : List MemPlace)
    (hval0 : ∀ (j : Nat) t v, Try.f4.params[j]? = some t → args[j]? = some v → Value.okWide Try.prog W .any base t v)
    (hW : DataW.Whole enc Try.prog Try.f4.params.toList Rows.diskLoadsSpec.vars false W args.toList ds gs before) (hk : Rows.uptoSmall H (ds ++ gs) = true) :
    Calls Try.prog 4 args W fun e W' => ∃ v, e = .returned v ∧ Rows.diskLoadsSpec.post enc Try.prog Try.f4 false true false false W args v W' := by
  have hval := hval0
  have hW' := hW
  obtain ⟨p, q, hA0, hV, rfl, hfz, hnd⟩ := hW
  have hA : DataW.TrodAll enc Try.prog W 0 (fun _ => true) true Try.f4.params.toList args.toList ds p := hA0
  rw [Try.params4] at hA hval
  obtain ⟨v0, vs0, d0, ds0, p0, q0, hargs, rfl, rfl, h0, r0⟩ := trodAll_cons hA
  obtain ⟨v1, vs1, d1, ds1, p1, q1, rfl, rfl, rfl, h1, r1⟩ := trodAll_cons r0
  obtain ⟨rfl, rfl, rfl⟩ := trodAll_nil r1
  obtain rfl : args = #[v0, v1] := by cases args; simp_all
  obtain ⟨rfl, rfl⟩ := trodVars_none hV
  have lt1 : ∀ x ∈ p1, x.block < W.heap.size := by obtain ⟨m, hm⟩ := h1; exact DataW.trod_lt m _ _ _ hm
  obtain ⟨n0, rfl, rfl, rfl, w0⟩ := open_int Try.underlying3 (hval 0 3 v0 rfl rfl) h0
  obtain ⟨a1, len1, cap1, e1, hst, hlen⟩ : ∃ a len cap, v1 = .slice a len cap ∧ CinsAt W a len ∧ (0 < len → len ≤ Rows.uptoBulk d1) := by
    obtain ⟨a, len, cap, rfl⟩ := okWide_slice Try.underlying22 (hval 1 22 v1 rfl rfl)
    obtain ⟨fuel, hf2⟩ := h1
    obtain ⟨a', len', cap', e', k1, k2⟩ := cins_of_trod (v := .slice a len cap) hf2
    exact ⟨a', len', cap', e', k1, k2⟩
  subst e1
  have hm : len1 ≤ 2000000 := by
    have hb : Rows.uptoBulkAll ([.lit (.int .i64 n0), d1] ++ ([] : List (DataW H))) ≤ 1048576 := of_decide_eq_true hk
    simp only [List.append_nil, Rows.uptoBulkAll] at hb
    by_cases h0 : 0 < len1
    · have := hlen h0
      omega
    · omega
  clear hA0
  obtain ⟨b, off, qf, vf, hq1, hq2⟩ := cins_fn hst
  have hw := loads_walk n0 a1 len1 cap1 b off qf vf W hm hq1 hq2
  refine hw.mono fun e W' ⟨he, bel⟩ => ?_
  subst he
  exact ⟨_, rfl, _, _, _, [], _, [], hW', trodAll_mk1 (shut_bool Try.underlying4 _), (trodAll_cons_mk (shut_int Try.underlying3 w0) (trodAll_cons_mk (Below.trod laidOut (by kernel_rfl) (of_decide_eq_true (by kernel_rfl)) h1 bel lt1) trodAll_mk0)), rfl, bel.frame _, fun h => by cases h⟩

set_option maxRecDepth 100000 in
theorem lifted (os : Os) (started : os.Started) (H : Type) (enc : TypeId × Value → H) (F : Stop.Interp) :
    ReturnsInHanded {} Try.checked os 4 .any ((Rows.OpenSpec.upto Rows.diskLoadsSpec).pre6 enc Try.prog Try.f4 Rows.diskLoadsUptoRow.domain false) (((Rows.OpenSpec.upto Rows.diskLoadsSpec).at F).post enc Try.prog Try.f4 false true false false) := by
  refine returnsInHanded_of_cond (C := Try.checked) (s := Rows.OpenSpec.upto Rows.diskLoadsSpec) (k := Rows.uptoSmall) rfl own started (by kernel_rfl) Try.func4
    (OpenSpec.witness (enc := enc) (C := Try.checked) (s := Rows.OpenSpec.upto Rows.diskLoadsSpec) (k := Rows.uptoSmall) rfl false ⟨#[], #[.int .i64 0, .slice none 0 0], []⟩ 8 (by kernel_rfl) (by kernel_rfl) (by kernel_rfl)
      (x := ([.lit (.int .i64 0), .nil], [], [])) (by kernel_rfl) rfl (by kernel_rfl)) ?_
  intro W base args ds gs before hval hW _ hk _
  exact contract H enc W base args ds gs before hval hW hk

set_option maxRecDepth 100000 in
theorem proved : Rows.DiskLoadsUptoSaid :=
  OpenClaim.holds_of_cond 4 Try.f4 rfl rfl rfl rfl rfl rfl rfl ⟨rfl, rfl, rfl, rfl, rfl⟩ rfl rfl rfl rfl rfl (by kernel_rfl) Try.func4 (by kernel_rfl)
    (of_decide_eq_true (by kernel_rfl)) (by unfold Func.isWrapper; first | (rw [if_pos (by decide +kernel)]; kernel_rfl) | (rw [if_neg (by decide +kernel)]; exact ⟨rfl, rfl⟩))
    (fun os started H enc _ F => lifted os started H enc F)
end Go.Proofs.Ytembocfghkmieaa.diskLoads
namespace Go.Proofs.Ytembocfghkmieaa
theorem diskLoadsUpto_holds : Rows.DiskLoadsUptoSaid := diskLoads.proved
end Go.Proofs.Ytembocfghkmieaa
