/- DiskScriptUptoSaid: for all numbers of blocks, all cells and all calls of a script DiskScript answers true and leaves its arguments as they were; where what comes in is of bulk at most 1048576. -/
import Derived.Test.YtembocfghkmieaaK17
import Derived.Test.YtembocfghkmieaaK5
import Derived.Deep.Slices
import Derived.WalkKit
import Derived.ProofKit
import Derived.OpenShut
import Derived.ShutString
import Derived.ChangeOld
import Derived.Below
import Derived.JoinedCond
namespace Go.Proofs.Ytembocfghkmieaa.diskScript
open Go.ChangeShapes Go.WideShapes Go.ChangeAt Go.RowKit
set_option linter.unusedVariables false

theorem own : ownKnob Try.prog.godebug = none := by kernel_rfl
theorem laidOut : laidOutB Try.prog = true := by kernel_rfl

section
variable {Hh : Type} {enc : TypeId × Value → Hh} {w : World} {base : Nat} {sp : Nat → Bool} {held : Bool} {v : Value} {x : DataW Hh × List MemPlace} {fuel : Nat}
theorem bulk_one (y : DataW Hh) : 1 ≤ Rows.uptoBulk y := by
  cases y with
  | lit l => cases l <;> simp [Rows.uptoBulk]
  | nil => simp [Rows.uptoBulk]
  | ptr d => simp [Rows.uptoBulk]
  | slice elems spare => simp [Rows.uptoBulk]
  | agg parts => simp [Rows.uptoBulk]
  | iface t d => simp [Rows.uptoBulk]
  | map entries => simp [Rows.uptoBulk]
  | held h => simp [Rows.uptoBulk]
theorem bulk_len : ∀ l : List (DataW Hh), l.length ≤ Rows.uptoBulkAll l
  | [] => by simp [Rows.uptoBulkAll]
  | y :: t => by
    have h2 := bulk_one y
    have ih := bulk_len t
    simp only [Rows.uptoBulkAll, List.length_cons]
    omega
theorem bulk_mem : ∀ {l : List (DataW Hh)} {y : DataW Hh}, y ∈ l → Rows.uptoBulk y ≤ Rows.uptoBulkAll l
  | x :: t, y, h => by
    simp only [Rows.uptoBulkAll]
    rcases List.mem_cons.1 h with rfl | h
    · omega
    · have := bulk_mem h
      omega
theorem bools_bulk (h : DataW.trod enc Try.prog w base sp held fuel 42 [v] = some x) : ∃ a cap l, v = .slice a (List.length l) cap ∧ BoolsAt w v l ∧ l.length ≤ Rows.uptoBulk x.1 := by
  rcases Go.Deep.open_slice1 Try.underlying42 (by kernel_rfl) h with ⟨h0, _⟩ | ⟨a, len, cap, m, n, V, D, Pl, hv, _, hl, hm, hmm, hx0, hc⟩
  · have hv : v = .slice none 0 0 := by simpa using h0
    subst hv
    exact ⟨none, 0, [], rfl, bools_nil w, by simp⟩
  · have hv' : v = .slice (some a) len cap := by simpa using hv
    subst hv'
    have hlm : len ≤ m := by rw [hmm]; split <;> omega
    have key : ∀ i, ∃ z : Bool, (i < len → w.cell? (a.add i) = some (.bool z)) := fun i => by
      by_cases hi : i < len
      · obtain ⟨h1, h2⟩ := hc i (by omega)
        obtain ⟨z, hz, _⟩ := DataW.trod_bool Try.underlying4 h2
        have hz' : V i = .bool z := by simpa using hz
        exact ⟨z, fun _ => by rw [h1, hz']⟩
      · exact ⟨false, fun q => absurd q hi⟩
    obtain ⟨f, hf⟩ := Classical.skolem.1 key
    have hll : ((List.range len).map f).length = len := by simp
    refine ⟨some a, cap, (List.range len).map f, by rw [hll], ⟨some a, cap, by rw [hll], fun h0 => ?_⟩, by rw [hll, hx0]; have := bulk_len ((List.range len).map D); rw [List.length_map, List.length_range] at this; simp only [Rows.uptoBulk]; omega⟩
    rw [hll] at h0
    obtain ⟨b, off, rfl, hb⟩ := plain_addr (hf 0 (by omega))
    refine ⟨b, off, rfl, fun i x hx => ?_⟩
    have hi : i < len := by have := (List.getElem?_eq_some_iff.1 hx).1; rwa [hll] at this
    have q := hf i hi
    rw [Go.WideShapes.add_plain] at q
    rw [q]
    rw [List.getElem?_map, List.getElem?_range hi] at hx
    exact congrArg some (congrArg Value.bool (by simpa using hx))
theorem acts_bulk (h : DataW.trod enc Try.prog w base sp held fuel 23 [v] = some x) (hk : Rows.uptoBulk x.1 ≤ 1048576) : ∃ a len cap, v = .slice a len cap ∧ len ≤ 1048576 ∧ ∀ r, r < len → ∃ b off, a = some ⟨b, off, none⟩ ∧ Nonempty (ActQ w b (off + r * 6)) := by
  rcases Go.Deep.open_slice Try.underlying23 h with ⟨h0, _⟩ | ⟨a, len, cap, m, n, D, Pl, hv, _, hl, hm, hmm, hx0, hc⟩
  · have hv : v = .slice none 0 0 := by simpa using h0
    subst hv
    exact ⟨none, 0, 0, rfl, by decide, fun r hr => absurd hr (by omega)⟩
  · have hv' : v = .slice (some a) len cap := by simpa using hv
    subst hv'
    have hlm : len ≤ m := by rw [hmm]; split <;> omega
    have hbl := bulk_len ((List.range len).map D)
    rw [List.length_map, List.length_range] at hbl
    rw [hx0] at hk
    simp only [Rows.uptoBulk] at hk
    refine ⟨some a, len, cap, rfl, by omega, fun r hr => ?_⟩
    obtain ⟨cs0, h01, _⟩ := hc 0 (by omega)
    obtain ⟨cs, h1, h2⟩ := hc r (by omega)
    have c44 : Try.prog.cellsOf 44 = 6 := by kernel_rfl
    have c3 : Try.prog.cellsOf 3 = 1 := by kernel_rfl
    have c41 : Try.prog.cellsOf 41 = 1 := by kernel_rfl
    have c42 : Try.prog.cellsOf 42 = 1 := by kernel_rfl
    obtain ⟨b, off, rfl, hb⟩ := plain_rows h01 (by rw [c44]; omega)
    rw [c44] at h1
    obtain ⟨_, hlen, hcell⟩ := World.cells?_some h1
    obtain ⟨xs, q, _, hxe, _, hxl, hf⟩ := DataW.trod_struct Try.underlying44 h2
    have hDr : D r = .agg (xs.map (·.1)) := congrArg (·.1) hxe
    have hmem : D r ∈ (List.range len).map D := List.mem_map.2 ⟨r, List.mem_range.2 hr, rfl⟩
    have hb1 := bulk_mem hmem
    rw [hDr] at hb1
    simp only [Rows.uptoBulk] at hb1
    obtain ⟨y0, y1, y2, y3, y4, y5, rfl⟩ := list6 (show xs.length = 6 from hxl)
    obtain ⟨v0, v1, v2, v3, v4, v5, rfl⟩ := list6 hlen
    have g0 := hf 0 _ rfl
    have g1 := hf 1 _ rfl
    have g2 := hf 2 _ rfl
    have g3 := hf 3 _ rfl
    have g4 := hf 4 _ rfl
    have g5 := hf 5 _ rfl
    simp [c3, c41, c42] at g0 g1 g2 g3 g4 g5
    obtain ⟨o, ho, ho1⟩ := int_of_trod g0 rfl
    obtain ⟨k, hk, hk1⟩ := int_of_trod g1 rfl
    obtain ⟨pos, hp, hp1⟩ := int_of_trod g2 rfl
    obtain ⟨n', hn, hn1⟩ := int_of_trod g4 rfl
    obtain ⟨pa, pl, pc, pf, rfl, hlies, hbyte⟩ := bytes_of_trod g3
    have hb2 : Rows.uptoBulk y5.1 ≤ Rows.uptoBulkAll ([y0, y1, y2, y3, y4, y5].map (·.1)) := bulk_mem (by simp)
    obtain ⟨ka, kc, kl, rfl, hbools, hkl⟩ := bools_bulk g5
    have e0 : v0 = .int .i64 o := by simpa using ho
    have e1 : v1 = .int .i64 k := by simpa using hk
    have e2 : v2 = .int .i64 pos := by simpa using hp
    have e4 : v4 = .int .i64 n' := by simpa using hn
    subst e0 e1 e2 e4
    have k0 := hcell 0 (by omega)
    have k1 := hcell 1 (by omega)
    have k2 := hcell 2 (by omega)
    have k3 := hcell 3 (by omega)
    have k4 := hcell 4 (by omega)
    have k5 := hcell 5 (by omega)
    rw [add_at] at k0 k1 k2 k3 k4 k5
    refine ⟨b, off, rfl, ⟨⟨o, k, pos, n', .slice pa pl pc, .slice ka kl.length kc, hb, fun j u hu => ?_, ho1, ⟨hn1.2, ⟨cinB pf pl, cinB_can hbyte pl, fun V hV => block_cin (hlies.later hV)⟩, ⟨ka, kc, kl, rfl, hbools, by omega⟩⟩⟩⟩⟩
    match j, hu with
    | 0, hu => cases hu; exact k0
    | 1, hu => cases hu; exact k1
    | 2, hu => cases hu; exact k2
    | 3, hu => cases hu; exact k3
    | 4, hu => cases hu; exact k4
    | 5, hu => cases hu; exact k5
    | n + 6, hu => simp [actC] at hu
theorem list2 {α : Type} {l : List α} (h : l.length = 2) : ∃ a b, l = [a, b] := by
  match l, h with
  | [a, b], _ => exact ⟨a, b, rfl⟩
theorem cins_of_trod (h : DataW.trod enc Try.prog w base sp held fuel 22 [v] = some x) : ∃ a len cap, v = .slice a len cap ∧ CinsAt w a len ∧ (0 < len → len ≤ Rows.uptoBulk x.1) := by
  rcases Go.Deep.open_slice Try.underlying22 h with ⟨h0, _⟩ | ⟨a, len, cap, m, n, D, Pl, hv, _, hl, hm, hmm, hx0, hc⟩
  · have hv : v = .slice none 0 0 := by simpa using h0
    subst hv
    exact ⟨none, 0, 0, rfl, ⟨by decide, fun r hr => absurd hr (by omega)⟩, fun q => absurd q (Nat.lt_irrefl _)⟩
  · have hv' : v = .slice (some a) len cap := by simpa using hv
    subst hv'
    have hlm : len ≤ m := by rw [hmm]; split <;> omega
    refine ⟨some a, len, cap, rfl, ⟨by unfold maxLen at hm; omega, fun r hr => ?_⟩, fun _ => ?_⟩
    · obtain ⟨cs0, h01, _⟩ := hc 0 (by omega)
      obtain ⟨cs, h1, h2⟩ := hc r (by omega)
      have c81 : Try.prog.cellsOf 62 = 2 := by kernel_rfl
      have c3 : Try.prog.cellsOf 3 = 1 := by kernel_rfl
      have c41 : Try.prog.cellsOf 41 = 1 := by kernel_rfl
      obtain ⟨b, off, rfl, hb⟩ := plain_rows h01 (by rw [c81]; omega)
      rw [c81] at h1
      obtain ⟨_, hlen, hcell⟩ := World.cells?_some h1
      obtain ⟨xs, q, _, _, _, hxl, hf⟩ := DataW.trod_struct Try.underlying62 h2
      obtain ⟨y0, y1, rfl⟩ := list2 (show xs.length = 2 from hxl)
      obtain ⟨v0, v1, rfl⟩ := list2 hlen
      have g0 := hf 0 _ rfl
      have g1 := hf 1 _ rfl
      simp [c3, c41] at g0 g1
      obtain ⟨pos, hp, hp1⟩ := int_of_trod g0 rfl
      obtain ⟨pa, pl, pc, pf, rfl, hlies, hbyte⟩ := bytes_of_trod g1
      have e0 : v0 = .int .i64 pos := by simpa using hp
      subst e0
      have k0 := hcell 0 (by omega)
      have k1 := hcell 1 (by omega)
      rw [add_at] at k0 k1
      exact ⟨b, off, rfl, ⟨⟨pos, pa, pl, pc, pf, hb, k0, k1, hlies, hbyte, hp1⟩⟩⟩
    · rw [hx0]
      have h3 := bulk_len ((List.range len).map D)
      rw [List.length_map, List.length_range] at h3
      simp only [Rows.uptoBulk]
      omega
end

set_option maxRecDepth 100000 in
theorem contract (H : Type) (enc : TypeId × Value → H) (W : World) (base : Nat) (args : Array Value) (ds gs : List (DataW H)) (before : List MemPlace)
    (hval0 : ∀ (j : Nat) t v, Try.f3.params[j]? = some t → args[j]? = some v → Value.okWide Try.prog W .any base t v)
    (hW : DataW.Whole enc Try.prog Try.f3.params.toList Rows.diskScriptSpec.vars false W args.toList ds gs before) (hk : Rows.uptoSmall H (ds ++ gs) = true) :
    Calls Try.prog 3 args W fun e W' => ∃ v, e = .returned v ∧ Rows.diskScriptSpec.post enc Try.prog Try.f3 false true false false W args v W' := by
  have hval := hval0
  have hW' := hW
  obtain ⟨p, q, hA0, hV, rfl, hfz, hnd⟩ := hW
  have hA : DataW.TrodAll enc Try.prog W 0 (fun _ => true) true Try.f3.params.toList args.toList ds p := hA0
  rw [Try.params3] at hA hval
  obtain ⟨v0, vs0, d0, ds0, p0, q0, hargs, rfl, rfl, h0, r0⟩ := trodAll_cons hA
  obtain ⟨v1, vs1, d1, ds1, p1, q1, rfl, rfl, rfl, h1, r1⟩ := trodAll_cons r0
  obtain ⟨v2, vs2, d2, ds2, p2, q2, rfl, rfl, rfl, h2, r2⟩ := trodAll_cons r1
  obtain ⟨v3, vs3, d3, ds3, p3, q3, rfl, rfl, rfl, h3, r3⟩ := trodAll_cons r2
  obtain ⟨rfl, rfl, rfl⟩ := trodAll_nil r3
  obtain rfl : args = #[v0, v1, v2, v3] := by cases args; simp_all
  obtain ⟨rfl, rfl⟩ := trodVars_none hV
  have lt2 : ∀ x ∈ p2, x.block < W.heap.size := by obtain ⟨m, hm⟩ := h2; exact DataW.trod_lt m _ _ _ hm
  have lt3 : ∀ x ∈ p3, x.block < W.heap.size := by obtain ⟨m, hm⟩ := h3; exact DataW.trod_lt m _ _ _ hm
  obtain ⟨n0, rfl, rfl, rfl, w0⟩ := open_int Try.underlying3 (hval 0 3 v0 rfl rfl) h0
  obtain ⟨n1, rfl, rfl, rfl, w1⟩ := open_int Try.underlying3 (hval 1 3 v1 rfl rfl) h1
  have hb : Rows.uptoBulkAll ([.lit (.int .i64 n0), .lit (.int .i64 n1), d2, d3] ++ ([] : List (DataW H))) ≤ 1048576 := of_decide_eq_true hk
  simp only [List.append_nil, Rows.uptoBulkAll] at hb
  obtain ⟨a2, len2, cap2, e2, hst, hlen⟩ : ∃ a len cap, v2 = .slice a len cap ∧ CinsAt W a len ∧ (0 < len → len ≤ Rows.uptoBulk d2) := by
    obtain ⟨a, len, cap, rfl⟩ := okWide_slice Try.underlying22 (hval 2 22 v2 rfl rfl)
    obtain ⟨fuel, hf2⟩ := h2
    obtain ⟨a', len', cap', e', k1, k2⟩ := cins_of_trod (v := .slice a len cap) hf2
    exact ⟨a', len', cap', e', k1, k2⟩
  subst e2
  obtain ⟨a3, len3, cap3, e3, hl3, hQ, hAc⟩ : ∃ a len cap, v3 = .slice a len cap ∧ len ≤ 1048576 ∧ (∀ r, r < len → ∃ b off, a = some ⟨b, off, none⟩ ∧ Nonempty (ActQ W b (off + r * 6))) ∧ ActsAt W a len := by
    obtain ⟨a, len, cap, rfl⟩ := okWide_slice Try.underlying23 (hval 3 23 v3 rfl rfl)
    obtain ⟨fuel, hf3⟩ := h3
    obtain ⟨a', len', cap', e', k1, k2⟩ := acts_bulk (v := .slice a len cap) hf3 (by show Rows.uptoBulk d3 ≤ 1048576; omega)
    obtain ⟨a'', len'', cap'', e'', k3⟩ := acts_of_trod (v := .slice a len cap) hf3
    have e4 := e'.symm.trans e''
    injection e4 with e5 e6 e7
    exact ⟨a', len', cap', e', k1, k2, by rw [e5, e6]; exact k3⟩
  subst e3
  have hm : len2 ≤ 1100000 := by
    by_cases h0 : 0 < len2
    · have := hlen h0
      omega
    · omega
  clear hA0
  obtain ⟨b, off, qf, vf, hq1, hq2⟩ := cins_fn hst
  have hw := script_walk n0 n1 a2 len2 cap2 b off qf vf a3 len3 cap3 W hm hq1 hq2 (by omega) hAc hQ
  refine hw.mono fun e W' ⟨he, bel⟩ => ?_
  subst he
  exact ⟨_, rfl, _, _, _, [], _, [], hW', trodAll_mk1 (shut_bool Try.underlying4 _), (trodAll_cons_mk (shut_int Try.underlying3 w0) (trodAll_cons_mk (shut_int Try.underlying3 w1) (trodAll_cons_mk (Below.trod laidOut (by kernel_rfl) (of_decide_eq_true (by kernel_rfl)) h2 bel lt2) (trodAll_cons_mk (Below.trod laidOut (by kernel_rfl) (of_decide_eq_true (by kernel_rfl)) h3 bel lt3) trodAll_mk0)))), rfl, bel.frame _, fun h => by cases h⟩

set_option maxRecDepth 100000 in
theorem lifted (os : Os) (started : os.Started) (H : Type) (enc : TypeId × Value → H) (F : Stop.Interp) :
    ReturnsInHanded {} Try.checked os 3 .any ((Rows.OpenSpec.upto Rows.diskScriptSpec).pre6 enc Try.prog Try.f3 Rows.diskScriptUptoRow.domain false) (((Rows.OpenSpec.upto Rows.diskScriptSpec).at F).post enc Try.prog Try.f3 false true false false) := by
  refine returnsInHanded_of_cond (C := Try.checked) (s := Rows.OpenSpec.upto Rows.diskScriptSpec) (k := Rows.uptoSmall) rfl own started (by kernel_rfl) Try.func3
    (OpenSpec.witness (enc := enc) (C := Try.checked) (s := Rows.OpenSpec.upto Rows.diskScriptSpec) (k := Rows.uptoSmall) rfl false ⟨#[], #[.int .i64 0, .int .i64 0, .slice none 0 0, .slice none 0 0], []⟩ 8 (by kernel_rfl) (by kernel_rfl) (by kernel_rfl)
      (x := ([.lit (.int .i64 0), .lit (.int .i64 0), .nil, .nil], [], [])) (by kernel_rfl) rfl (by kernel_rfl)) ?_
  intro W base args ds gs before hval hW _ hk _
  exact contract H enc W base args ds gs before hval hW hk

set_option maxRecDepth 100000 in
theorem proved : Rows.DiskScriptUptoSaid :=
  OpenClaim.holds_of_cond 3 Try.f3 rfl rfl rfl rfl rfl rfl rfl ⟨rfl, rfl, rfl, rfl, rfl⟩ rfl rfl rfl rfl rfl (by kernel_rfl) Try.func3 (by kernel_rfl)
    (of_decide_eq_true (by kernel_rfl)) (by unfold Func.isWrapper; first | (rw [if_pos (by decide +kernel)]; kernel_rfl) | (rw [if_neg (by decide +kernel)]; exact ⟨rfl, rfl⟩))
    (fun os started H enc _ F => lifted os started H enc F)
end Go.Proofs.Ytembocfghkmieaa.diskScript
namespace Go.Proofs.Ytembocfghkmieaa
theorem diskScriptUpto_holds : Rows.DiskScriptUptoSaid := diskScript.proved
end Go.Proofs.Ytembocfghkmieaa
