/- WalCallsSaid: for every scene and every script of calls WalCalls answers true and leaves its arguments as they were; no condition. -/
import Derived.Test.YtichojdcoegboaaGreatK47
import Derived.Test.YtichojdcoegboaaGreatRows
import Derived.WalkKit
import Derived.ProofKit
import Derived.OpenShut
import Derived.ShutString
import Derived.ChangeOld
import Derived.Below
namespace Go.Proofs.YtichojdcoegboaaGreat.walCalls
open Go.ChangeShapes Go.WideShapes Go.ChangeAt Go.RowKit
set_option linter.unusedVariables false
theorem own : ownKnob Tryz.prog.godebug = none := by kernel_rfl
theorem laidOut : laidOutB Tryz.prog = true := by kernel_rfl
set_option maxRecDepth 100000 in
theorem lifted (os : Os) (started : os.Started) (H : Type) (enc : TypeId × Value → H) :
  ReturnsInHanded {} Tryz.checked os 3 .any (Rows.walCallsSpec.pre6 enc Tryz.prog Tryz.f3 Rows.walCallsRow.domain false) (Rows.walCallsSpec.post enc Tryz.prog Tryz.f3 false true false false) := by
 refine returnsInHanded_of_change (C := Tryz.checked) own started (by kernel_rfl) Tryz.func3
  (ChangeSpec.witness6 (enc := enc) (C := Tryz.checked) false ⟨#[], #[.agg #[.int .i64 0, .slice none 0 0, .int .i64 0, .int .i64 0, .int .i64 0], .slice none 0 0], []⟩ 8 (by kernel_rfl) (by kernel_rfl) (by kernel_rfl) (by kernel_rfl)) ?_
 intro W base args ds gs before hval0 hW hcnd _
 have hval : ∀ (j : Nat) t v, Tryz.f3.params[j]? = some t → args[j]? = some v → Value.okWide Tryz.prog W .any base t v := hval0
 have hW' := hW
 obtain ⟨p, q, hA0, hV, rfl, hfz, hnd⟩ := hW
 have hA : DataW.TrodAll enc Tryz.prog W 0 (fun _ => true) true Tryz.f3.params.toList args.toList ds p := hA0
 rw [Tryz.params3] at hA hval
 obtain ⟨v0, vs0, d0, ds0, p0, q0, hargs, rfl, rfl, h0, r0⟩ := trodAll_cons hA
 obtain ⟨v1, vs1, d1, ds1, p1, q1, rfl, rfl, rfl, h1, r1⟩ := trodAll_cons r0
 obtain ⟨rfl, rfl, rfl⟩ := trodAll_nil r1
 obtain rfl : args = #[v0, v1] := by cases args; simp_all
 obtain ⟨rfl, rfl⟩ := trodVars_none hV
 have k0 := h0
 have k1 := h1
 have lt0 : ∀ x ∈ p0, x.block < W.heap.size := by obtain ⟨m, hm⟩ := k0; exact DataW.trod_lt m _ _ _ hm
 have lt1 : ∀ x ∈ p1, x.block < W.heap.size := by obtain ⟨m, hm⟩ := k1; exact DataW.trod_lt m _ _ _ hm
 obtain ⟨cs, rfl, hsz⟩ := okWide_struct Tryz.underlying28 (hval 0 28 v0 rfl rfl)
 obtain ⟨f0, hf0⟩ := h0
 obtain ⟨n, pp, l, cp, gb, gl, gi, hcs, i1, i2, i3, i4⟩ := Go.Proofs.YtichojdcoegboaaGreatW.scene_of_trod (cs := cs.toList) hf0 (by rw [Array.length_toList, hsz]; exact Go.Proofs.YtichojdcoegboaaGreatW.cellsO28)
 obtain rfl : cs = #[.int .i64 n, .slice pp l.length cp, .int .i64 gb, .int .i64 gl, .int .i64 gi] := Array.toList_inj.1 hcs
 obtain ⟨a1, c1, acts, e1, j1, j2, j3⟩ : ∃ a cap cs, v1 = .slice a (List.length cs) cap ∧ Go.Proofs.YtichojdcoegboaaGreatW.ActsAt W a cs ∧ cs.length ≤ 9223372036854775807 ∧ ∀ c ∈ cs, Go.Proofs.YtichojdcoegboaaGreatW.Act5 c := by
  obtain ⟨a, len, cap, rfl⟩ := okWide_slice Tryz.underlying29 (hval 1 29 v1 rfl rfl)
  obtain ⟨fuel, hf2⟩ := h1
  exact Go.Proofs.YtichojdcoegboaaGreatW.acts_of_trod (v := .slice a len cap) hf2
 subst e1
 clear hA0 hval0
 refine (Go.Proofs.YtichojdcoegboaaGreatW.calls_walk n gb gl gi pp a1 cp c1 l acts W i3 i1 j1 j3 j2 (by unfold maxLen at i2; omega)).mono fun e W' ⟨he, bel⟩ => ?_
 subst he
 exact ⟨_, rfl, _, _, _, [], _, [], hW', trodAll_mk1 (shut_bool Tryz.underlying4 _), (trodAll_cons_mk (Below.trod laidOut (by kernel_rfl) (of_decide_eq_true (by kernel_rfl)) k0 bel lt0) (trodAll_cons_mk (Below.trod laidOut (by kernel_rfl) (of_decide_eq_true (by kernel_rfl)) k1 bel lt1) trodAll_mk0)), rfl, bel.frame _, fun h => by cases h⟩
theorem over : Rows.walCallsRow.holds Tryz.pinned (OpenSpec.ofChange Rows.walCallsSpec) :=
 OpenClaim.holds_of_wide 3 Tryz.f3 rfl rfl rfl rfl rfl rfl rfl ⟨rfl, rfl, rfl, rfl, rfl⟩ rfl rfl rfl rfl rfl (by kernel_rfl) Tryz.func3 (by kernel_rfl)
  (of_decide_eq_true (by kernel_rfl)) (by unfold Func.isWrapper; first | (rw [if_pos (by decide +kernel)]; kernel_rfl) | (rw [if_neg (by decide +kernel)]; exact ⟨rfl, rfl⟩))
  (fun os started H enc _ => lifted os started H enc)
end Go.Proofs.YtichojdcoegboaaGreat.walCalls
namespace Go.Proofs.YtichojdcoegboaaGreat
theorem walCalls_holds : Rows.WalCallsSaid := walCalls.over
end Go.Proofs.YtichojdcoegboaaGreat
