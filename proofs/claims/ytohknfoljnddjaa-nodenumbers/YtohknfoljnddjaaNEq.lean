/- Inodes, and sixty-four bytes, held against each other: equal just where every field and every byte is; no condition. -/
import Derived.Test.YtohknfoljnddjaaInode
namespace Go.Proofs.Ytohknfoljnddjaa
open Go.RowKit

def ten (d : Nat → Int) : Array Value := #[.int .u32 (d 0), .int .u32 (d 1), .int .u32 (d 2), .int .u32 (d 3), .int .u32 (d 4), .int .u32 (d 5), .int .u32 (d 6), .int .u32 (d 7), .int .u32 (d 8), .int .u32 (d 9)]
theorem ten_get (d : Nat → Int) (i : Nat) (h : i < 10) : (ten d)[i]? = some (.int .u32 (d i)) :=
  match i, h with
  | 0, _ => rfl | 1, _ => rfl | 2, _ => rfl | 3, _ => rfl | 4, _ => rfl | 5, _ => rfl | 6, _ => rfl | 7, _ => rfl | 8, _ => rfl | 9, _ => rfl
/-- Rows of numbers of one kind, compared cell by cell. -/
theorem eachR (et : TypeId) (kd : IntKind) (hagg : ∀ w, (isAgg et).run Try.prog w = .ok false w) (hu : Try.prog.underlying et = some (.int kd)) (n d : Nat) (A B : Array Value) (f g : Nat → Int) (hA : ∀ i, i < n → A[i]? = some (.int kd (f i))) (hB : ∀ i, i < n → B[i]? = some (.int kd (g i))) (w : World) : ∀ l : List Nat, (∀ i, i ∈ l → i < n) →
    (forIn (m := Sem) l ((none : Option Bool), ()) fun i _ => do
            let x ← part et A (i * 1)
            let y ← part et B (i * 1)
            let b ← Op.equalIn (d + 1) et x y
            if (!b) = true then pure (ForInStep.done (some false, ())) else pure (ForInStep.yield (none, ()))).run Try.prog w
      = .ok ((if l.all (fun i => f i == g i) then none else some false), ()) w
  | [], _ => by simp
  | i :: l, h => by
    have h1 : (part et A (i * 1)).run Try.prog w = .ok (.int kd (f i)) w := by simp [part, hagg, hA i (h i (by simp))]
    have h2 : (part et B (i * 1)).run Try.prog w = .ok (.int kd (g i)) w := by simp [part, hagg, hB i (h i (by simp))]
    have ih := eachR et kd hagg hu n d A B f g hA hB w l fun j hj => h j (by simp [hj])
    have he := run_equalIn_int (P := Try.prog) w d et kd kd (f i) (g i) hu
    simp only [List.forIn_cons, Sem.run_bind, h1, h2, he, Result.andThen_ok, List.all_cons]
    by_cases e : f i = g i
    · simp only [e, beq_self_eq_true, Bool.not_true, Bool.false_eq_true, if_false, Sem.run_pure, Result.andThen_ok, Bool.true_and]
      exact ih
    · have e' : (f i == g i) = false := by simp [e]
      simp [e']
def sameN (n : Nat) (f g : Nat → Int) : Bool := (List.range n).all fun i => f i == g i
theorem sameN_iff (n : Nat) (f g : Nat → Int) : sameN n f g = true ↔ ∀ i, i < n → f i = g i := by
  simp [sameN, List.all_eq_true, List.mem_range]
theorem eqR (ty et : TypeId) (kd : IntKind) (hagg : ∀ w, (isAgg et).run Try.prog w = .ok false w) (hu : Try.prog.underlying et = some (.int kd)) (hs : ∀ w, (sizeOf et).run Try.prog w = .ok 1 w) (n : Nat) (hty : Try.prog.underlying ty = some (.array n et)) (d : Nat) (A B : Array Value) (f g : Nat → Int) (hA : ∀ i, i < n → A[i]? = some (.int kd (f i))) (hB : ∀ i, i < n → B[i]? = some (.int kd (g i))) (w : World) :
    (Op.equalIn (d + 2) ty (.agg A) (.agg B)).run Try.prog w = .ok (sameN n f g) w := by
  have key := eachR et kd hagg hu n d A B f g hA hB w (List.range' 0 [:n].size) (fun i hi => by simpa [Std.Legacy.Range.size] using hi)
  rw [Op.equalIn]
  simp only [Sem.run_bind, run_underlying hty, Result.andThen_ok]
  rw [hs w]
  simp only [Result.andThen_ok, Std.Legacy.Range.forIn_eq_forIn_range']
  refine (congrArg (fun r => Result.andThen r _) key).trans ?_
  have hr : List.range' 0 [:n].size = List.range n := by simp [Std.Legacy.Range.size, List.range_eq_range']
  rw [hr]
  show Result.andThen (Result.ok ((if sameN n f g = true then none else some false), ()) w) _ = _
  cases sameN n f g <;> simp
theorem eq31 (f g : Nat → Int) (w : World) : (Op.equalIn 10000 31 (.agg (rowA f 64)) (.agg (rowA g 64))).run Try.prog w = .ok (sameN 64 f g) w :=
  eqR 31 5 .u8 (fun w => Try.isAgg5 w) Try.underlying5 (fun w => by simp [go_sem]) 64 Try.underlying31 9998 _ _ f g (fun i hi => rowA_get f 64 i hi) (fun i hi => rowA_get g 64 i hi) w
theorem eq10 (d : Nat) (e f : Nat → Int) (w : World) : (Op.equalIn (d + 2) 25 (.agg (ten e)) (.agg (ten f))).run Try.prog w = .ok (sameN 10 e f) w :=
  eqR 25 24 .u32 (fun w => Try.isAgg24 w) Try.underlying24 (fun w => by simp [go_sem]) 10 Try.underlying25 d _ _ e f (fun i hi => ten_get e i hi) (fun i hi => ten_get f i hi) w
/-- Are two inodes one? -/
def sameNode (k l s b : Int) (d : Nat → Int) (k' l' s' b' : Int) (d' : Nat → Int) : Bool := k == k' && (l == l' && (s == s' && (b == b' && sameN 12 d d')))
theorem sameNode_iff (k l s b : Int) (d : Nat → Int) (k' l' s' b' : Int) (d' : Nat → Int) : sameNode k l s b d k' l' s' b' d' = true ↔ k = k' ∧ l = l' ∧ s = s' ∧ b = b' ∧ ∀ i, i < 12 → d i = d' i := by
  simp [sameNode, sameN_iff]
theorem same12 (d e : Nat → Int) : sameN 12 d e = (sameN 10 d e && (d 10 == e 10 && d 11 == e 11)) := by
  rw [Bool.eq_iff_iff]
  simp only [sameN_iff, Bool.and_eq_true, beq_iff_eq]
  constructor
  · exact fun h => ⟨fun i hi => h i (by omega), h 10 (by omega), h 11 (by omega)⟩
  · rintro ⟨h, h1, h2⟩ i hi
    by_cases q : i < 10
    · exact h i q
    · by_cases q1 : i = 10
      · rw [q1]; exact h1
      · rw [show i = 11 by omega]; exact h2
set_option maxRecDepth 20000 in
theorem eq27 (k l s b : Int) (d : Nat → Int) (k' l' s' b' : Int) (d' : Nat → Int) (w : World) : (Op.equalIn 10000 27 (.agg (node16 k l s b d)) (.agg (node16 k' l' s' b' d'))).run Try.prog w = .ok (sameNode k l s b d k' l' s' b' d') w := by
  have hq := fun w => eq10 9997 d d' w
  have hf : Try.prog.underlying 27 = some (.struct (Try.prog.fieldsOf 27)) := by kernel_rfl
  have hp : Try.prog.stoodInHeld 27 = false := by kernel_rfl
  unfold sameNode
  rw [same12]
  generalize sameN 10 d d' = q at *
  unfold node16
  show (Op.equalIn (9999 + 1) 27 _ _).run Try.prog w = _
  rw [run_equalIn_agg _ _ _ _ _ hf hp]
  simp only [Program.fieldsOf, Try.underlying27, Op.eqFields]
  unfold ten at hq
  simp only [Nat.reduceAdd] at hq
  simp [part, go_sem, hq]
  by_cases h1 : k = k'
  · by_cases h2 : l = l'
    · by_cases h3 : s = s'
      · by_cases h4 : b = b'
        · cases q
          · simp
          · by_cases h5 : d 10 = d' 10
            · by_cases h6 : d 11 = d' 11
              · simp [h1, h2, h3, h4, h5, h6]
              · simp [h6]
            · simp [h5]
        · simp [h4]
      · simp [h3]
    · simp [h2]
  · simp [h1]
end Go.Proofs.Ytohknfoljnddjaa
