/- Blocks with their numbers as keys of a map; no condition but that the numbers are ints and the bytes bytes. -/
import Derived.Test.YtbnbbelkddbndaaSureOf
import Derived.Test.YtbnbbelkddbndaaCel
import Derived.Maps.OwnOps
import Derived.Maps.OwnSet
import Derived.DeepKeys4
namespace Go.Proofs.Ytbnbbelkddbndaa
open Go.RowKit Go.Maps
theorem row44 : (44 : TypeId) < Try.prog.types.size := of_decide_eq_true (by kernel_rfl)
theorem laidOut44 : laidOutB Try.prog = true := by kernel_rfl
theorem at44 : Try.prog.keyTypeAt 3 44 = true := by kernel_rfl
theorem keyed44 : Keyed Try.prog 44 := Keyed.of_law (deep_law_laid laidOut44 (m := 3) (by omega) row44 at44 (by rw [Try.underlying44]))
theorem types_size : Try.prog.types.size = 155 := by kernel_rfl
theorem keyType44 : Try.prog.keyType 44 = true := by kernel_rfl
theorem cells44 : Try.prog.cellsOf 44 = 1025 := by kernel_rfl
theorem cells40 : Try.prog.cellsOf 40 = 1024 := by kernel_rfl
theorem cells5 : Try.prog.cellsOf 5 = 1 := by kernel_rfl
theorem cells3 : Try.prog.cellsOf 3 = 1 := by kernel_rfl
theorem mapM_some {α β : Type} (g : α → Option β) : ∀ l : List α, (∀ x ∈ l, ∃ y, g x = some y) → ∃ ys, l.mapM g = some ys
  | [], _ => ⟨[], rfl⟩
  | x :: t, h => by
    obtain ⟨y, hy⟩ := h x (by simp)
    obtain ⟨ys, hys⟩ := mapM_some g t fun z hz => h z (List.mem_cons_of_mem _ hz)
    exact ⟨y :: ys, by simp [List.mapM_cons, hy, hys]⟩
theorem lits40 (d : Nat) {f : Nat → Int} (hf : Can f) : ∃ ls, Try.prog.keyLits (d + 1 + 1) 40 (blk f).toList = some ls := by
  unfold Program.keyLits
  rw [Try.underlying40]
  simp only [cells40, cells5, blk_list_len, if_true]
  obtain ⟨ys, hys⟩ := mapM_some (fun i => Try.prog.keyLits (d + 1) 5 (((blk f).toList.drop (i * 1)).take 1)) (List.range 1024) fun i hi => by
    have hi' := List.mem_range.1 hi
    have hg : (blk f).toList[i]? = some (.int .u8 (f i)) := by rw [Array.getElem?_toList]; exact blk_get f i hi'
    have e : ((blk f).toList.drop (i * 1)).take 1 = [.int .u8 (f i)] := by
      obtain ⟨h1, h2⟩ := List.getElem?_eq_some_iff.1 hg
      rw [Nat.mul_one, List.drop_eq_getElem_cons h1, List.take_succ_cons, List.take_zero, h2]
    rw [e]
    unfold Program.keyLits
    rw [Try.underlying5]
    have hw : (Lit.int .u8 (f i)).wf = true := by
      have := hf.1 i
      exact WalkArith.wf_u8 (by omega)
    simp [hw]
  exact ⟨ys.flatten, by rw [hys]; rfl⟩
theorem key44 {c : Cel} (hc : Can c.2) (hi : (Lit.int .i64 c.1).wf = true) : ∃ kl, keyOf Try.prog 44 (.agg (celRow c).toArray) = some kl := by
  have hfm : (Value.agg (celRow c).toArray).formed Try.prog 44 = true := by
    have := celRow_len c
    generalize celRow c = R at *
    simp [Value.formed, cells44, this]
  have hl : ∃ ls, Try.prog.keyLits (Try.prog.types.size + 1) 44 (celRow c) = some ls := by
    obtain ⟨ls, hls⟩ := lits40 153 hc
    rw [types_size]
    have hf := fields44
    unfold Program.keyLits
    rw [under44]
    have hlen := celRow_len c
    generalize Try.prog.fieldsOf 44 = fs at *
    obtain ⟨fl⟩ := fs
    obtain ⟨f1, f2, rfl⟩ : ∃ f1 f2, fl = [f1, f2] := by
      have hl : fl.length = 2 := by have := congrArg List.length hf; simpa using this
      rcases fl with _ | ⟨f1, _ | ⟨f2, _ | ⟨f3, t⟩⟩⟩
      · simp at hl
      · simp at hl
      · exact ⟨f1, f2, rfl⟩
      · simp at hl
    simp only [List.map_cons, List.map_nil, List.cons.injEq, Prod.mk.injEq] at hf
    obtain ⟨⟨n1, t1, o1⟩, ⟨n2, t2, o2⟩, _⟩ := hf
    have e1 : (celRow c).take 1 = [.int .i64 c.1] := rfl
    have hls' : Try.prog.keyLits 155 40 (blk c.2).toList = some ls := hls
    have e2 : (celRow c).tail.take 1024 = (blk c.2).toList := by
      show ((blk c.2).toList).take 1024 = _
      exact List.take_of_length_le (by rw [blk_list_len]; omega)
    have k1 : Try.prog.keyLits 155 3 [.int .i64 c.1] = some [.int .i64 c.1] := by
      unfold Program.keyLits
      rw [Try.underlying3]
      simp [hi]
    generalize celRow c = R at *
    simp only [hlen, cells44]
    refine ⟨[.int .i64 c.1] ++ ls, ?_⟩
    simp [n1, n2, t1, t2, o1, o2, cells3, cells40, e1, e2, k1, hls', List.mapM_cons]
  obtain ⟨ls, hls⟩ := hl
  refine ⟨.string (keyBytes ls), ?_⟩
  unfold keyOf
  rw [under44]
  simp only [keyType44, hfm, Bool.and_self, if_true]
  show Option.map _ (Try.prog.keyLits (Try.prog.types.size + 1) 44 (celRow c).toArray.toList) = _
  rw [List.toList_toArray, hls]
  rfl
end Go.Proofs.Ytbnbbelkddbndaa
