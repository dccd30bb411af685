/- The document's own Cut: bytes as blocks, noughts behind the last; for every slice of fewer than 2 to the 47th bytes. -/
import Derived.Test.YtedbgeibhaiheaaBlocks3
namespace Go.Proofs.Ytedbgeibhaiheaa
open Go.RowKit

theorem wpOrd_store5c {ops : Array Oper} {Q : Exit → Act → World → Prop} {S : World → Prop} {r : List (Bool × Oper)} {a : Act} {w : World} {o : Oper} (hw : Region.wanted o (yielded ops a.tmps) = true) (x y : Operand) (ho : o.op = .store 5 x y)
    (g i : Nat) (v : Int) (v0 : Value) (hx : a.eval x = .pointer (some ⟨g, i, none⟩)) (hy : a.eval y = .int .u8 v) (hc : w.cell? ⟨g, i, none⟩ = some v0) (hf : w.frozen? ⟨g, i, none⟩ = false)
    (h : S (w.setCell ⟨g, i, none⟩ (.int .u8 v)) ∧ wpOrd Try.prog ops Q S r (a.put o.dst undef) (w.setCell ⟨g, i, none⟩ (.int .u8 v))) : wpOrd Try.prog ops Q S ((false, o) :: r) a w := by
  simp only [wpOrd, hw, if_true]
  unfold Oper.wp execOp
  simp only [ho, hx, hy]
  simp [go_sem, hc, hf]
  exact h
theorem OwnB.stored {w : World} {base g cap n : Nat} {F : Nat → Int} (h : OwnB w base (.slice (.some ⟨g, 0, .none⟩) n cap) n F) (i : Nat) (x : Int) : OwnB (w.setCell ⟨g, i, .none⟩ (.int .u8 x)) base (.slice (.some ⟨g, 0, .none⟩) n cap) n (upd F i x) := by
  have hst := World.ownsRow.stored h i (.int .u8 x)
  unfold OwnB
  rw [← rowA_set]
  simpa using hst.1
theorem OwnB.at' {w : World} {base g cap n : Nat} {F : Nat → Int} (h : OwnB w base (.slice (.some ⟨g, 0, .none⟩) n cap) n F) (i : Nat) (hi : i < n * 1024) : w.cell? ⟨g, i, .none⟩ = .some (.int .u8 (F i)) := by
  have := World.ownsRow.cellAt h i hi
  rwa [Array.getElem?_toList, rowA_get _ _ _ hi] at this
theorem build0 (u : World) : (Instr.build 25 #[]).run Try.prog u = .ok (.agg (blk nought)) u := by
  have z25 := zero25
  simp [Instr.build, z25, run_underlying Try.underlying25, Try.sizeOf5, Instr.fill, Value.cells]

set_option maxRecDepth 20000 in
set_option maxHeartbeats 1000000 in
theorem refCut_some (b off m cap : Nat) (q : Nat → Int) (w : World) (hm : m ≤ 140737488351232) (hb : b < w.heap.size) (hc : ∀ i, i < m → w.cell? ⟨b, off + i, none⟩ = some (.int .u8 (q i))) :
    Calls Try.prog 30 #[.slice (some ⟨b, off, none⟩) m cap] w fun e w' => ∃ v, e = .returned v ∧ OwnB w' w.heap.size v (blocksOf m) (firsts q m) ∧ Below w.heap.size w w' := by
  have z25 := zero25
  generalize hN : nought = N at *
  have HN := (show Hid _ from hN)
  clear hN
  go_enter Try.func30, Try.ntmps30
  go_wp2
  go_loopw [3, 4] (fun s3 s4 wx => ∃ i : Nat, (i : Int) ≤ m ∧ s4 = .int .i64 i ∧ Hid (OwnB wx w.heap.size s3 (blocksOf i) (firsts q i)) ∧ Hid (Below w.heap.size w wx)) (fun _ s4 _ => m - (intOf s4).toNat)
  case atStart => exact ⟨0, by omega, rfl, OwnB.nil _ _ _, Below.refl _ _⟩
  case round =>
    obtain ⟨i, hi, rfl, HO, HB⟩ := hrel
    by_cases hi2 : (i : Int) < m
    · have hci := hc i (by omega)
      have ei : i / 1024 * 1024 + i % 1024 = i := by omega
      have eb : blocksOf (i + 1) = i / 1024 + 1 := by unfold blocksOf; omega
      by_cases hz : (i : Int) % 1024 = 0
      · have hbi : blocksOf i = i / 1024 := by unfold blocksOf; omega
        have hsz : (blocksOf i + 1) * 1024 ≤ 140737488355328 := by unfold blocksOf; simp only [Nat.mul_comm _ 1024] at *; omega
        have HSZ := (show Hid _ from hsz)
        clear hsz
        go_wp2_with (first | refine wpList_build1 rfl (.tmp 15) rfl N rfl ?_ | (at_builtin; refine wpList_pushB rfl (.tmp 14) (.tmp 16) rfl w.heap.size _ (blocksOf i) (firsts q i) N rfl rfl HO.out HSZ.out HB.out.size ?_; intro v' w3 hown' _ hb3))
        have hOX : OwnB w3 w.heap.size v' (i / 1024 + 1) (firsts q i) := by
          rw [hbi] at hown'
          refine hown'.congr fun x hx => ?_
          unfold catB
          by_cases c : x < i / 1024 * 1024
          · rw [if_pos c]
          · rw [if_neg c, ← HN.out]
            unfold firsts nought
            rw [if_neg (by omega)]
        have hBX : Below w.heap.size w w3 := HB.out.trans hb3
        clear hown' hb3
        have hlt : b < w3.heap.size := Nat.lt_of_lt_of_le hb hBX.size
        obtain ⟨g, cp, hV, hg1, hg2, hg3, hg4⟩ := hOX.some (by omega)
        subst hV
        have hS : w3.cell? ⟨b, off + i, none⟩ = some (.int .u8 (q i)) := (hBX.cell (p := ⟨b, off + i, none⟩) hb).trans hci
        have hcell := hOX.at' (i / 1024 * 1024 + i % 1024) (by rw [ei]; simp only [Nat.mul_comm _ 1024] at *; omega)
        have hfr := World.ownsRow.frozenAt hOX (i / 1024 * 1024 + i % 1024)
        have hne : g ≠ b := by have := hBX.size; omega
        have hS2 : (w3.setCell ⟨g, i / 1024 * 1024 + i % 1024, none⟩ (.int .u8 (q i))).cell? ⟨b, off + i, none⟩ = some (.int .u8 (q i)) := by
          rw [World.cell?_setCell_other _ _ _ _ (fun e => hne (congrArg Addr.block e))]
          exact hS
        have hst := hOX.stored (i / 1024 * 1024 + i % 1024) (q i)
        rw [ei, firsts_next] at hst
        have HST := (show Hid _ from hst)
        have HBS : Hid (Below w.heap.size w (w3.setCell ⟨g, i, none⟩ (.int .u8 (q i))).drew) := (hBX.setCell hg1 _).drew
        have HHH : Hid (i / 1024 * 1024 + i % 1024 = i) := ei
        have hq1 : 0 ≤ (i : Int) / 1024 := by omega
        have hq2 : (i : Int) / 1024 < (i : Int) / 1024 + 1 := by omega
        have hq3 : ((i : Int) / 1024).toNat = i / 1024 := by omega
        have hq4 : 0 ≤ (i : Int) % 1024 := by omega
        have hq5 : (i : Int) % 1024 < 1024 := by omega
        have hq6 : ((i : Int) % 1024).toNat = i % 1024 := by omega
        have hq7 : IntKind.i64.wrap ((i : Int) / 1024) = (i : Int) / 1024 := by rw [IntKind.wrap_i64]; omega
        have hq8 : (i : Int).tmod 1024 = (i : Int) % 1024 := Int.tmod_eq_emod_of_nonneg (by omega)
        clear hst hc HN
        go_wp2
        clear hz ei
        refine wp_region_ord (S := fun u => u.cell? ⟨b, off + i, none⟩ = some (.int .u8 (q i))) [(0, true), (1, true), (2, true), (3, true), (4, true), (5, true), (6, true), (7, true), (8, true), (9, true), (10, true), (11, false)]
          (by kernel_rfl) rfl (by kernel_rfl) (fun d _ _ _ _ h => by cases d <;> exact h) hS ?_
        simp only [inOrd, List.getElem?_cons_zero, List.getElem?_cons_succ]
        refine wpOrd_move rfl _ rfl ?_
        simp only [Act.put, List.setIfInBounds_toArray, List.set_cons_succ, List.set_cons_zero]
        refine wpOrd_move rfl _ rfl ?_
        simp only [Act.put, List.setIfInBounds_toArray, List.set_cons_succ, List.set_cons_zero]
        refine wpOrd_yield (v := .int .i64 ((i : Int) / 1024)) rfl (fun u _ => by go_simp) ?_
        simp only [Act.put, List.setIfInBounds_toArray, List.set_cons_succ, List.set_cons_zero]
        refine wpOrd_move rfl _ rfl ?_
        simp only [Act.put, List.setIfInBounds_toArray, List.set_cons_succ, List.set_cons_zero]
        refine wpOrd_yield (v := .int .i64 ((i : Int) % 1024)) rfl (fun u _ => by go_simp) ?_
        simp only [Act.put, List.setIfInBounds_toArray, List.set_cons_succ, List.set_cons_zero]
        refine wpOrd_move rfl _ rfl ?_
        simp only [Act.put, List.setIfInBounds_toArray, List.set_cons_succ, List.set_cons_zero]
        refine wpOrd_move rfl _ rfl ?_
        simp only [Act.put, List.setIfInBounds_toArray, List.set_cons_succ, List.set_cons_zero]
        refine wpOrd_yield (v := .pointer (some ⟨b, off + i, none⟩)) rfl (fun u _ => by go_simp) ?_
        simp only [Act.put, List.setIfInBounds_toArray, List.set_cons_succ, List.set_cons_zero]
        refine wpOrd_yield (v := .int .u8 (q i)) rfl (fun u hu => by go_simp) ?_
        simp only [Act.put, List.setIfInBounds_toArray, List.set_cons_succ, List.set_cons_zero]
        refine wpOrd_yield (v := .pointer (some ⟨g, i / 1024 * 1024, none⟩)) rfl (fun u _ => by go_simp) ?_
        simp only [Act.put, List.setIfInBounds_toArray, List.set_cons_succ, List.set_cons_zero]
        refine wpOrd_yield (v := .pointer (some ⟨g, i / 1024 * 1024 + i % 1024, none⟩)) rfl (fun u _ => by go_simp) ?_
        simp only [Act.put, List.setIfInBounds_toArray, List.set_cons_succ, List.set_cons_zero]
        refine wpOrd_store5c rfl _ _ rfl g (i / 1024 * 1024 + i % 1024) (q i) _ rfl rfl hcell hfr ⟨hS2, ?_⟩
        refine wpOrd_nil ?_
        simp only [Act.put]
        have hd' : (w3.drew.setCell ⟨g, i / 1024 * 1024 + i % 1024, none⟩ (.int .u8 (q i))) = (w3.setCell ⟨g, i, none⟩ (.int .u8 (q i))).drew := by rw [HHH.out]; rfl
        rw [hd']
        have HO3 : Hid (OwnB (w3.setCell ⟨g, i, none⟩ (.int .u8 (q i))).drew w.heap.size (.slice (some ⟨g, 0, none⟩) (i / 1024 + 1) cp) (blocksOf (i + 1)) (firsts q (i + 1))) := show OwnB _ _ _ _ _ by rw [eb]; exact HST.out
        generalize (w3.setCell ⟨g, i, none⟩ (.int .u8 (q i))).drew = Y at HO3 HBS ⊢
        clear HST hd' hOX hBX hS hS2 hcell hfr HO HB
        go_wp2
        exact ⟨⟨i + 1, by omega, by go_num, HO3.out, HBS.out⟩, by simp [intOf]; omega⟩
      · have hbi : blocksOf i = i / 1024 + 1 := by unfold blocksOf; omega
        have hOX : OwnB wr w.heap.size u3 (i / 1024 + 1) (firsts q i) := by rw [← hbi]; exact HO.out
        have hBX : Below w.heap.size w wr := HB.out
        have hlt : b < wr.heap.size := Nat.lt_of_lt_of_le hb hBX.size
        obtain ⟨g, cp, hV, hg1, hg2, hg3, hg4⟩ := hOX.some (by omega)
        subst hV
        have hS : wr.cell? ⟨b, off + i, none⟩ = some (.int .u8 (q i)) := (hBX.cell (p := ⟨b, off + i, none⟩) hb).trans hci
        have hcell := hOX.at' (i / 1024 * 1024 + i % 1024) (by rw [ei]; simp only [Nat.mul_comm _ 1024] at *; omega)
        have hfr := World.ownsRow.frozenAt hOX (i / 1024 * 1024 + i % 1024)
        have hne : g ≠ b := by have := hBX.size; omega
        have hS2 : (wr.setCell ⟨g, i / 1024 * 1024 + i % 1024, none⟩ (.int .u8 (q i))).cell? ⟨b, off + i, none⟩ = some (.int .u8 (q i)) := by
          rw [World.cell?_setCell_other _ _ _ _ (fun e => hne (congrArg Addr.block e))]
          exact hS
        have hst := hOX.stored (i / 1024 * 1024 + i % 1024) (q i)
        rw [ei, firsts_next] at hst
        have HST := (show Hid _ from hst)
        have HBS : Hid (Below w.heap.size w (wr.setCell ⟨g, i, none⟩ (.int .u8 (q i))).drew) := (hBX.setCell hg1 _).drew
        have HHH : Hid (i / 1024 * 1024 + i % 1024 = i) := ei
        have hq1 : 0 ≤ (i : Int) / 1024 := by omega
        have hq2 : (i : Int) / 1024 < (i : Int) / 1024 + 1 := by omega
        have hq3 : ((i : Int) / 1024).toNat = i / 1024 := by omega
        have hq4 : 0 ≤ (i : Int) % 1024 := by omega
        have hq5 : (i : Int) % 1024 < 1024 := by omega
        have hq6 : ((i : Int) % 1024).toNat = i % 1024 := by omega
        have hq7 : IntKind.i64.wrap ((i : Int) / 1024) = (i : Int) / 1024 := by rw [IntKind.wrap_i64]; omega
        have hq8 : (i : Int).tmod 1024 = (i : Int) % 1024 := Int.tmod_eq_emod_of_nonneg (by omega)
        clear hst hc HN
        go_wp2
        clear hz ei
        refine wp_region_ord (S := fun u => u.cell? ⟨b, off + i, none⟩ = some (.int .u8 (q i))) [(0, true), (1, true), (2, true), (3, true), (4, true), (5, true), (6, true), (7, true), (8, true), (9, true), (10, true), (11, false)]
          (by kernel_rfl) rfl (by kernel_rfl) (fun d _ _ _ _ h => by cases d <;> exact h) hS ?_
        simp only [inOrd, List.getElem?_cons_zero, List.getElem?_cons_succ]
        refine wpOrd_move rfl _ rfl ?_
        simp only [Act.put, List.setIfInBounds_toArray, List.set_cons_succ, List.set_cons_zero]
        refine wpOrd_move rfl _ rfl ?_
        simp only [Act.put, List.setIfInBounds_toArray, List.set_cons_succ, List.set_cons_zero]
        refine wpOrd_yield (v := .int .i64 ((i : Int) / 1024)) rfl (fun u _ => by go_simp) ?_
        simp only [Act.put, List.setIfInBounds_toArray, List.set_cons_succ, List.set_cons_zero]
        refine wpOrd_move rfl _ rfl ?_
        simp only [Act.put, List.setIfInBounds_toArray, List.set_cons_succ, List.set_cons_zero]
        refine wpOrd_yield (v := .int .i64 ((i : Int) % 1024)) rfl (fun u _ => by go_simp) ?_
        simp only [Act.put, List.setIfInBounds_toArray, List.set_cons_succ, List.set_cons_zero]
        refine wpOrd_move rfl _ rfl ?_
        simp only [Act.put, List.setIfInBounds_toArray, List.set_cons_succ, List.set_cons_zero]
        refine wpOrd_move rfl _ rfl ?_
        simp only [Act.put, List.setIfInBounds_toArray, List.set_cons_succ, List.set_cons_zero]
        refine wpOrd_yield (v := .pointer (some ⟨b, off + i, none⟩)) rfl (fun u _ => by go_simp) ?_
        simp only [Act.put, List.setIfInBounds_toArray, List.set_cons_succ, List.set_cons_zero]
        refine wpOrd_yield (v := .int .u8 (q i)) rfl (fun u hu => by go_simp) ?_
        simp only [Act.put, List.setIfInBounds_toArray, List.set_cons_succ, List.set_cons_zero]
        refine wpOrd_yield (v := .pointer (some ⟨g, i / 1024 * 1024, none⟩)) rfl (fun u _ => by go_simp) ?_
        simp only [Act.put, List.setIfInBounds_toArray, List.set_cons_succ, List.set_cons_zero]
        refine wpOrd_yield (v := .pointer (some ⟨g, i / 1024 * 1024 + i % 1024, none⟩)) rfl (fun u _ => by go_simp) ?_
        simp only [Act.put, List.setIfInBounds_toArray, List.set_cons_succ, List.set_cons_zero]
        refine wpOrd_store5c rfl _ _ rfl g (i / 1024 * 1024 + i % 1024) (q i) _ rfl rfl hcell hfr ⟨hS2, ?_⟩
        refine wpOrd_nil ?_
        simp only [Act.put]
        have hd' : (wr.drew.setCell ⟨g, i / 1024 * 1024 + i % 1024, none⟩ (.int .u8 (q i))) = (wr.setCell ⟨g, i, none⟩ (.int .u8 (q i))).drew := by rw [HHH.out]; rfl
        rw [hd']
        have HO3 : Hid (OwnB (wr.setCell ⟨g, i, none⟩ (.int .u8 (q i))).drew w.heap.size (.slice (some ⟨g, 0, none⟩) (i / 1024 + 1) cp) (blocksOf (i + 1)) (firsts q (i + 1))) := show OwnB _ _ _ _ _ by rw [eb]; exact HST.out
        generalize (wr.setCell ⟨g, i, none⟩ (.int .u8 (q i))).drew = Y at HO3 HBS ⊢
        clear HST hd' hOX hBX hS hS2 hcell hfr HO HB
        go_wp2
        exact ⟨⟨i + 1, by omega, by go_num, HO3.out, HBS.out⟩, by simp [intOf]; omega⟩
    · have e : i = m := by omega
      subst e
      clear hc
      go_wp2
      go_ret
      exact ⟨_, rfl, HO.out, HB.out⟩
set_option maxRecDepth 20000 in
set_option maxHeartbeats 400000 in
theorem refCut_none (a : Option Addr) (cap : Nat) (q : Nat → Int) (w : World) :
    Calls Try.prog 30 #[.slice a 0 cap] w fun e w' => ∃ v, e = .returned v ∧ OwnB w' w.heap.size v (blocksOf 0) (firsts q 0) ∧ Below w.heap.size w w' := by
  go_enter Try.func30, Try.ntmps30
  go_wp2
  go_loopw [3, 4] (fun s3 s4 wx => s3 = .slice none 0 0 ∧ s4 = .int .i64 0 ∧ wx = w) (fun _ _ _ => 0)
  case atStart => exact ⟨rfl, rfl, rfl⟩
  case round =>
    obtain ⟨rfl, rfl, rfl⟩ := hrel
    go_wp2
    go_ret
    exact ⟨_, rfl, OwnB.nil _ _ _, Below.refl _ _⟩
theorem refCut_lies {w : World} {p : Value} {m : Nat} {q : Nat → Int} (h : Lies w p m q) (hm : m ≤ 140737488351232) :
    Calls Try.prog 30 #[p] w fun e w' => ∃ v, e = .returned v ∧ OwnB w' w.heap.size v (blocksOf m) (firsts q m) ∧ Below w.heap.size w w' := by
  rcases h with ⟨a, cap, rfl, rfl, _⟩ | ⟨b, off, cap, rfl, _, _, hb, hc⟩
  · exact refCut_none a cap q w
  · exact refCut_some b off m cap q w hm hb hc
end Go.Proofs.Ytedbgeibhaiheaa
