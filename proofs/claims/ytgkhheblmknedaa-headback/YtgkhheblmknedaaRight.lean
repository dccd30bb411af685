/- Targets that may be, out of any numbers; on a layout that is. -/
import Derived.Test.YtgkhheblmknedaaOwn
import Derived.Deep.Cut
import Derived.Deep.CutRange
namespace Go.Proofs.Ytgkhheblmknedaa
open Go.RowKit
theorem pick_any (i n : Int) (hn : 1 ≤ n ∧ n ≤ 1048576) (w : World) : Calls Try.prog 28 #[.int .i64 i, .int .i64 n] w fun e w' => e = .returned (.int .i64 (i % n)) ∧ w' = w := by
  have h0 : n ≠ 0 := by omega
  have hb : -n < Int.tmod i n ∧ Int.tmod i n < n := by
    have h1 := Int.natAbs_tmod i n
    have h2 : (Int.tmod i n).natAbs < n.natAbs := by
      rw [Int.natAbs_tmod]
      exact Nat.mod_lt _ (by omega)
    omega
  have hw : IntKind.i64.wrap (Int.tmod i n) = Int.tmod i n := by rw [IntKind.wrap_i64]; omega
  have hm : Int.tmod i n % n = i % n := by
    have h1 := Int.tmod_add_mul_tdiv i n
    have h2 : i % n = (Int.tmod i n + n * Int.tdiv i n) % n := by rw [h1]
    rw [h2, Int.add_mul_emod_self_left]
  by_cases hneg : Int.tmod i n < 0
  · have he : Int.tmod i n + n = i % n := by
      rw [← hm, ← Int.add_emod_right, Int.emod_eq_of_lt (by omega) (by omega)]
    have hw2 : IntKind.i64.wrap (Int.tmod i n + n) = Int.tmod i n + n := by rw [IntKind.wrap_i64]; omega
    rw [← he]
    clear hm he
    go_enter Try.func28, Try.ntmps28
    go_wp2
    go_ret
    exact ⟨rfl, rfl⟩
  · have he : Int.tmod i n = i % n := by rw [← hm, Int.emod_eq_of_lt (by omega) (by omega)]
    rw [← he]
    clear hm he
    go_enter Try.func28, Try.ntmps28
    go_wp2
    go_ret
    exact ⟨rfl, rfl⟩

theorem mayP_nil (lo hi m : Int) (h : 0 ≤ m) : MayP lo hi m [] := ⟨by simpa using h, fun t h => (by simp at h), List.nodup_nil⟩
set_option maxRecDepth 20000 in
set_option maxHeartbeats 4000000 in
theorem right_any (b l i a c d e f g : Int) (ls : List Int) (p : Option Addr) (cap : Nat) (w : World) (hl : 32 ≤ l ∧ l ≤ 256) (hb : l + 4 ≤ b ∧ b ≤ 1048576) (hlen : ls.length < 9223372036854775807) (hls : IntsAt w p ls) :
    Calls Try.prog 21 #[.agg (lay9 b l i a c d e f g), .slice p ls.length cap] w fun e' w' => ∃ v T, e' = .returned v ∧ OwnZ w' (w.heap.size + 1) v T ∧ MayP (1 + l) b (l - 1) T ∧ Below w.heap.size w w' := by
  have hN := heap_alloc_new w (.cells (lay9 b l i a c d e f g) 26)
  obtain ⟨n, hn⟩ : ∃ n, ls.length = n := ⟨_, rfl⟩
  have HT : Hid (IntsAt w p ls ∧ ls.length = n) := ⟨hls, hn⟩
  rw [hn]
  rw [hn] at hlen
  clear hls hn
  obtain ⟨hl1, hl2⟩ := hl
  obtain ⟨hb1, hb2⟩ := hb
  have e2 : Hid (∀ (W1 : World) (h : W1.heap[w.heap.size]? = some (.cells (lay9 b l i a c d e f g) 26)), _) := fun (W1 : World) (h : W1.heap[w.heap.size]? = some (.cells (lay9 b l i a c d e f g) 26)) => lay_cells h
  have HN : Hid ((w.alloc (.cells (lay9 b l i a c d e f g) 26)).heap[w.heap.size]? = some (.cells (lay9 b l i a c d e f g) 26)) := hN
  have hw1 : IntKind.i64.wrap (1 + l) = 1 + l := by rw [IntKind.wrap_i64]; omega
  have hw2 : IntKind.i64.wrap (l - 1) = l - 1 := by rw [IntKind.wrap_i64]; omega
  clear hN
  unfold lay9 at *
  go_enter Try.func21, Try.ntmps21
  go_wp2
  go_loopw [6, 7, 8, 9, 10] (fun s6 s7 _ _ _ wx => ∃ (k : Nat) (T : List Int), k ≤ n ∧ s7 = .int .i64 k ∧ OwnZ wx (w.heap.size + 1) s6 T ∧ MayP (1 + l) b (l - 1) T ∧ Below (w.heap.size + 1) (w.alloc (.cells #[.int .i64 b, .int .i64 l, .int .i64 i, .int .i64 a, .int .i64 c, .int .i64 d, .int .i64 e, .int .i64 f, .int .i64 g] 26)) wx) (fun _ s7 _ _ _ _ => n - (intOf s7).toNat)
  case atStart => exact ⟨0, [], by omega, rfl, OwnZ.nil _ _, mayP_nil _ _ _ (by omega), Below.refl _ _⟩
  case round =>
    obtain ⟨k, T, hk, rfl, hown, hmay, hbel⟩ := hrel
    have hsize := hbel.size
    simp at hsize
    have hLr : wr.heap[w.heap.size]? = some (.cells #[.int .i64 b, .int .i64 l, .int .i64 i, .int .i64 a, .int .i64 c, .int .i64 d, .int .i64 e, .int .i64 f, .int .i64 g] 26) := (hbel.block _ (Nat.lt_succ_self _)).trans HN.out
    obtain ⟨c0, c1, c2, c3, c4, c5, c6, c7, c8, hlt⟩ := e2.out wr hLr
    obtain ⟨pT, cT, rfl, hint, hcap, hpb⟩ := hown.ints
    have HO : Hid (OwnZ wr (w.heap.size + 1) (.slice pT T.length cT) T) := hown
    have HM : Hid _ := hmay
    have hTl := hmay.1
    have HI : Hid _ := hint
    have HBW : Hid (Below w.heap.size w wr) := (below_new _ _).trans (hbel.mono (Nat.le_succ _))
    clear hown hmay hint hpb
    obtain ⟨t, ht⟩ : ∃ t, T.length = t := ⟨_, rfl⟩
    have HTt : Hid (T.length = t) := ht
    rw [ht] at hTl hcap
    by_cases hk2 : (k : Int) < n
    · by_cases ht2 : (t : Int) < l - 1
      · rw [ht]
        clear ht
        have g1 : decide ((t : Int) < l - 1) = true := decide_eq_true ht2
        obtain ⟨hls, hn⟩ := HT.out
        have hx : ls[k]? = some ls[k] := List.getElem?_eq_getElem (by omega)
        obtain ⟨b1, o1, rfl, l1, C1⟩ := hls (by omega)
        generalize ls[k] = x at hx
        have q1 : wr.cell? ⟨b1, o1 + k, none⟩ = some (.int .i64 x) := (HBW.out.cell (p := ⟨b1, o1 + k, none⟩) l1).trans (C1 k x hx)
        clear hls hn hx C1
        go_wp2
        have hw3 : IntKind.i64.wrap (b - (1 + l)) = b - (1 + l) := by rw [IntKind.wrap_i64]; omega
        have q1d : wr.drew.cell? ⟨b1, o1 + k, none⟩ = some (.int .i64 x) := q1
        have c0d : wr.drew.cell? ⟨w.heap.size, 0, none⟩ = some (.int .i64 b) := c0
        refine wp_region_steps (S := fun u => u = wr.drew) [.inl 0, .inl 1, .inl 2, .inl 3, .inl 4, .inl 5, .inl 6, .inl 7, .inl 8, .inl 9, .inr (.inl 10), .inl 11, .inl 12] (by kernel_rfl) rfl (by kernel_rfl) (fun d _ _ _ _ h => by cases d <;> exact h) rfl ?_
        simp only [inSt, List.getElem?_cons_zero, List.getElem?_cons_succ]
        refine wpSt_yield (v := .int .i64 (1 + l)) rfl (fun u hu => by subst hu; simp [execOp, Act.eval]) ?_
        simp only [Act.put, List.setIfInBounds_toArray, List.set_cons_succ, List.set_cons_zero]
        refine wpSt_yield (v := .slice (some ⟨b1, o1, none⟩) n cap) rfl (fun u hu => by subst hu; simp [execOp, Act.eval]) ?_
        simp only [Act.put, List.setIfInBounds_toArray, List.set_cons_succ, List.set_cons_zero]
        refine wpSt_yield (v := .int .i64 (k : Int)) rfl (fun u hu => by subst hu; simp [execOp, Act.eval]) ?_
        simp only [Act.put, List.setIfInBounds_toArray, List.set_cons_succ, List.set_cons_zero]
        refine wpSt_yield (v := .pointer (some ⟨b1, o1 + k, none⟩)) rfl (fun u hu => by subst hu; go_simp) ?_
        simp only [Act.put, List.setIfInBounds_toArray, List.set_cons_succ, List.set_cons_zero]
        refine wpSt_yield (v := .int .i64 x) rfl (fun u hu => by subst hu; go_simp) ?_
        simp only [Act.put, List.setIfInBounds_toArray, List.set_cons_succ, List.set_cons_zero]
        refine wpSt_yield (v := .pointer (some ⟨w.heap.size, 0, none⟩)) rfl (fun u hu => by subst hu; go_simp) ?_
        simp only [Act.put, List.setIfInBounds_toArray, List.set_cons_succ, List.set_cons_zero]
        refine wpSt_yield (v := .pointer (some ⟨w.heap.size, 0, none⟩)) rfl (fun u hu => by subst hu; go_simp) ?_
        simp only [Act.put, List.setIfInBounds_toArray, List.set_cons_succ, List.set_cons_zero]
        refine wpSt_yield (v := .int .i64 b) rfl (fun u hu => by subst hu; go_simp) ?_
        simp only [Act.put, List.setIfInBounds_toArray, List.set_cons_succ, List.set_cons_zero]
        refine wpSt_yield (v := .int .i64 (1 + l)) rfl (fun u hu => by subst hu; simp [execOp, Act.eval]) ?_
        simp only [Act.put, List.setIfInBounds_toArray, List.set_cons_succ, List.set_cons_zero]
        refine wpSt_yield (v := .int .i64 (b - (1 + l))) rfl (fun u hu => by subst hu; go_simp) ?_
        simp only [Act.put, List.setIfInBounds_toArray, List.set_cons_succ, List.set_cons_zero]
        have hpk := pick_any x (b - (1 + l)) ⟨by omega, by omega⟩ wr.drew
        have hy0 : 0 ≤ x % (b - (1 + l)) := Int.emod_nonneg _ (by omega)
        have hy1 : x % (b - (1 + l)) < b - (1 + l) := Int.emod_lt_of_pos _ (by omega)
        generalize x % (b - (1 + l)) = y at hpk hy0 hy1
        have hw4 : IntKind.i64.wrap (1 + l + y) = 1 + l + y := by rw [IntKind.wrap_i64]; omega
        refine wpSt_act (act_call rfl 28 _ _ rfl Try.call28 [.int .i64 x, .int .i64 (b - (1 + l))] rfl (hpk.mono ?_))
        rintro e' X ⟨rfl, rfl⟩
        refine ⟨_, rfl, rfl, ?_⟩
        simp only [Act.put, List.setIfInBounds_toArray, List.set_cons_succ, List.set_cons_zero]
        refine wpSt_yield (v := .int .i64 (1 + l + y)) rfl (fun u hu => by subst hu; go_simp) ?_
        simp only [Act.put, List.setIfInBounds_toArray, List.set_cons_succ, List.set_cons_zero]
        refine wpSt_yield (v := .int .i64 (1 + l + y)) rfl (fun u hu => by subst hu; simp [execOp, Act.eval]) ?_
        simp only [Act.put, List.setIfInBounds_toArray, List.set_cons_succ, List.set_cons_zero]
        refine wpSt_nil ?_
        have hz : 1 + l ≤ 1 + l + y ∧ 1 + l + y < b := by omega
        obtain ⟨z, hzz⟩ : ∃ z, 1 + l + y = z := ⟨_, rfl⟩
        rw [hzz] at hz
        simp only [hzz]
        clear hpk hy0 hy1 hw4 hzz q1 q1d c0d c0 c1 c2 c3 c4 c5 c6 c7 c8
        go_wp2
        go_loopw [9, 10] (fun s9 s10 wx => ∃ j : Nat, j ≤ t ∧ s10 = .int .i64 j ∧ s9 = .bool (decide (z ∈ T.take j)) ∧ wx = wr.drew) (fun _ s10 _ => t - (intOf s10).toNat)
        case atStart => exact ⟨0, by omega, rfl, by simp, rfl⟩
        case round =>
          rename_i wr2
          obtain ⟨j, hj, rfl, rfl, rfl⟩ := hrel
          by_cases hj2 : (j : Int) < t
          · have hT := HTt.out
            have hx : T[j]? = some T[j] := List.getElem?_eq_getElem (by omega)
            have htk : T.take (j + 1) = T.take j ++ [T[j]] := by rw [List.take_add_one, hx]; rfl
            obtain ⟨b2, o2, hp2, l2, C2⟩ := HI.out (by omega)
            subst hp2
            generalize T[j] = x2 at hx htk
            have q2 : wr.drew.cell? ⟨b2, o2 + j, none⟩ = some (.int .i64 x2) := C2 j x2 hx
            have hmem : decide (z ∈ T.take (j + 1)) = (decide (z ∈ T.take j) || decide (x2 = z)) := by
              rw [htk]
              simp [eq_comm]
            have HME : Hid _ := hmem
            clear C2 hx htk hT hmem
            generalize decide (z ∈ T.take j) = q at *
            cases q
            · have hm2 : decide (z ∈ T.take (j + 1)) = (x2 == z) := by rw [HME.out]; by_cases h : x2 = z <;> simp [h]
              have HM2 : Hid _ := hm2
              clear hm2 HME
              go_wp2
              exact ⟨⟨j + 1, by omega, by go_num, by rw [HM2.out], trivial⟩, by simp [intOf]; omega⟩
            · have hm2 : decide (z ∈ T.take (j + 1)) = true := by rw [HME.out]; simp
              have HM2 : Hid _ := hm2
              clear hm2 HME
              go_wp2
              exact ⟨⟨j + 1, by omega, by go_num, by rw [HM2.out], trivial⟩, by simp [intOf]; omega⟩
          · obtain rfl : j = t := by omega
            have htk : T.take j = T := List.take_of_length_le (by have := HTt.out; omega)
            rw [htk]
            have hown := HO.out.later (drew_below wr)
            rw [HTt.out] at hown
            have hbd : Below (w.heap.size + 1) (w.alloc (.cells #[.int .i64 b, .int .i64 l, .int .i64 i, .int .i64 a, .int .i64 c, .int .i64 d, .int .i64 e, .int .i64 f, .int .i64 g] 26)) wr.drew := hbel.drew
            have hszd : w.heap.size + 1 ≤ wr.drew.heap.size := hsize
            generalize wr.drew = V at *
            by_cases hz2 : z ∈ T
            · have e : decide (z ∈ T) = true := decide_eq_true hz2
              rw [e]
              clear e htk
              go_wp2
              exact ⟨⟨k + 1, T, by omega, by go_num, hown, HM.out, hbd⟩, by simp [intOf]; omega⟩
            · have e : decide (z ∈ T) = false := decide_eq_false hz2
              rw [e]
              have hmay2 : MayP (1 + l) b (l - 1) (T ++ [z]) := by
                obtain ⟨m1, m2, m3⟩ := HM.out
                refine ⟨by rw [List.length_append]; have := HTt.out; simp; omega, fun y hy => ?_, List.nodup_append.2 ⟨m3, by simp, fun u hu v hv q => ?_⟩⟩
                · rcases List.mem_append.1 hy with hy | hy
                  · exact m2 y hy
                  · rw [List.mem_singleton.1 hy]; exact hz
                · rw [List.mem_singleton.1 hv] at q; exact hz2 (q ▸ hu)
              have HM2 : Hid _ := hmay2
              have hlen2 : T.length ≤ 1048576 := by have := HTt.out; omega
              clear e htk hmay2 hz2
              go_upto_region 13 with fail
              generalize hv : Value.slice pT j cT = v at hown ⊢
              have HV : Hid (Value.slice pT j cT = v) := hv
              clear hv
              go_wp2_with (at_builtin; go_loud (refine wpList_pushZ rfl (.tmp 59) (.tmp 61) rfl (w.heap.size + 1) _ T z rfl rfl hown hlen2 hszd ?_); intro v' w' hown' hg hbel')
              have hv := HV.out
              subst hv
              exact ⟨⟨k + 1, T ++ [z], by omega, by go_num, hown', HM2.out, hbd.trans hbel'⟩, by simp [intOf]; omega⟩
      · have g1 : decide ((t : Int) < l - 1) = false := decide_eq_false ht2
        rw [ht]
        have hown := HO.out
        rw [ht] at hown
        clear ht
        go_wp2
        go_ret
        exact ⟨_, rfl, T, hown, HM.out, HBW.out⟩
    · rw [ht]
      have hown := HO.out
      rw [ht] at hown
      clear ht
      go_wp2
      go_ret
      exact ⟨_, rfl, T, hown, HM.out, HBW.out⟩
end Go.Proofs.Ytgkhheblmknedaa
