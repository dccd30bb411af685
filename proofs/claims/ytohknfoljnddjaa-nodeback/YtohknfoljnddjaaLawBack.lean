/- The law NodeBack walked: true for every two inodes and bytes; no other memory turns. -/
import Derived.Test.YtohknfoljnddjaaAwake
import Derived.Test.YtohknfoljnddjaaThere
namespace Go.Proofs.Ytohknfoljnddjaa
open Go.RowKit

/-- F with noughts at the j places from 60 on. -/
def cutF (F : Nat → Int) (j : Nat) : Nat → Int := fun i => if 60 ≤ i ∧ i < 60 + j then 0 else F i
theorem cutF_next (F : Nat → Int) (j : Nat) : upd (cutF F j) (60 + j) 0 = cutF F (j + 1) := by
  funext i
  unfold upd cutF
  by_cases h : i = 60 + j
  · rw [if_pos h, if_pos (by omega)]
  · rw [if_neg h]
    by_cases h2 : 60 ≤ i ∧ i < 60 + j
    · rw [if_pos h2, if_pos (by omega)]
    · rw [if_neg h2, if_neg (by omega)]
theorem firsts_byte {q : Nat → Int} (h : ∀ i, 0 ≤ q i ∧ q i ≤ 255) (n : Nat) : ∀ i, 0 ≤ firsts q n i ∧ firsts q n i ≤ 255 := fun i => by
  unfold firsts; split
  · exact h i
  · omega
theorem cutF_byte {F : Nat → Int} (h : ∀ i, 0 ≤ F i ∧ F i ≤ 255) (j : Nat) : ∀ i, 0 ≤ cutF F j i ∧ cutF F j i ≤ 255 := fun i => by
  unfold cutF; split
  · omega
  · exact h i
/-- Two inodes' rows and one of bytes, and all that was there. -/
structure SB (w : World) (g : Nat) (N M : Array Value) (G : Nat → Int) (W : World) : Prop where
  rows : W.heap[w.heap.size]? = some (.cells N 27) ∧ W.heap[w.heap.size + 1]? = some (.cells M 27) ∧ W.heap[g]? = some (.cells (rowA G 64) 29)
  bel : Below w.heap.size w W
theorem SB.call {w W W' : World} {g : Nat} {N M : Array Value} {G : Nat → Int} (h : SB w g N M G W) (hb : Below W.heap.size W W') : SB w g N M G W' :=
  ⟨⟨heap_kept h.rows.1 hb, heap_kept h.rows.2.1 hb, heap_kept h.rows.2.2 hb⟩, below_next h.bel hb⟩
theorem SB.drew {w W : World} {g : Nat} {N M : Array Value} {G : Nat → Int} (h : SB w g N M G W) : SB w g N M G W.drew := ⟨h.rows, h.bel.drew⟩
set_option maxRecDepth 20000 in
set_option maxHeartbeats 2000000 in
theorem nodeBack_walk (k l s b : Int) (d : Nat → Int) (k' l' s' b' : Int) (d' : Nat → Int) (p : Value) (n : Nat) (q : Nat → Int) (w : World) (h : NodeOk k l s b d) (h' : NodeOk k' l' s' b' d') (hp : Lies w p n q) (hq : ∀ i, 0 ≤ q i ∧ q i ≤ 255) :
    Calls Try.prog 5 #[.agg (node16 k l s b d), .agg (node16 k' l' s' b' d'), p] w fun e w' => e = .returned (.bool true) ∧ Below w.heap.size w w' := by
  have haw := awake_any
  have hG := cutF_byte (firsts_byte hq n) 4
  have h0 : ∀ i, 60 ≤ i → i < 64 → cutF (firsts q n) 4 i = 0 := fun i h1 h2 => by unfold cutF; rw [if_pos (by omega)]
  have C1 : Hid _ := fun W => encode_any k l s b d W h
  have C2 : Hid _ := fun W => decode_any (encN k l s b d 12) W (enc_byte k l s b d 12)
  have C3 : Hid _ := fun W => decode_any (cutF (firsts q n) 4) W hG
  have C4 : Hid _ := fun W => encode_any _ _ _ _ _ W (dec_ok (cutF (firsts q n) 4) hG)
  have C5 : Hid _ := fun W => encode_any k' l' s' b' d' W h'
  have C6 : Hid _ := fun W => encode_any 0 0 0 0 nought W ⟨by omega, by omega, by omega, by omega, fun i => ⟨Int.le_refl _, show (0 : Int) < 4294967296 by decide⟩⟩
  have hsx : ∀ W, Below w.heap.size w W → Calls Try.prog 8 #[p] W fun e w' => e = .returned (.agg (rowA (firsts q n) 64)) ∧ Below W.heap.size W w' := fun W hb => sixty_any (hp.later hb)
  have Q1 := fun W => eq27 (numN (encN k l s b d 12) 0 2) (numN (encN k l s b d 12) 2 2) (numN (encN k l s b d 12) 4 4) (numN (encN k l s b d 12) 8 4) (decD (encN k l s b d 12)) k l s b d W
  rw [dec_enc h] at Q1
  change ∀ W, (Op.equalIn 10000 27 (.agg (decN (encN k l s b d 12))) (.agg (node16 k l s b d))).run Try.prog W = .ok true W at Q1
  have Q2 := fun W => eq31 (encN (numN (cutF (firsts q n) 4) 0 2) (numN (cutF (firsts q n) 4) 2 2) (numN (cutF (firsts q n) 4) 4 4) (numN (cutF (firsts q n) 4) 8 4) (decD (cutF (firsts q n) 4)) 12) (cutF (firsts q n) 4) W
  rw [enc_dec _ hG h0] at Q2
  have Q3 := fun W => eq31 (encN k l s b d 12) (encN k' l' s' b' d' 12) W
  rw [enc_same h h'] at Q3
  have Q4 := fun W => eq27 k l s b d k' l' s' b' d' W
  have Q5 := fun W => eq31 (encN 0 0 0 0 nought 12) nought W
  rw [show sameN 64 (encN 0 0 0 0 nought 12) nought = true from by decide] at Q5
  have C4' : Hid (∀ W, Calls Try.prog 9 #[.agg (decN (cutF (firsts q n) 4))] W fun e w' => e = .returned (.agg (rowA (encN (numN (cutF (firsts q n) 4) 0 2) (numN (cutF (firsts q n) 4) 2 2) (numN (cutF (firsts q n) 4) 4 4) (numN (cutF (firsts q n) 4) 8 4) (decD (cutF (firsts q n) 4)) 12) 64)) ∧ Below W.heap.size W w') := C4.out
  clear C4 h0 hG
  have z27 := zero27
  have z31 := zero31
  have z29 := zero29
  generalize encN (numN (cutF (firsts q n) 4) 0 2) (numN (cutF (firsts q n) 4) 2 2) (numN (cutF (firsts q n) 4) 4 4) (numN (cutF (firsts q n) 4) 8 4) (decD (cutF (firsts q n) 4)) 12 = EG at *
  generalize decN (cutF (firsts q n) 4) = DG at *
  generalize decN (encN k l s b d 12) = DE at *
  generalize sameNode k l s b d k' l' s' b' d' = V at *
  generalize encN k l s b d 12 = E at *
  generalize encN k' l' s' b' d' 12 = E' at *
  generalize encN 0 0 0 0 nought 12 = E0 at *
  have HN : Hid ((Try.prog.info? 27).map (·.size) = some (node16 k l s b d).size) := size27
  have HM : Hid ((Try.prog.info? 27).map (·.size) = some (node16 k' l' s' b' d').size) := size27
  generalize node16 k l s b d = N at *
  generalize node16 k' l' s' b' d' = M at *
  generalize node16 0 0 0 0 nought = O at *
  generalize firsts q n = F at *
  have HQ1 : Hid _ := Q1
  have HQ2 : Hid _ := Q2
  have HQ3 : Hid _ := Q3
  have HQ4 : Hid _ := Q4
  have HQ5 : Hid _ := Q5
  clear h h' hp hq Q1 Q2 Q3 Q4 Q5
  go_enter Try.func5, Try.ntmps5
  go_wp2_with (first | (go_at_call 18; fail))
  refine (haw _).mono ?_
  rintro e' W1 ⟨rfl, hb1⟩
  have HB1 : Hid _ := below_next (bel_al (below_new w (.cells N 27)) (.cells M 27)) hb1
  go_wp2_with (first | (go_at_call 8; fail))
  refine (hsx _ HB1.out).mono ?_
  rintro e' W2 ⟨rfl, hb2⟩
  have HB2 : Hid _ := below_next HB1.out hb2
  have HR : Hid (W2.heap[w.heap.size]? = some (.cells N 27) ∧ W2.heap[w.heap.size + 1]? = some (.cells M 27)) :=
    ⟨heap_kept (heap_kept (heap_alloc2_old _ _ _) hb1) hb2, heap_kept (heap_kept (heap_alloc2_new _ _ _) hb1) hb2⟩
  clear haw hsx hb1 hb2 HB1
  go_wp2_with (first | refine wpList_stNew 29 rfl _ _ rfl _ _ _ 29 (by rw [rowA_size]; exact size29) (by simp only [rowA_size]) (row64_one _) rfl rfl rfl ?_)
  go_loopw [9] (fun s9 wx => ∃ j : Nat, j ≤ 4 ∧ s9 = .int .i64 (60 + j) ∧ wx = W2.alloc (.cells (rowA (cutF F j) 64) 29)) (fun s9 _ => 64 - (intOf s9).toNat)
  case atStart => exact ⟨0, by omega, rfl, by rw [show rowA F 64 = rowA (cutF F 0) 64 from rowA_congr fun i hi => by unfold cutF; rw [if_neg (by omega)]]⟩
  case round =>
    obtain ⟨j, hj, rfl, rfl⟩ := hrel
    by_cases h4 : (j : Int) < 4
    · have hg := rowA_get (cutF F j) 64 (60 + j) (by omega)
      have hset := rowA_set (cutF F j) 64 (60 + j)
      have HC : Hid _ := cutF_next F j
      have e0 : (60 : Int) + (j : Int) = ((60 + j : Nat) : Int) := by omega
      have HE : Hid (((60 + (j + 1) : Nat) : Int) = 60 + ((j + 1 : Nat) : Int)) := by show _ = _; omega
      rw [e0]
      generalize hm : 60 + j = m at *
      have hm1 : m < 64 := by omega
      have hm2 : 60 ≤ m := by omega
      have HM2 : Hid _ := hm
      clear hm e0
      go_wp2
      exact ⟨⟨j + 1, by omega, by have := HM2.out; go_num, by rw [HC.out]⟩, by simp [intOf]; omega⟩
    · obtain rfl : j = 4 := by omega
      clear hj
      generalize cutF F 4 = G at *
      have HS0 : Hid (SB w W2.heap.size N M G (W2.alloc (.cells (rowA G 64) 29)).drew) := SB.drew ⟨⟨heap_kept HR.out.1 (below_new _ _), heap_kept HR.out.2 (below_new _ _), heap_alloc_new _ _⟩, below_next HB2.out (below_new _ _)⟩
      go_wp2
      refine wp_region_ord (S := fun u => u.heap[w.heap.size]? = some (.cells N 27) ∧ u.heap[w.heap.size + 1]? = some (.cells M 27) ∧ u.heap[W2.heap.size]? = some (.cells (rowA G 64) 29)) [(0, true), (1, true), (2, true), (3, true), (6, true), (4, false), (5, false), (7, true), (8, true), (9, true), (10, true), (13, true), (11, false), (12, false), (14, true), (15, true)]
        (by kernel_rfl) rfl (by kernel_rfl) (fun d _ _ _ _ h => by cases d <;> exact h) HS0.out.rows ?_
      generalize (W2.alloc (.cells (rowA G 64) 29)).drew = wd at *
      clear HR HB2
      simp only [inOrd, List.getElem?_cons_zero, List.getElem?_cons_succ]
      refine wpOrd_yield (v := .bool true) rfl (fun u _ => by simp [execOp, Act.eval]) ?_
      simp only [Act.put, List.setIfInBounds_toArray, List.set_cons_succ, List.set_cons_zero]
      refine wpOrd_yield (v := .bool false) rfl (fun u _ => by go_simp) ?_
      simp only [Act.put, List.setIfInBounds_toArray, List.set_cons_succ, List.set_cons_zero]
      refine wpOrd_yield (v := .bool false) rfl (fun u _ => by simp [execOp, Act.eval]) ?_
      simp only [Act.put, List.setIfInBounds_toArray, List.set_cons_succ, List.set_cons_zero]
      refine wpOrd_ldRT 27 Try.underlying27 rfl rfl _ rfl _ rfl N 27 (0, 0) HN.out (fun u hu => hu.1) ?_
      simp only [Act.put, List.setIfInBounds_toArray, List.set_cons_succ, List.set_cons_zero]
      refine wpOrd_ldRT 27 Try.underlying27 rfl rfl _ rfl _ rfl N 27 (0, 0) HN.out (fun u hu => hu.1) ?_
      simp only [Act.put, List.setIfInBounds_toArray, List.set_cons_succ, List.set_cons_zero]
      refine wpOrd_call rfl 9 _ _ rfl Try.call9 [.agg N] rfl ?_
      refine (C1.out _).mono ?_
      rintro e' X1 ⟨rfl, hb⟩
      have HS1 : Hid _ := SB.call HS0.out hb
      clear hb HS0 
      refine ⟨_, rfl, HS1.out.rows, ?_⟩
      simp only [Act.put, List.setIfInBounds_toArray, List.set_cons_succ, List.set_cons_zero]
      refine wpOrd_call rfl 11 _ _ rfl Try.call11 [.agg (rowA E 64)] rfl ?_
      refine (C2.out _).mono ?_
      rintro e' X2 ⟨rfl, hb⟩
      have HS2 : Hid _ := SB.call HS1.out hb
      clear hb HS1 C2
      refine ⟨_, rfl, HS2.out.rows, ?_⟩
      simp only [Act.put, List.setIfInBounds_toArray, List.set_cons_succ, List.set_cons_zero]
      have Q1 := HQ1.out
      refine wpOrd_yield (v := .bool false) rfl (fun u _ => by go_simp) ?_
      simp only [Act.put, List.setIfInBounds_toArray, List.set_cons_succ, List.set_cons_zero]
      clear Q1 HQ1
      refine wpOrd_yield (v := .bool false) rfl (fun u _ => by go_simp) ?_
      simp only [Act.put, List.setIfInBounds_toArray, List.set_cons_succ, List.set_cons_zero]
      refine wpOrd_yield (v := .bool false) rfl (fun u _ => by simp [execOp, Act.eval]) ?_
      simp only [Act.put, List.setIfInBounds_toArray, List.set_cons_succ, List.set_cons_zero]
      refine wpOrd_ldRT 29 Try.underlying29 rfl rfl _ rfl _ rfl (rowA G 64) 29 (0, 0) (by rw [rowA_size]; exact size29) (fun u hu => hu.2.2) ?_
      simp only [Act.put, List.setIfInBounds_toArray, List.set_cons_succ, List.set_cons_zero]
      refine wpOrd_ldRT 29 Try.underlying29 rfl rfl _ rfl _ rfl (rowA G 64) 29 (0, 0) (by rw [rowA_size]; exact size29) (fun u hu => hu.2.2) ?_
      simp only [Act.put, List.setIfInBounds_toArray, List.set_cons_succ, List.set_cons_zero]
      refine wpOrd_call rfl 11 _ _ rfl Try.call11 [.agg (rowA G 64)] rfl ?_
      refine (C3.out _).mono ?_
      rintro e' X3 ⟨rfl, hb⟩
      have HS3 : Hid _ := SB.call HS2.out hb
      clear hb HS2 C3
      refine ⟨_, rfl, HS3.out.rows, ?_⟩
      simp only [Act.put, List.setIfInBounds_toArray, List.set_cons_succ, List.set_cons_zero]
      refine wpOrd_call rfl 9 _ _ rfl Try.call9 [.agg DG] rfl ?_
      refine (C4'.out _).mono ?_
      rintro e' X4 ⟨rfl, hb⟩
      have HS4 : Hid _ := SB.call HS3.out hb
      clear hb HS3 C4'
      refine ⟨_, rfl, HS4.out.rows, ?_⟩
      simp only [Act.put, List.setIfInBounds_toArray, List.set_cons_succ, List.set_cons_zero]
      have Q2 := HQ2.out
      refine wpOrd_yield (v := .bool false) rfl (fun u _ => by go_simp) ?_
      simp only [Act.put, List.setIfInBounds_toArray, List.set_cons_succ, List.set_cons_zero]
      clear Q2 HQ2
      refine wpOrd_yield (v := .bool false) rfl (fun u _ => by go_simp) ?_
      simp only [Act.put, List.setIfInBounds_toArray, List.set_cons_succ, List.set_cons_zero]
      refine wpOrd_nil ?_
      go_wp2
      have HT0 : Hid _ := SB.drew HS4.out
      refine wp_region_ord (S := fun u => u.heap[w.heap.size]? = some (.cells N 27) ∧ u.heap[w.heap.size + 1]? = some (.cells M 27) ∧ u.heap[W2.heap.size]? = some (.cells (rowA G 64) 29)) [(0, true), (2, true), (5, true), (6, true), (7, true), (1, false), (3, false), (4, true), (8, true), (9, true), (10, true), (12, true), (11, false), (13, true), (14, true), (15, true)]
        (by kernel_rfl) rfl (by kernel_rfl) (fun d _ _ _ _ h => by cases d <;> exact h) HT0.out.rows ?_
      generalize X4.drew = we at *
      clear HS4
      simp only [inOrd, List.getElem?_cons_zero, List.getElem?_cons_succ]
      refine wpOrd_ldRT 27 Try.underlying27 rfl rfl _ rfl _ rfl N 27 (0, 0) HN.out (fun u hu => hu.1) ?_
      simp only [Act.put, List.setIfInBounds_toArray, List.set_cons_succ, List.set_cons_zero]
      refine wpOrd_ldRT 27 Try.underlying27 rfl rfl _ rfl _ rfl M 27 (0, 0) HM.out (fun u hu => hu.2.1) ?_
      simp only [Act.put, List.setIfInBounds_toArray, List.set_cons_succ, List.set_cons_zero]
      refine wpOrd_ldRT 27 Try.underlying27 rfl rfl _ rfl _ rfl N 27 (0, 0) HN.out (fun u hu => hu.1) ?_
      simp only [Act.put, List.setIfInBounds_toArray, List.set_cons_succ, List.set_cons_zero]
      refine wpOrd_ldRT 27 Try.underlying27 rfl rfl _ rfl _ rfl M 27 (0, 0) HM.out (fun u hu => hu.2.1) ?_
      simp only [Act.put, List.setIfInBounds_toArray, List.set_cons_succ, List.set_cons_zero]
      have Q4 := HQ4.out
      refine wpOrd_yield (v := .bool V) rfl (fun u _ => by go_simp) ?_
      simp only [Act.put, List.setIfInBounds_toArray, List.set_cons_succ, List.set_cons_zero]
      clear Q4 HQ4
      refine wpOrd_call rfl 9 _ _ rfl Try.call9 [.agg N] rfl ?_
      refine (C1.out _).mono ?_
      rintro e' X5 ⟨rfl, hb⟩
      have HS5 : Hid _ := SB.call HT0.out hb
      clear hb HT0 
      refine ⟨_, rfl, HS5.out.rows, ?_⟩
      simp only [Act.put, List.setIfInBounds_toArray, List.set_cons_succ, List.set_cons_zero]
      refine wpOrd_call rfl 9 _ _ rfl Try.call9 [.agg M] rfl ?_
      refine (C5.out _).mono ?_
      rintro e' X6 ⟨rfl, hb⟩
      have HS6 : Hid _ := SB.call HS5.out hb
      clear hb HS5 C5
      refine ⟨_, rfl, HS6.out.rows, ?_⟩
      simp only [Act.put, List.setIfInBounds_toArray, List.set_cons_succ, List.set_cons_zero]
      have Q3 := HQ3.out
      refine wpOrd_yield (v := .bool V) rfl (fun u _ => by go_simp) ?_
      simp only [Act.put, List.setIfInBounds_toArray, List.set_cons_succ, List.set_cons_zero]
      clear Q3 HQ3
      refine wpOrd_yield (v := .bool true) rfl (fun u _ => by go_simp) ?_
      simp only [Act.put, List.setIfInBounds_toArray, List.set_cons_succ, List.set_cons_zero]
      refine wpOrd_yield (v := .bool true) rfl (fun u _ => by simp [execOp, Act.eval]) ?_
      simp only [Act.put, List.setIfInBounds_toArray, List.set_cons_succ, List.set_cons_zero]
      refine wpOrd_yield (v := .agg O) rfl (fun u _ => by go_simp) ?_
      simp only [Act.put, List.setIfInBounds_toArray, List.set_cons_succ, List.set_cons_zero]
      refine wpOrd_yield (v := .agg (rowA nought 64)) rfl (fun u _ => by go_simp) ?_
      simp only [Act.put, List.setIfInBounds_toArray, List.set_cons_succ, List.set_cons_zero]
      refine wpOrd_call rfl 9 _ _ rfl Try.call9 [.agg O] rfl ?_
      refine (C6.out _).mono ?_
      rintro e' X7 ⟨rfl, hb⟩
      have HS7 : Hid _ := SB.call HS6.out hb
      clear hb HS6 C6
      refine ⟨_, rfl, HS7.out.rows, ?_⟩
      simp only [Act.put, List.setIfInBounds_toArray, List.set_cons_succ, List.set_cons_zero]
      have Q5 := HQ5.out
      refine wpOrd_yield (v := .bool true) rfl (fun u _ => by go_simp) ?_
      simp only [Act.put, List.setIfInBounds_toArray, List.set_cons_succ, List.set_cons_zero]
      clear Q5 HQ5
      refine wpOrd_yield (v := .bool true) rfl (fun u _ => by go_simp) ?_
      simp only [Act.put, List.setIfInBounds_toArray, List.set_cons_succ, List.set_cons_zero]
      refine wpOrd_yield (v := .bool true) rfl (fun u _ => by simp [execOp, Act.eval]) ?_
      simp only [Act.put, List.setIfInBounds_toArray, List.set_cons_succ, List.set_cons_zero]
      refine wpOrd_nil ?_
      go_wp2
      go_ret
      exact ⟨rfl, HS7.out.bel⟩
end Go.Proofs.Ytohknfoljnddjaa
