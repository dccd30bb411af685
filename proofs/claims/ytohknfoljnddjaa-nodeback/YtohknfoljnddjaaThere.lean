/- An inode's bytes say that inode, and bytes whose last four are noughts are those of the inode that they say: plain numbers. -/
import Derived.Test.YtohknfoljnddjaaDec
import Derived.Test.YtohknfoljnddjaaNEq
namespace Go.Proofs.Ytohknfoljnddjaa
open Go.RowKit

theorem putN_out : ∀ (n k : Nat) (f : Nat → Int) (v : Int) (i : Nat), i < k ∨ k + n ≤ i → putN f k v n i = f i
  | 0, _, _, _, _, _ => rfl
  | n + 1, k, f, v, i, h => by
    simp only [putN]
    rw [putN_out n (k + 1) _ _ i (by omega)]
    unfold upd
    rw [if_neg (by omega)]
theorem putN_byte : ∀ (n k : Nat) (f : Nat → Int) (v : Int), (∀ i, 0 ≤ f i ∧ f i ≤ 255) → ∀ i, 0 ≤ putN f k v n i ∧ putN f k v n i ≤ 255
  | 0, _, _, _, h, i => h i
  | n + 1, k, f, v, h, i => by
    simp only [putN]
    refine putN_byte n (k + 1) _ _ (fun j => ?_) i
    unfold upd
    split
    · omega
    · exact h j
theorem numN_same {F f : Nat → Int} : ∀ (n k : Nat), (∀ i, k ≤ i → i < k + n → F i = f i) → numN F k n = numN f k n
  | 0, _, _ => rfl
  | n + 1, k, h => by
    simp only [numN]
    rw [h k (by omega) (by omega), numN_same n (k + 1) fun i h1 h2 => h i (by omega) (by omega)]
theorem numN_other (f : Nat → Int) (k : Nat) (v : Int) (n k' n' : Nat) (h : k' + n' ≤ k ∨ k + n ≤ k') : numN (putN f k v n) k' n' = numN f k' n' :=
  numN_same n' k' fun i h1 h2 => putN_out n k f v i (by omega)
theorem numN_two (f : Nat → Int) (k : Nat) (v : Int) (h : 0 ≤ v ∧ v < 65536) : numN (putN f k v 2) k 2 = v := by
  rw [num2, put2 f k v h]
  simp [upd]
  omega
theorem numN_four (f : Nat → Int) (k : Nat) (v : Int) (h : 0 ≤ v ∧ v < 4294967296) : numN (putN f k v 4) k 4 = v := by
  rw [num4, put4 f k v h]
  simp [upd]
  omega
theorem numN_inj {F G : Nat → Int} (hF : ∀ i, 0 ≤ F i ∧ F i ≤ 255) (hG : ∀ i, 0 ≤ G i ∧ G i ≤ 255) : ∀ (n k : Nat), numN F k n = numN G k n → ∀ i, k ≤ i → i < k + n → F i = G i
  | 0, _, _, _, h1, h2 => absurd h2 (by omega)
  | n + 1, k, h, i, h1, h2 => by
    simp only [numN] at h
    have a := hF k
    have c := hG k
    by_cases e : i = k
    · subst e; omega
    · exact numN_inj hF hG n (k + 1) (by omega) i (by omega) (by omega)

variable {k l s b : Int} {d : Nat → Int}
theorem enc_byte (k l s b : Int) (d : Nat → Int) : ∀ m i, 0 ≤ encN k l s b d m i ∧ encN k l s b d m i ≤ 255
  | 0 => putN_byte _ _ _ _ (putN_byte _ _ _ _ (putN_byte _ _ _ _ (putN_byte _ _ _ _ fun _ => ⟨Int.le_refl _, show (0 : Int) ≤ 255 by decide⟩)))
  | m + 1 => putN_byte _ _ _ _ (enc_byte k l s b d m)
theorem enc_far (k l s b : Int) (d : Nat → Int) : ∀ m i, 12 + 4 * m ≤ i → encN k l s b d m i = 0
  | 0, i, h => by
    simp only [encN]
    rw [putN_out _ _ _ _ i (by omega), putN_out _ _ _ _ i (by omega), putN_out _ _ _ _ i (by omega), putN_out _ _ _ _ i (by omega)]; rfl
  | m + 1, i, h => by
    simp only [encN]
    rw [putN_out _ _ _ _ i (by omega), enc_far k l s b d m i (by omega)]
theorem enc_head (h : NodeOk k l s b d) : ∀ m, numN (encN k l s b d m) 0 2 = k ∧ numN (encN k l s b d m) 2 2 = l ∧ numN (encN k l s b d m) 4 4 = s ∧ numN (encN k l s b d m) 8 4 = b
  | 0 => by
    simp only [encN]
    refine ⟨?_, ?_, ?_, numN_four _ _ _ h.b⟩
    · rw [numN_other _ _ _ _ _ _ (by omega), numN_other _ _ _ _ _ _ (by omega), numN_other _ _ _ _ _ _ (by omega), numN_two _ _ _ h.k]
    · rw [numN_other _ _ _ _ _ _ (by omega), numN_other _ _ _ _ _ _ (by omega), numN_two _ _ _ h.l]
    · rw [numN_other _ _ _ _ _ _ (by omega), numN_four _ _ _ h.s]
  | m + 1 => by
    simp only [encN]
    rw [numN_other _ _ _ _ _ _ (by omega), numN_other _ _ _ _ _ _ (by omega), numN_other _ _ _ _ _ _ (by omega), numN_other _ _ _ _ _ _ (by omega)]
    exact enc_head h m
theorem enc_num (h : NodeOk k l s b d) : ∀ m i, i < m → numN (encN k l s b d m) (12 + 4 * i) 4 = d i
  | 0, i, hi => absurd hi (by omega)
  | m + 1, i, hi => by
    simp only [encN]
    by_cases e : i = m
    · subst e; exact numN_four _ _ _ (h.d i)
    · rw [numN_other _ _ _ _ _ _ (by omega)]; exact enc_num h m i (by omega)
theorem dec_enc (h : NodeOk k l s b d) : sameNode (numN (encN k l s b d 12) 0 2) (numN (encN k l s b d 12) 2 2) (numN (encN k l s b d 12) 4 4) (numN (encN k l s b d 12) 8 4) (decD (encN k l s b d 12)) k l s b d = true :=
  (sameNode_iff ..).2 ⟨(enc_head h 12).1, (enc_head h 12).2.1, (enc_head h 12).2.2.1, (enc_head h 12).2.2.2, fun i hi => enc_num h 12 i hi⟩
theorem dec_ok (f : Nat → Int) (hf : ∀ i, 0 ≤ f i ∧ f i ≤ 255) : NodeOk (numN f 0 2) (numN f 2 2) (numN f 4 4) (numN f 8 4) (decD f) :=
  ⟨by have := numN_bd f hf 2 0; omega, by have := numN_bd f hf 2 2; omega, by have := numN_bd f hf 4 4; omega, by have := numN_bd f hf 4 8; omega, fun i => by have := numN_bd f hf 4 (12 + 4 * i); unfold decD; omega⟩
theorem enc_dec (f : Nat → Int) (hf : ∀ i, 0 ≤ f i ∧ f i ≤ 255) (h0 : ∀ i, 60 ≤ i → i < 64 → f i = 0) : sameN 64 (encN (numN f 0 2) (numN f 2 2) (numN f 4 4) (numN f 8 4) (decD f) 12) f = true := by
  rw [sameN_iff]
  intro i hi
  have ok := dec_ok f hf
  have hE := enc_byte (numN f 0 2) (numN f 2 2) (numN f 4 4) (numN f 8 4) (decD f) 12
  have hh := enc_head ok 12
  by_cases h1 : i < 2
  · exact numN_inj hE hf 2 0 hh.1 i (by omega) (by omega)
  · by_cases h2 : i < 4
    · exact numN_inj hE hf 2 2 hh.2.1 i (by omega) (by omega)
    · by_cases h3 : i < 8
      · exact numN_inj hE hf 4 4 hh.2.2.1 i (by omega) (by omega)
      · by_cases h4 : i < 12
        · exact numN_inj hE hf 4 8 hh.2.2.2 i (by omega) (by omega)
        · by_cases h5 : i < 60
          · exact numN_inj hE hf 4 (12 + 4 * ((i - 12) / 4)) (enc_num ok 12 ((i - 12) / 4) (by omega)) i (by omega) (by omega)
          · rw [h0 i (by omega) hi]
            exact enc_far _ _ _ _ _ 12 i (by omega)
theorem enc_congr {d' : Nat → Int} : ∀ m, (∀ i, i < m → d i = d' i) → encN k l s b d m = encN k l s b d' m
  | 0, _ => rfl
  | m + 1, h => by
    simp only [encN]
    rw [enc_congr m fun i hi => h i (by omega), h m (by omega)]
theorem enc_same {k' l' s' b' : Int} {d' : Nat → Int} (h : NodeOk k l s b d) (h' : NodeOk k' l' s' b' d') : sameN 64 (encN k l s b d 12) (encN k' l' s' b' d' 12) = sameNode k l s b d k' l' s' b' d' := by
  rw [Bool.eq_iff_iff, sameN_iff, sameNode_iff]
  constructor
  · intro q
    have e : ∀ (k0 n : Nat), k0 + n ≤ 64 → numN (encN k l s b d 12) k0 n = numN (encN k' l' s' b' d' 12) k0 n := fun k0 n hn => numN_same n k0 fun i h1 h2 => q i (by omega)
    have a := enc_head h 12
    have c := enc_head h' 12
    refine ⟨?_, ?_, ?_, ?_, fun i hi => ?_⟩
    · rw [← a.1, ← c.1]; exact e 0 2 (by omega)
    · rw [← a.2.1, ← c.2.1]; exact e 2 2 (by omega)
    · rw [← a.2.2.1, ← c.2.2.1]; exact e 4 4 (by omega)
    · rw [← a.2.2.2, ← c.2.2.2]; exact e 8 4 (by omega)
    · rw [← enc_num h 12 i hi, ← enc_num h' 12 i hi]; exact e _ 4 (by omega)
  · rintro ⟨rfl, rfl, rfl, rfl, q⟩ i _
    rw [enc_congr 12 q]
end Go.Proofs.Ytohknfoljnddjaa
