/- The bytes of a superblock, as a plain function of its nine numbers: written and read; no condition but the numbers' size. -/
import Derived.Test.YtmblppgmfgjbpabLaid
import Derived.Test.YtmblppgmfgjbpabLay
namespace Go.Proofs.Ytmblppgmfgjbpab
open Go.RowKit

def magicF : Nat → Int
  | 0 => 99 | 1 => 114 | 2 => 111 | 3 => 102 | 4 => 116 | 5 => 102 | 6 => 115 | 7 => 49 | _ => 0
def nine (b l i a c d e f g : Int) : Nat → Int
  | 0 => b | 1 => l | 2 => i | 3 => a | 4 => c | 5 => d | 6 => e | 7 => f | 8 => g | _ => 0
theorem nine_get (b l i a c d e f g : Int) (k : Nat) (h : k < 9) : (lay9 b l i a c d e f g)[k]? = some (.int .i64 (nine b l i a c d e f g k)) := by
  match k, h with
  | 0, _ => rfl
  | 1, _ => rfl
  | 2, _ => rfl
  | 3, _ => rfl
  | 4, _ => rfl
  | 5, _ => rfl
  | 6, _ => rfl
  | 7, _ => rfl
  | 8, _ => rfl
/-- Numbers that four bytes hold. -/
def Four (n : Nat → Int) : Prop := ∀ k, 0 ≤ n k ∧ n k < 4294967296
/-- The bytes of a superblock of the numbers n. -/
def supF (n : Nat → Int) : Nat → Int := fun j => if j < 8 then magicF j else if j < 44 then n ((j - 8) / 4) / 256 ^ ((j - 8) % 4) % 256 else 0
/-- Its first m bytes, noughts behind them. -/
def supK (n : Nat → Int) (m : Nat) : Nat → Int := fun j => if j < m then supF n j else 0
theorem supF_at (n : Nat → Int) (k j : Nat) (hk : k < 9) (hj : j < 4) : supF n (8 + 4 * k + j) = n k / 256 ^ j % 256 := by
  unfold supF
  rw [if_neg (by omega), if_pos (by omega), show (8 + 4 * k + j - 8) / 4 = k by omega, show (8 + 4 * k + j - 8) % 4 = j by omega]
theorem supK_step (n : Nat → Int) (m : Nat) : upd (supK n m) m (supF n m) = supK n (m + 1) := by
  funext j
  unfold upd supK
  by_cases h : j = m
  · subst h; simp
  · by_cases h2 : j < m
    · simp [h, h2, show j < m + 1 by omega]
    · simp [h, h2, show ¬ j < m + 1 by omega]
theorem supK_byte (n : Nat → Int) (k j : Nat) (hk : k < 9) (hj : j < 4) : upd (supK n (8 + 4 * k + j)) (8 + 4 * k + j) (n k / 256 ^ j % 256) = supK n (8 + 4 * k + j + 1) := by
  rw [← supF_at n k j hk hj, supK_step]
theorem supK_put (n : Nat → Int) (k : Nat) (hk : k < 9) : putN (supK n (8 + 4 * k)) (8 + 4 * k) (n k) 4 = supK n (8 + 4 * (k + 1)) := by
  have h0 := supK_byte n k 0 hk (by omega)
  have h1 := supK_byte n k 1 hk (by omega)
  have h2 := supK_byte n k 2 hk (by omega)
  have h3 := supK_byte n k 3 hk (by omega)
  simp only [Nat.add_zero, Int.pow_zero, Int.ediv_one] at h0
  simp only [Int.pow_succ, Int.pow_zero, Int.one_mul] at h1 h2 h3
  simp only [putN]
  rw [h0, h1, show n k / 256 / 256 % 256 = n k / (256 * 256) % 256 by omega, show n k / 256 / 256 / 256 % 256 = n k / (256 * 256 * 256) % 256 by omega]
  rw [show 8 + 4 * k + 1 + 1 = 8 + 4 * k + 2 by omega, h2, show 8 + 4 * k + 2 + 1 = 8 + 4 * k + 3 by omega, h3]
  congr 1
theorem supK_all (n : Nat → Int) : supK n 44 = supF n := by
  funext j
  unfold supK
  split
  · rfl
  · unfold supF; rw [if_neg (by omega), if_neg (by omega)]
theorem sup_lay (n : Nat → Int) : layF nought 0 8 magicF = supK n 8 := by
  funext j
  unfold layF supK supF
  by_cases h : j < 8
  · rw [if_pos (by omega), if_pos h, if_pos h]; congr 1
  · rw [if_neg (by omega), if_neg h]; rfl
theorem supF_read (n : Nat → Int) (hn : Four n) (k : Nat) (hk : k < 9) : numN (supF n) (8 + 4 * k) 4 = n k := by
  rw [num4]
  have h0 := supF_at n k 0 hk (by omega)
  have h1 := supF_at n k 1 hk (by omega)
  have h2 := supF_at n k 2 hk (by omega)
  have h3 := supF_at n k 3 hk (by omega)
  have hb := hn k
  simp only [Nat.add_zero, Int.pow_zero, Int.ediv_one] at h0
  simp only [Int.pow_succ, Int.pow_zero, Int.one_mul] at h1 h2 h3
  rw [h0, h1, h2, h3]
  omega
theorem supF_byte (n : Nat → Int) (j : Nat) : 0 ≤ supF n j ∧ supF n j ≤ 255 := by
  unfold supF
  split
  · unfold magicF; split <;> omega
  · split <;> omega
theorem supK_byte' (n : Nat → Int) (m j : Nat) : 0 ≤ supK n m j ∧ supK n m j ≤ 255 := by
  unfold supK
  split
  · exact supF_byte n j
  · omega
/-- The numbers of a geometry's layout. -/
def nineG (b l i : Int) : Nat → Int := nine b l i 1 (1 + l) (nodeB i) (bitsAt l i) (bitsB b) (dataAt b l i)
theorem Fine.four {b l i : Int} (h : Fine b l i) : Four (nineG b l i) := by
  have hp := h.pos
  unfold Fine dataAt bitsAt nodeB bitsB at h
  intro k
  unfold nineG nine dataAt bitsAt nodeB bitsB
  split <;> omega
/-- The superblock of a geometry. -/
def superF (b l i : Int) : Nat → Int := supF (nineG b l i)
theorem super_nums {b l i : Int} (h : Fine b l i) : numN (superF b l i) 8 4 = b ∧ numN (superF b l i) 12 4 = l ∧ numN (superF b l i) 16 4 = i :=
  ⟨supF_read _ h.four 0 (by omega), supF_read _ h.four 1 (by omega), supF_read _ h.four 2 (by omega)⟩
end Go.Proofs.Ytmblppgmfgjbpab
