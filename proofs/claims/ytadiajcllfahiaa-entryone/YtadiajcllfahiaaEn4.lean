/- The text that stands in a name's fourteen bytes. -/
import Derived.Test.YtadiajcllfahiaaEn3b
import Derived.Laws.IdiomStrings
import Derived.Deep.Cut
namespace Go.Proofs.Ytadiajcllfahiaa
open Go.RowKit Go.Maps
/-- How many of the first m stand ahead of the first nought. -/
def upto (g : Nat → Int) : Nat → Nat
  | 0 => 0
  | m + 1 => if upto g m = m ∧ ¬ g m = 0 then m + 1 else upto g m
theorem upto_le (g : Nat → Int) : ∀ m, upto g m ≤ m
  | 0 => Nat.le_refl _
  | m + 1 => by
    have := upto_le g m
    unfold upto
    split <;> omega
theorem upto_some (g : Nat → Int) : ∀ m k, k < upto g m → ¬ g k = 0
  | 0, k, h => absurd h (Nat.not_lt_zero k)
  | m + 1, k, h => by
    unfold upto at h
    split at h
    · rename_i q
      by_cases e : k = m
      · subst e; exact q.2
      · exact upto_some g m k (by omega)
    · exact upto_some g m k h
theorem upto_end (g : Nat → Int) : ∀ m, upto g m < m → g (upto g m) = 0
  | 0, h => absurd h (Nat.not_lt_zero _)
  | m + 1, h => by
    unfold upto at h ⊢
    split at h
    · omega
    · rename_i q
      rw [if_neg q]
      by_cases e : upto g m = m
      · rw [e]
        by_cases e2 : g m = 0
        · exact e2
        · exact absurd ⟨e, e2⟩ q
      · exact upto_end g m (by have := upto_le g m; omega)
theorem upto_is (g : Nat → Int) (m k : Nat) (hk : k ≤ m) (h1 : ∀ j, j < k → ¬ g j = 0) (h2 : k < m → g k = 0) : upto g m = k := by
  have a := upto_le g m
  rcases Nat.lt_trichotomy (upto g m) k with h | h | h
  · exact absurd (upto_end g m (by omega)) (h1 _ h)
  · exact h
  · exact absurd (h2 (by omega)) (upto_some g m k h)
def toB (x : Int) : UInt8 := UInt8.ofNat x.toNat
theorem toB_nat {x : Int} (h : 0 ≤ x ∧ x ≤ 255) : (((toB x).toNat : Nat) : Int) = x := by
  unfold toB
  rw [UInt8.toNat_ofNat', Nat.mod_eq_of_lt (by omega)]
  omega
/-- The first n bytes as a text. -/
def txt (g : Nat → Int) (n : Nat) : ByteArray := ⟨((List.range n).map fun k => toB (g k)).toArray⟩
theorem txt_size (g : Nat → Int) (n : Nat) : (txt g n).size = n := by
  show ((List.range n).map fun k => toB (g k)).toArray.size = n
  simp
theorem txt_zero (g : Nat → Int) : txt g 0 = ⟨#[]⟩ := rfl
theorem txt_byt (g : Nat → Int) (n k : Nat) (hk : k < n) (hg : 0 ≤ g k ∧ g k ≤ 255) : byt (txt g n) k = g k := by
  unfold byt
  rw [dif_pos (by rw [txt_size]; exact hk)]
  have e : (txt g n)[k]'(by rw [txt_size]; exact hk) = toB (g k) := by
    have h : (txt g n).data[k]? = some (toB (g k)) := by unfold txt; simp [hk]
    exact (Array.getElem?_eq_some_iff.1 h).2
  rw [e]
  exact toB_nat hg
theorem txt_step (g : Nat → Int) (k : Nat) : txt g k ++ ⟨[toB (g k)].toArray⟩ = txt g (k + 1) := by
  apply ByteArray.ext
  rw [ByteArray.data_append]
  unfold txt
  simp [List.range_succ]
theorem txt_congr {g h : Nat → Int} {n : Nat} (e : ∀ k, k < n → g k = h k) : txt g n = txt h n := by
  unfold txt
  congr 2
  exact List.map_congr_left fun k hk => by rw [e k (List.mem_range.1 hk)]
theorem slice14 (b n : Nat) (h : n ≤ 14) (u : World) : (Instr.sliceAt 51 (.pointer (some ⟨b, 0, none⟩)) none (some (.int .i64 (n : Int))) none).run Try.prog u = .ok (.slice (some ⟨b, 0, none⟩) n 14) u := by
  have ea : Try.prog.arrayLen 51 = 14 := by kernel_rfl
  have ee : Try.prog.elem 51 = 5 := by kernel_rfl
  have h := run_sliceAt_array_h (P := Try.prog) u 51 ⟨b, 0, none⟩ (by rw [ea, ee]; exact Try.underlying51) .i64 (n : Int) (by omega) (by rw [ea]; omega)
  rw [h, ea, ee]
  simp [Try.sizeOf5, slicedAt, Addr.add]
set_option maxRecDepth 20000 in
set_option maxHeartbeats 1000000 in
theorem text_any (g : Nat → Int) (w : World) (hg : ∀ k, k < 14 → 0 ≤ g k ∧ g k ≤ 255) :
    Calls Try.prog 21 #[.agg (rowN .u8 g 14)] w fun e w' => e = .returned (.string (txt g (upto g 14))) ∧ Below w.heap.size w w' := by
  have hrow : (w.alloc (.cells (rowN .u8 g 14) 51)).heap[w.heap.size]? = some (.cells (rowN .u8 g 14) 51) := heap_alloc_new _ _
  have HB : Hid _ := below_new w (.cells (rowN .u8 g 14) 51)
  have HC : Hid (∀ k, k < 14 → (w.alloc (.cells (rowN .u8 g 14) 51)).cell? ⟨w.heap.size, k, none⟩ = some (.int .u8 (g k))) := fun k hk => cell_rowN hrow hk
  have HV : Hid (∀ n, n ≤ 14 → ∀ c, (convert 46 9 (.slice (some ⟨w.heap.size, 0, none⟩) n c)).run Try.prog (w.alloc (.cells (rowN .u8 g 14) 51)) = .ok (.string (txt g n)) (w.alloc (.cells (rowN .u8 g 14) 51))) := fun n hn c => by
    have h := run_convert_bytes_back (P := Try.prog) (w.alloc (.cells (rowN .u8 g 14) 51)) 46 9 5 ⟨w.heap.size, 0, none⟩ c ((List.range n).map fun k => toB (g k)) Try.underlying46 Try.underlying5 Try.underlying9 fun j hj => by
      have hj2 : j < n := by simpa using hj
      rw [Go.WideShapes.add_plain, Nat.zero_add, cell_rowN hrow (by omega)]
      simp only [List.getElem_map, List.getElem_range]
      rw [toB_nat (hg j (by omega))]
    rw [List.length_map, List.length_range] at h
    exact h
  clear hrow
  go_enter Try.func21, Try.ntmps21
  go_wp2
  generalize w.alloc (.cells (rowN .u8 g 14) 51) = V at *
  go_loopw [3] (fun s3 wx => wx = V ∧ ∃ k : Nat, k ≤ 14 ∧ Hid (∀ j, j < k → ¬ g j = 0) ∧ s3 = .int .i64 k) (fun s3 _ => 14 - (intOf s3).toNat)
  case atStart => exact ⟨rfl, 0, by omega, fun j hj => absurd hj (Nat.not_lt_zero j), rfl⟩
  case round =>
    obtain ⟨rfl, k, hk, HO, rfl⟩ := hrel
    by_cases h14 : (k : Int) < 14
    · have ck := HC.out k (by omega)
      by_cases h0 : g k = 0
      · rw [h0] at ck
        have HU : Hid (upto g 14 = k) := upto_is g 14 k hk HO.out (fun _ => h0)
        have hcv := HV.out k hk
        have hsl := slice14 w.heap.size k hk
        clear h0 HO
        go_wp2
        go_ret
        exact ⟨by rw [HU.out]; rfl, HB.out⟩
      · have HO2 : Hid (∀ j, j < k + 1 → ¬ g j = 0) := fun j hj => by
          by_cases e : j = k
          · subst e; exact h0
          · exact HO.out j (by omega)
        have g0 : (g k == 0) = false := beq_eq_false_iff_ne.2 h0
        generalize g k = q at *
        clear HO
        go_wp2
        exact ⟨⟨trivial, k + 1, by omega, HO2, by go_num⟩, by simp [intOf]; omega⟩
    · obtain rfl : k = 14 := by omega
      have HU : Hid (upto g 14 = 14) := upto_is g 14 14 hk HO.out (fun h => by omega)
      have hcv := HV.out 14 hk
      have hsl := slice14 w.heap.size 14 hk
      clear HO
      go_wp2
      go_ret
      exact ⟨by rw [HU.out]; rfl, HB.out⟩
end Go.Proofs.Ytadiajcllfahiaa
