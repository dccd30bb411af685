/- Cut of slab: bytes as blocks, noughts behind the last; for every slice of fewer than 2 to the 47th bytes. -/
import Derived.Test.YtedbgeibhaiheaaLay
namespace Go.Proofs.Ytedbgeibhaiheaa
open Go.RowKit

theorem info25b : (Try.prog.info? 25).map (fun i => (i.zero, i.size, i.bytes)) = some (some (.agg (blk nought)), 1024, 1024) := by kernel_rfl
theorem made_blocks (n : Nat) : madeCells (blk nought) (n * 1024) = rowA nought (n * 1024) :=
  rowA_ext (by simp [madeCells]) fun i hi => by
    have h : i % 1024 < 1024 := Nat.mod_lt _ (by decide)
    have hb := blk_get nought (i % 1024) h
    have hb' : (blk nought)[i % 1024]! = .int .u8 0 := by
      rw [Array.getElem!_eq_getD, Array.getD_eq_getD_getElem?, hb]; rfl
    simp [madeCells, hi, blk_size, hb', nought]
theorem run_make25 (u : World) (x : Int) (n : Nat) (hx : x = (n : Int)) (hn : n * 1024 ≤ 281474976710656) :
    (Instr.makeSlice 43 (.int .i64 x) (.int .i64 x)).run Try.prog u = .ok (.slice (some ⟨u.heap.size, 0, none⟩) n n) (u.alloc (.cells (rowA nought (n * 1024)) 25)) := by
  obtain ⟨i0, hi0, hz0, hz1, hz2⟩ := info_parts info25b
  have h := run_make (P := Try.prog) u 43 25 i0 (.agg (blk nought)) Try.underlying43 hi0 hz0 .i64 .i64 x x (by omega) (Int.le_refl _) (by rw [hz2]; omega) (by omega)
  rw [show x.toNat = n by omega, hz1] at h
  simpa [Value.cells, made_blocks] using h

theorem slice22l (b off n cap l : Nat) (x : Int) (hx : x = (l : Int)) (hl : l < n) (hn : n ≤ cap) (u : World) :
    (Instr.slice 22 (.slice (some ⟨b, off, none⟩) n cap) (some (.int .i64 x)) none none).run Try.prog u = .ok (.slice (some ⟨b, off + l, none⟩) (n - l) (cap - l)) u := by
  have ee : Try.prog.elem 22 = 5 := by kernel_rfl
  have h := run_slice_l (P := Try.prog) u 22 (some ⟨b, off, none⟩) n cap (by rw [ee]; exact Try.underlying22) .i64 x (by omega) (by omega)
  have hc : ¬ cap = l := by omega
  rw [h, ee, show x.toNat = l by omega]
  simp [Try.sizeOf5, sliced, hc, Addr.add]
theorem wpStill_slice22l {ops : Array Oper} {Q : Act → Prop} {a : Act} {o : Oper} {rest : List Oper} {w : World} (hgd : o.guard = none) (x y : Operand) (ho : o.op = .slice 22 x (some y) none none)
    (b off n cap l : Nat) (z : Int) (hx : a.eval x = .slice (some ⟨b, off, none⟩) n cap) (hy : a.eval y = .int .i64 z) (hz : z = (l : Int)) (hl : l < n) (hn : n ≤ cap)
    (h : wpStill Try.prog ops w Q rest (a.put o.dst (.slice (some ⟨b, off + l, none⟩) (n - l) (cap - l)))) : wpStill Try.prog ops w Q (o :: rest) a := by
  have ee : Try.prog.elem 22 = 5 := by kernel_rfl
  have hr := slice22l b off n cap l z hz hl hn w
  have hr' : (Instr.sliceAt 22 (.slice (some ⟨b, off, none⟩) n cap) (some (.int .i64 z)) none none).run Try.prog w = .ok (.slice (some ⟨b, off + l, none⟩) (n - l) (cap - l)) w :=
    (run_sliceAt_slice (P := Try.prog) w 22 _ _ _ _ (by rw [ee]; exact Try.underlying22)).trans hr
  unfold wpStill
  rw [if_pos (by simp [Region.wanted, hgd])]
  unfold Oper.still execOp
  simp only [ho, hx, hy, Option.map, Sem.run_bind, hr', Result.andThen_ok, Sem.run_pure, Oper.stillUpon]
  exact ⟨trivial, h⟩
/-- So many blocks do m bytes take. -/
def blocksOf (m : Nat) : Nat := (m + 1023) / 1024

set_option maxRecDepth 20000 in
set_option maxHeartbeats 1000000 in
theorem cut_some (b off m cap : Nat) (q : Nat → Int) (w : World) (hm : m ≤ 140737488355328) (hcap : m ≤ cap) (hb : b < w.heap.size) (hc : ∀ i, i < m → w.cell? ⟨b, off + i, none⟩ = some (.int .u8 (q i))) :
    Calls Try.prog 31 #[.slice (some ⟨b, off, none⟩) m cap] w fun e w' => e = .returned (.slice (some ⟨w.heap.size, 0, none⟩) (blocksOf m) (blocksOf m)) ∧
      w'.heap[w.heap.size]? = some (.cells (rowA (firsts q m) (blocksOf m * 1024)) 25) ∧ w'.heap.size = w.heap.size + 1 ∧ Below w.heap.size w w' := by
  obtain ⟨N, hN⟩ : ∃ N, N = blocksOf m := ⟨_, rfl⟩
  rw [← hN]
  unfold blocksOf at hN
  have hN1 : m ≤ N * 1024 := by omega
  have hN2 : N * 1024 ≤ m + 1023 := by omega
  have hmk1 := fun (h : (0 : Int) < (m : Int) % 1024) u => run_make25 u ((m : Int) / 1024 + 1) N (by omega) (by omega)
  have hmk0 := fun (h : ¬ (0 : Int) < (m : Int) % 1024) u => run_make25 u ((m : Int) / 1024) N (by omega) (by omega)
  clear hN
  by_cases h0 : (0 : Int) < (m : Int) % 1024
  all_goals
    first | (have hmk := hmk1 h0) | (have hmk := hmk0 h0)
    clear hmk0 hmk1
    go_enter Try.func31, Try.ntmps31
    go_wp2
    clear hmk
    go_loopw [19] (fun s19 wx => ∃ k : Nat, (k : Int) ≤ N ∧ s19 = .int .i64 k ∧ wx.heap[w.heap.size]? = some (.cells (rowA (firsts q (min (k * 1024) m)) (N * 1024)) 25) ∧ wx.heap.size = w.heap.size + 1 ∧ Below w.heap.size w wx) (fun s19 _ => N - (intOf s19).toNat)
    case atStart => exact ⟨0, by omega, rfl, by rw [heap_alloc_new, rowA_congr (f := nought) (g := firsts q (min (0 * 1024) m)) fun i _ => by unfold firsts nought; rw [if_neg (by omega)]], by simp, (Below.refl _ _).alloc (Nat.le_refl _) _⟩
    case round =>
      obtain ⟨k, hk, rfl, hg, hsz, hbel⟩ := hrel
      by_cases hk2 : (k : Int) < N
      · have hkm : k * 1024 < m := by omega
        have HG : Hid (wr.heap[w.heap.size]? = some (.cells (rowA (firsts q (min (k * 1024) m)) (N * 1024)) 25)) := hg
        have hsrc : ∀ j, j < min 1024 (m - k * 1024) → wr.drew.cell? ⟨b, off + k * 1024 + j, none⟩ = some (.int .u8 (from' q (k * 1024) j)) := fun j hj => by
          have h1 := hc (k * 1024 + j) (by omega)
          rw [← Nat.add_assoc] at h1
          exact (hbel.cell (p := ⟨b, off + k * 1024 + j, none⟩) hb).trans h1
        have HS : Hid (∀ j, j < min 1024 (m - k * 1024) → wr.drew.cell? ⟨b, off + k * 1024 + j, none⟩ = some (.int .u8 (from' q (k * 1024) j))) := hsrc
        have HE : Hid (k * 1024 + min 1024 (m - k * 1024) ≤ N * 1024) := show _ ≤ _ by omega
        have HM : Hid (min 1024 (m - k * 1024) = Nat.min (m - k * 1024) 1024) := Nat.min_comm _ _
        have HO : Hid (rowA (over (firsts q (min (k * 1024) m)) (k * 1024) (min 1024 (m - k * 1024)) (from' q (k * 1024))) (N * 1024) = rowA (firsts q (min ((k + 1) * 1024) m)) (N * 1024)) := rowA_congr fun i _ => by
          unfold over firsts from'
          by_cases h1 : k * 1024 ≤ i ∧ i < k * 1024 + min 1024 (m - k * 1024)
          · rw [if_pos h1, if_pos (by omega)]; congr 1; omega
          · rw [if_neg h1]
            by_cases h2 : i < min (k * 1024) m
            · rw [if_pos h2, if_pos (by omega)]
            · rw [if_neg h2, if_neg (by omega)]
        clear hg hc hsrc
        go_wp2
        go_still_tail 8, (by kernel_rfl)
        refine wpStill_slice22l rfl (.tmp 26) (.tmp 28) rfl b off m cap (k * 1024) _ rfl rfl (by rw [IntKind.wrap_i64]; omega) hkm hcap ?_
        refine wpStill_nil ?_
        simp only [Act.put, List.setIfInBounds_toArray, List.set_cons_succ, List.set_cons_zero]
        change wpList _ _ _ _ _ (World.drew _)
        refine wpList_copy5 rfl (.tmp 25) (.tmp 29) rfl w.heap.size (k * 1024) 1024 1024 b (off + k * 1024) (m - k * 1024) (cap - k * 1024) rfl rfl (firsts q (min (k * 1024) m)) (N * 1024) 25 HG.out (from' q (k * 1024)) (min 1024 (m - k * 1024)) HM.out HS.out HE.out ?_
        rw [HO.out]
        have h1 := setRow_heap wr.drew w.heap.size _ (rowA (firsts q (min ((k + 1) * 1024) m)) (N * 1024)) 25 (0, 0) HG.out
        have h2 : (wr.drew.setRow w.heap.size (rowA (firsts q (min ((k + 1) * 1024) m)) (N * 1024))).heap.size = w.heap.size + 1 := by simp; exact hsz
        have h3 : Below w.heap.size w (wr.drew.setRow w.heap.size (rowA (firsts q (min ((k + 1) * 1024) m)) (N * 1024))) := below_setRow hbel.drew (Nat.le_refl _) _
        generalize wr.drew.setRow w.heap.size (rowA (firsts q (min ((k + 1) * 1024) m)) (N * 1024)) = W at h1 h2 h3 ⊢
        have H1 : Hid (W.heap[w.heap.size]? = some (.cells (rowA (firsts q (min ((k + 1) * 1024) m)) (N * 1024)) 25)) := h1
        clear h1 HG HS HO
        simp only [Act.put, List.setIfInBounds_toArray, List.set_cons_succ, List.set_cons_zero]
        go_wp2
        exact ⟨⟨k + 1, by omega, by go_num, H1.out, h2, h3⟩, by simp [intOf]; omega⟩
      · have e : min (k * 1024) m = m := by omega
        have HG : Hid (wr.heap[w.heap.size]? = some (.cells (rowA (firsts q m) (N * 1024)) 25)) := by rw [e] at hg; exact hg
        clear hg e hc
        go_wp2
        go_ret
        exact ⟨rfl, HG.out, hsz, hbel⟩

set_option maxRecDepth 20000 in
set_option maxHeartbeats 400000 in
theorem cut_none (a : Option Addr) (cap : Nat) (q : Nat → Int) (w : World) :
    Calls Try.prog 31 #[.slice a 0 cap] w fun e w' => e = .returned (.slice (some ⟨w.heap.size, 0, none⟩) (blocksOf 0) (blocksOf 0)) ∧
      w'.heap[w.heap.size]? = some (.cells (rowA (firsts q 0) (blocksOf 0 * 1024)) 25) ∧ w'.heap.size = w.heap.size + 1 ∧ Below w.heap.size w w' := by
  have hmk := fun u => run_make25 u 0 0 (by omega) (by omega)
  rw [show blocksOf 0 = 0 from rfl]
  go_enter Try.func31, Try.ntmps31
  go_wp2
  clear hmk
  go_loopw [19] (fun s19 wx => s19 = .int .i64 0 ∧ wx = w.alloc (.cells (rowA nought (0 * 1024)) 25)) (fun _ _ => 0)
  case atStart => exact ⟨rfl, rfl⟩
  case round =>
    obtain ⟨rfl, rfl⟩ := hrel
    go_wp2
    go_ret
    exact ⟨rfl, by rw [heap_alloc_new, Nat.zero_mul, rowA_congr (f := nought) (g := firsts q 0) fun i hi => absurd hi (by omega)], by simp, (Below.refl _ _).alloc (Nat.le_refl _) _⟩
theorem cut_lies {w : World} {p : Value} {m : Nat} {q : Nat → Int} (h : Lies w p m q) (hm : m ≤ 140737488355328) :
    Calls Try.prog 31 #[p] w fun e w' => e = .returned (.slice (some ⟨w.heap.size, 0, none⟩) (blocksOf m) (blocksOf m)) ∧
      w'.heap[w.heap.size]? = some (.cells (rowA (firsts q m) (blocksOf m * 1024)) 25) ∧ w'.heap.size = w.heap.size + 1 ∧ Below w.heap.size w w' := by
  rcases h with ⟨a, cap, rfl, rfl, _⟩ | ⟨b, off, cap, rfl, _, hcap, hb, hc⟩
  · exact cut_none a cap q w
  · exact cut_some b off m cap q w hm hcap hb hc
end Go.Proofs.Ytedbgeibhaiheaa
