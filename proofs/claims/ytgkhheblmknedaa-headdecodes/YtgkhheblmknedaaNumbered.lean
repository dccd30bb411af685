/- The block that begins with these numbers of four bytes; at most 256 of them. -/
import Derived.Test.YtgkhheblmknedaaOwn
import Derived.Test.YtgkhheblmknedaaOpen
import Derived.StillTailTactics
namespace Go.Proofs.Ytgkhheblmknedaa
open Go.RowKit
theorem wpStill_load30 {ops : Array Oper} {Q : Act → Prop} {a : Act} {o : Oper} {rest : List Oper} {w : World} (hgd : o.guard = none) (x : Operand) (ho : o.op = .load 30 x)
    (g : Nat) (hx : a.eval x = .pointer (some ⟨g, 0, none⟩)) (f : Nat → Int) (hg : w.heap[g]? = some (.cells (blk f) 30))
    (h : wpStill Try.prog ops w Q rest (a.put o.dst (.agg (blk f)))) : wpStill Try.prog ops w Q (o :: rest) a := by
  unfold wpStill
  rw [if_pos (by simp [Region.wanted, hgd])]
  unfold Oper.still execOp
  simp only [ho, hx, Instr.loadAt, Instr.sureAddr, Sem.run_bind, Sem.run_pure, Result.andThen_ok, load30L w g f hg, Oper.stillUpon]
  exact ⟨trivial, h⟩
set_option maxRecDepth 20000 in
set_option maxHeartbeats 2000000 in
theorem numbered_any (ws : List Int) (p : Option Addr) (cap : Nat) (w : World) (hlen : ws.length < 9223372036854775807) (hws : WordsAt w p ws) (hu : AllU ws) :
    Calls Try.prog 14 #[.slice p ws.length cap] w fun e w' => e = .returned (.agg (blk (wordF (ws.take 256)))) ∧ Below w.heap.size w w' := by
  have z25 := zero25
  obtain ⟨n, hn⟩ : ∃ n, ws.length = n := ⟨_, rfl⟩
  have HT : Hid (WordsAt w p ws ∧ AllU ws ∧ ws.length = n) := ⟨hws, hu, hn⟩
  rw [hn] at hlen ⊢
  clear hws hu hn
  go_enter Try.func14, Try.ntmps14
  go_wp2
  go_loopw [4] (fun s4 wx => ∃ k : Nat, k ≤ n ∧ k ≤ 256 ∧ s4 = .int .i64 k ∧ wx.heap[w.heap.size + 1]? = some (.cells (blk (wordF (ws.take k))) 30) ∧ wx.heap[w.heap.size]? = some (.cells (blk nought) 30) ∧ Below w.heap.size w wx) (fun s4 _ => n - (intOf s4).toNat)
  case atStart => exact ⟨0, by omega, by omega, rfl, by rw [List.take_zero, wordF_nil]; exact heap_alloc2_new _ _ _, heap_alloc2_old _ _ _, bel_al (below_new _ _) _⟩
  case round =>
    obtain ⟨k, hk, hk6, rfl, hg, hg0, hbel⟩ := hrel
    have HW : Hid _ := hbel
    clear hbel
    by_cases hk2 : (k : Int) < n
    · by_cases hk3 : (k : Int) < 256
      · have g3 : decide (k < 256) = true := decide_eq_true (by omega)
        obtain ⟨hws, hu, hn⟩ := HT.out
        have hx : ws[k]? = some ws[k] := List.getElem?_eq_getElem (by omega)
        have htk : ws.take (k + 1) = ws.take k ++ [ws[k]] := by rw [List.take_add_one, hx]; rfl
        have hxu := hu _ (List.getElem_mem (by omega : k < ws.length))
        obtain ⟨b1, o1, rfl, l1, C1⟩ := hws (by omega)
        generalize ws[k] = x at hx htk hxu
        have q1 : wr.cell? ⟨b1, o1 + k, none⟩ = some (.int .u32 x) := (HW.out.cell (p := ⟨b1, o1 + k, none⟩) l1).trans (C1 k x hx)
        have hst := fun (w : World) => refSet32_any (wordF (ws.take k)) (4 * (k : Int)) x w hxu
        have hsn := wordF_snoc (ws.take k) x hxu (by simp; omega)
        rw [show ((ws.take k).length : Nat) = k by simp; omega, ← htk] at hsn
        rw [show 4 * (k : Int) = ((4 * k : Nat) : Int) by omega, hsn, show ((4 * k : Nat) : Int) = 4 * (k : Int) by omega] at hst
        have HST : Hid _ := hst
        have hwm : IntKind.i64.wrap (4 * (k : Int)) = 4 * (k : Int) := by rw [IntKind.wrap_i64]; omega
        generalize wordF (ws.take k) = F at *
        generalize hF' : wordF (ws.take (k + 1)) = F' at *
        have HF' : Hid _ := hF'
        clear hst hsn hx htk hu hws hn C1 hF'
        go_wp2
        have hgd : wr.drew.heap[w.heap.size + 1]? = some (.cells (blk F) 30) := hg
        have hg0d : wr.drew.heap[w.heap.size]? = some (.cells (blk nought) 30) := hg0
        have q1d : wr.drew.cell? ⟨b1, o1 + k, none⟩ = some (.int .u32 x) := q1
        have HWd : Hid (Below w.heap.size w wr.drew) := HW.out.drew
        clear hg hg0 q1 HW
        go_still_tail 7, (by kernel_rfl)
        change wpStill _ _ (World.drew wr) (fun a' => wpList _ _ _ _ a' (World.drew wr)) _ _
        generalize World.drew wr = V at *
        refine wpStill_load30 rfl _ rfl _ rfl F hgd ?_
        repeat still_step
        refine wpStill_nil ?_
        go_wp2_with (first | (go_at_call 32; fail))
        refine (HST.out _).mono ?_
        rintro e X ⟨rfl, hbx⟩
        have hg1 := heap_kept hgd hbx
        have hg01 := heap_kept hg0d hbx
        have HB1 : Hid (Below w.heap.size w X) := below_next HWd.out hbx
        have hg2 := setRow_heap X (w.heap.size + 1) (blk F) (blk F') 30 (0, 0) hg1
        have hg02 := (setRow_other X (w.heap.size + 1) w.heap.size (blk F') (by omega)).trans hg01
        have HB2' : Hid (Below w.heap.size w (X.setRow (w.heap.size + 1) (blk F'))) := below_setRow HB1.out (Nat.le_succ _) _
        clear HST hbx hgd hg0d hg01 HWd q1d
        go_wp2_with (first | (with_reducible refine isStore 30 ?_; refine wpList_store25 rfl _ _ rfl _ _ rfl rfl _ hg1 ?_))
        exact ⟨⟨k + 1, by omega, by omega, by go_num, by rw [HF'.out]; exact hg2, hg02, HB2'.out⟩, by simp [intOf]; omega⟩
      · obtain rfl : k = 256 := by omega
        generalize hF : wordF (ws.take 256) = F at *
        have HF : Hid _ := hF
        clear hF HT
        go_wp2_with (first | (with_reducible refine isLoad 30 ?_; refine wpList_load25 rfl _ rfl _ rfl _ hg ?_) | (with_reducible refine isStore 30 ?_; refine wpList_store25 rfl _ _ rfl _ _ rfl rfl _ hg0 ?_))
        exact ret25 rfl w.heap.size F rfl (setRow_heap _ _ _ _ _ _ hg0) rfl ⟨by rw [HF.out], below_setRow HW.out (Nat.le_refl _) _⟩
    · obtain rfl : k = n := by omega
      have hT : ws.take k = ws.take 256 := by have := HT.out.2.2; rw [List.take_of_length_le (by omega), List.take_of_length_le (by omega)]
      rw [hT] at hg
      clear hT
      generalize hF : wordF (ws.take 256) = F at *
      have HF : Hid _ := hF
      clear hF HT
      go_wp2_with (first | (with_reducible refine isLoad 30 ?_; refine wpList_load25 rfl _ rfl _ rfl _ hg ?_) | (with_reducible refine isStore 30 ?_; refine wpList_store25 rfl _ _ rfl _ _ rfl rfl _ hg0 ?_))
      exact ret25 rfl w.heap.size F rfl (setRow_heap _ _ _ _ _ _ hg0) rfl ⟨by rw [HF.out], below_setRow HW.out (Nat.le_refl _) _⟩
end Go.Proofs.Ytgkhheblmknedaa
