/- Several texts joined, each with its own remark; no condition. -/
import Derived.Test.YtembocfghkmieaaK3
import Derived.Test.YtembocfghkmieaaK8
import Derived.Test.YtembocfghkmieaaK5
import Derived.Test.YtembocfghkmieaaK1
import Derived.Test.YtembocfghkmieaaK6
/- Crash, for a choice of any length that a list can have; no condition. -/
namespace Go.Proofs.Ytembocfghkmieaa
open Go.RowKit
variable {w : World} {L : Loc} {s : St}
set_option maxRecDepth 20000 in
set_option maxHeartbeats 2000000 in
theorem crash_le (h : DiskAt w L s) {kv : Value} {kl : List Bool} (hkv : BoolsAt w kv kl) (hwl : s.wait.length < 68719476736) (hkl : kl.length ≤ 9223372036854775807) :
    Calls Try.prog 35 #[.pointer (some ⟨L.d, 0, none⟩), kv] w fun e w' => e = .returned (.int .i64 0) ∧ ∃ L', DiskAt w' L' (crashS s kl) ∧ Goes w w' L L' := by
  have h0 := h.c0
  have hP := pending_of h
  obtain ⟨p, cp, hp1, hp2, hp3⟩ := h.pend
  rw [hp1] at hP
  obtain ⟨q, cq, rfl, hq⟩ := hkv
  have HD : Hid (DiskAt w.drew L s) := h.fr (Fr.drew (T := fun _ => False) w) fun _ _ q => q
  have HG2 : Hid (Goes w w.drew L L) := ⟨rfl, fun _ q => .inl q, Fr.drew w⟩
  have HP : Hid (0 < s.wait.length → ∃ g, L.hv.ownBlock = some g ∧ p = some ⟨g, s.done.length * 1026, none⟩) := hp3
  have HK : Hid (0 < kl.length → ∃ b off, q = some ⟨b, off, none⟩ ∧ ∀ i x, kl[i]? = some x → w.cell? ⟨b, off + i, none⟩ = some (.bool x)) := hq
  have hM := h.held
  clear h hp1 hp3 hq
  generalize hm : s.wait.length = m at *
  generalize hn : kl.length = n at *
  rcases Nat.lt_or_ge n m with hmn | hmn
  · have hmn' : (n : Int) < m := by omega
    go_enter Try.func35, Try.ntmps35
    go_wp2_with (first | (go_at_call 64; refine (none_no h0).mono ?_; rintro e W ⟨rfl, he⟩; obtain rfl := he.symm) | (go_at_call 68; refine hP.mono ?_; rintro e W1 ⟨rfl, rfl⟩))
    clear hP
    generalize hV : w.drew = V at *
    go_loopw [16] (fun s16 wx => ∃ k : Nat, k ≤ n ∧ s16 = .int .i64 k ∧ Hid (DiskAt wx L (holdAll s (keptL (s.wait.take k) (kl.take k)))) ∧ Hid (Goes w wx L L) ∧ Hid (Fr (fun i => i = L.hb) w wx)) (fun s16 _ => n - (intOf s16).toNat)
    case atStart => exact ⟨0, by omega, rfl, HD.out, HG2.out, by rw [← hV]; exact Fr.drew w⟩
    case round =>
      obtain ⟨k, hk, rfl, HDk, HGk, HFk⟩ := hrel
      by_cases hk2 : (k : Int) < n
      · have hkw : k < s.wait.length := by omega
        have hkk : k < kl.length := by omega
        have hkm : (k : Int) < (m : Int) := by omega
        have hkn : (k : Int) < (n : Int) := by omega
        obtain ⟨g, hg, rfl⟩ := HP.out (by omega)
        obtain ⟨b, off, rfl, hcell⟩ := HK.out (by omega)
        have hc : s.wait[k]? = some s.wait[k] := List.getElem?_eq_getElem hkw
        have hx : kl[k]? = some kl[k] := List.getElem?_eq_getElem hkk
        generalize s.wait[k] = c at hc
        generalize kl[k] = x at hx
        have hcx := hcell k x hx
        have hbl : b ≠ L.hb := bool_no_map hcx hM
        have hblt : b < w.heap.size := by
          by_cases q : b < w.heap.size
          · exact q
          · unfold World.cell? at hcx
            simp only [Array.getElem?_eq_none (show w.heap.size ≤ b by omega)] at hcx
            simp at hcx
        have hcx' : wr.cell? ⟨b, off + k, none⟩ = some (.bool x) := (World.cell?_of_block (HFk.out.block b hblt hbl)).trans hcx
        have hks := keptL_snoc c x (s.wait.take k) (kl.take k) (by rw [List.length_take, List.length_take]; omega)
        rw [← take_snoc hc, ← show kl.take (k + 1) = kl.take k ++ [x] by rw [List.take_add_one, hx]; rfl] at hks
        have hop : (holdAll s (keptL (s.wait.take k) (kl.take k))).ops[s.done.length + k]? = some (wrec c) := by rw [holdAll_ops]; exact ops_wait s hc
        have HDd : DiskAt wr.drew L (holdAll s (keptL (s.wait.take k) (kl.take k))) := HDk.out.fr (Fr.drew (T := fun _ => False) wr) fun _ _ q => q
        have hpos := HDk.out.histPos hg hop
        have hblk := HDd.histBlk hg hop
        have hcw := HDd.ok.wait c (by rw [holdAll_wait]; exact List.mem_of_getElem? hc)
        rw [holdAll_n] at hcw
        have HH := hold_of HDd (by rw [holdAll_n]; exact hcw.1) hcw.2 hblk
        have e1 : (s.done.length + k) * 1026 = s.done.length * 1026 + k * 1026 := Nat.add_mul _ _ _
        rw [e1] at hpos HH
        have hpos' : wr.cell? ⟨g, s.done.length * 1026 + k * 1026 + 1, none⟩ = some (.int .i64 c.1) := hpos
        cases x
        · rw [if_neg (by simp), List.append_nil] at hks
          have HD2 : Hid (DiskAt wr L (holdAll s (keptL (s.wait.take (k + 1)) (kl.take (k + 1))))) := hks ▸ HDk.out
          clear HH hpos hblk hop hc hx e1 HDk hcw HDd hks hcx hcell
          go_wp2
          exact ⟨⟨k + 1, by omega, by go_num, HD2.out, HGk.out, HFk.out⟩, by simp [intOf]; omega⟩
        · rw [if_pos rfl] at hks
          rw [← holdAll_snoc, ← hks] at HH
          have HH2 : Hid (Calls Try.prog 61 #[.pointer (some ⟨L.d, 0, none⟩), .int .i64 c.1, .pointer (some ⟨g, s.done.length * 1026 + k * 1026 + 2, none⟩)] wr.drew fun e w' => e = .returned (.tuple #[]) ∧ DiskAt w' L (holdAll s (keptL (s.wait.take (k + 1)) (kl.take (k + 1)))) ∧ Goes w w' L L ∧ Fr (fun i => i = L.hb) w w') :=
            Calls.mono HH fun e w' ⟨h1, h2, h3⟩ => ⟨h1, h2, (HGk.out.trans ⟨rfl, fun _ q => .inl q, Fr.drew wr⟩).trans (Goes.hold h3), (HFk.out.trans (Fr.drew wr) fun _ _ q => q).trans h3 fun _ _ q => q⟩
          generalize s.done.length * 1026 = D at *
          clear HH hpos hblk hop hc hx e1 HDk hcw HDd HGk hks hcx hcell HFk
          go_wp2
          go_still_tail 10, (by kernel_rfl)
          change wpList _ _ _ _ _ (World.drew _)
          go_wp2_with (go_at_call 61; fail)
          refine HH2.out.mono ?_
          rintro e W2 ⟨rfl, hD2, hG2, hF2⟩
          have HD2 : Hid (DiskAt W2 L (holdAll s (keptL (s.wait.take (k + 1)) (kl.take (k + 1))))) := hD2
          have HG3 : Hid (Goes w W2 L L) := hG2
          have HF3 : Hid (Fr (fun i => i = L.hb) w W2) := hF2
          clear hD2 hG2 HH2 hF2
          go_wp2
          exact ⟨⟨k + 1, by omega, by go_num, HD2.out, HG3.out, HF3.out⟩, by simp [intOf]; omega⟩
      · obtain rfl : k = n := by omega
        have hD := HDk.out
        rw [keptL_take _ _ _ (by omega)] at hD
        have hG := HGk.out
        clear HDk HGk HP HK HFk
        have hok := crashS_ok (k := kl) hD.ok
        have k3 := hD.c3
        have f3 := hD.free 3
        obtain ⟨p', c', h1, _⟩ := hD.shape
        rw [h1] at k3
        have hR6 : RawAt (wr.setCell ⟨L.d, 3, none⟩ (.slice none 0 0)) ⟨L.d, L.hb, L.lb, .slice none 0 0⟩ ((dkRow L (holdAll s (keptL s.wait kl))).setIfInBounds 3 (.slice none 0 0)) (heldV (holdAll s (keptL s.wait kl))) (lateV (holdAll s (keptL s.wait kl))) [] := by
          have hr := hD.raw.cell 3 (.slice none 0 0)
          exact ⟨hr.row, hr.held, hr.late, World.ownsRow_nil _ 0 108 1026, hr.ne⟩
        have hF6 : Fr (fun i => i = L.d) wr (wr.setCell ⟨L.d, 3, none⟩ (.slice none 0 0)) := Fr.setCell wr L.d 3 _
        clear hD
        go_wp2_with (go_at_call 72; fail)
        generalize wr.setCell ⟨L.d, 3, none⟩ (.slice none 0 0) = W6 at *
        refine (nothing_of (d := L.d) (n := (holdAll s (keptL s.wait kl)).n) (hb := L.hb) (p := none) (m := 0) (c := 0) (bh := ((holdAll s (keptL s.wait kl)).done.length : Int)) (lb := L.lb) (fu := (holdAll s (keptL s.wait kl)).fuse) (st := (holdAll s (keptL s.wait kl)).stopped) (ma := (holdAll s (keptL s.wait kl)).made) (re := (holdAll s (keptL s.wait kl)).reads) (cl := (holdAll s (keptL s.wait kl)).claims) (cd := (holdAll s (keptL s.wait kl)).claimed) hR6.row).mono ?_
        rintro e W7 ⟨rfl, hrow7, hM7, hF7⟩
        have hlb : L.hb < W6.heap.size := hR6.held.lt
        have hR7 := (hR6.rowTo hrow7 hF7).lateNew (b := W6.heap.size) (by show L.hb ≠ _; omega) hM7
        have c6 : W7.cell? ⟨L.d, 6, none⟩ = some (.int .i64 (holdAll s (keptL s.wait kl)).fuse) := Joins.cell_of_block hrow7 6
        have c7 : W7.cell? ⟨L.d, 7, none⟩ = some (.bool (holdAll s (keptL s.wait kl)).stopped) := Joins.cell_of_block hrow7 7
        have c11 : W7.cell? ⟨L.d, 11, none⟩ = some (.bool (holdAll s (keptL s.wait kl)).claimed) := Joins.cell_of_block hrow7 11
        have f6 : W7.frozen? ⟨L.d, 6, none⟩ = false := Joins.unfrozen_of_block hrow7 6
        have f7 : W7.frozen? ⟨L.d, 7, none⟩ = false := Joins.unfrozen_of_block hrow7 7
        have f11 : W7.frozen? ⟨L.d, 11, none⟩ = false := Joins.unfrozen_of_block hrow7 11
        have hD8 : Hid (DiskAt (((W7.setCell ⟨L.d, 6, none⟩ (.int .i64 (-1))).setCell ⟨L.d, 7, none⟩ (.bool false)).setCell ⟨L.d, 11, none⟩ (.bool false)) ⟨L.d, L.hb, W6.heap.size, .slice none 0 0⟩ (crashS s kl)) :=
          RawAt.disk (((hR7.cell 6 (.int .i64 (-1))).cell 7 (.bool false)).cell 11 (.bool false)) hok
        have hF8 : Fr (fun i => i = L.d) wr (((W7.setCell ⟨L.d, 6, none⟩ (.int .i64 (-1))).setCell ⟨L.d, 7, none⟩ (.bool false)).setCell ⟨L.d, 11, none⟩ (.bool false)) :=
          (hF6.trans hF7 fun _ _ q => q).trans (((Fr.setCell _ L.d 6 _).trans (Fr.setCell _ L.d 7 _) fun _ _ q => q).trans (Fr.setCell _ L.d 11 _) fun _ _ q => q) fun _ _ q => q
        have hG8 : Hid (Goes w (((W7.setCell ⟨L.d, 6, none⟩ (.int .i64 (-1))).setCell ⟨L.d, 7, none⟩ (.bool false)).setCell ⟨L.d, 11, none⟩ (.bool false)) L ⟨L.d, L.hb, W6.heap.size, .slice none 0 0⟩) := by
          refine hG.trans (Goes.of (T := fun i => i = L.d) rfl (fun i hi => ?_) hF8 fun i _ q => .inl q)
          rcases hi with q | q | q | q
          · exact .inl (.inl q)
          · exact .inl (.inr (.inl q))
          · have q' : i = W6.heap.size := q
            have := hF6.size
            exact .inr (by omega)
          · simp [Value.ownBlock] at q
        clear hR7 hrow7 hM7 hF7 hR6 hF6 hG hok hF8
        go_wp2
        go_ret
        exact ⟨rfl, _, hD8.out, hG8.out⟩
  · have hmn' : (m : Int) ≤ n := by omega
    go_enter Try.func35, Try.ntmps35
    go_wp2_with (first | (go_at_call 64; refine (none_no h0).mono ?_; rintro e W ⟨rfl, he⟩; obtain rfl := he.symm) | (go_at_call 68; refine hP.mono ?_; rintro e W1 ⟨rfl, rfl⟩))
    clear hP
    generalize hV : w.drew = V at *
    go_loopw [16] (fun s16 wx => ∃ k : Nat, k ≤ m ∧ s16 = .int .i64 k ∧ Hid (DiskAt wx L (holdAll s (keptL (s.wait.take k) (kl.take k)))) ∧ Hid (Goes w wx L L) ∧ Hid (Fr (fun i => i = L.hb) w wx)) (fun s16 _ => m - (intOf s16).toNat)
    case atStart => exact ⟨0, by omega, rfl, HD.out, HG2.out, by rw [← hV]; exact Fr.drew w⟩
    case round =>
      obtain ⟨k, hk, rfl, HDk, HGk, HFk⟩ := hrel
      by_cases hk2 : (k : Int) < m
      · have hkw : k < s.wait.length := by omega
        have hkk : k < kl.length := by omega
        have hkm : (k : Int) < (m : Int) := by omega
        have hkn : (k : Int) < (n : Int) := by omega
        obtain ⟨g, hg, rfl⟩ := HP.out (by omega)
        obtain ⟨b, off, rfl, hcell⟩ := HK.out (by omega)
        have hc : s.wait[k]? = some s.wait[k] := List.getElem?_eq_getElem hkw
        have hx : kl[k]? = some kl[k] := List.getElem?_eq_getElem hkk
        generalize s.wait[k] = c at hc
        generalize kl[k] = x at hx
        have hcx := hcell k x hx
        have hbl : b ≠ L.hb := bool_no_map hcx hM
        have hblt : b < w.heap.size := by
          by_cases q : b < w.heap.size
          · exact q
          · unfold World.cell? at hcx
            simp only [Array.getElem?_eq_none (show w.heap.size ≤ b by omega)] at hcx
            simp at hcx
        have hcx' : wr.cell? ⟨b, off + k, none⟩ = some (.bool x) := (World.cell?_of_block (HFk.out.block b hblt hbl)).trans hcx
        have hks := keptL_snoc c x (s.wait.take k) (kl.take k) (by rw [List.length_take, List.length_take]; omega)
        rw [← take_snoc hc, ← show kl.take (k + 1) = kl.take k ++ [x] by rw [List.take_add_one, hx]; rfl] at hks
        have hop : (holdAll s (keptL (s.wait.take k) (kl.take k))).ops[s.done.length + k]? = some (wrec c) := by rw [holdAll_ops]; exact ops_wait s hc
        have HDd : DiskAt wr.drew L (holdAll s (keptL (s.wait.take k) (kl.take k))) := HDk.out.fr (Fr.drew (T := fun _ => False) wr) fun _ _ q => q
        have hpos := HDk.out.histPos hg hop
        have hblk := HDd.histBlk hg hop
        have hcw := HDd.ok.wait c (by rw [holdAll_wait]; exact List.mem_of_getElem? hc)
        rw [holdAll_n] at hcw
        have HH := hold_of HDd (by rw [holdAll_n]; exact hcw.1) hcw.2 hblk
        have e1 : (s.done.length + k) * 1026 = s.done.length * 1026 + k * 1026 := Nat.add_mul _ _ _
        rw [e1] at hpos HH
        have hpos' : wr.cell? ⟨g, s.done.length * 1026 + k * 1026 + 1, none⟩ = some (.int .i64 c.1) := hpos
        cases x
        · rw [if_neg (by simp), List.append_nil] at hks
          have HD2 : Hid (DiskAt wr L (holdAll s (keptL (s.wait.take (k + 1)) (kl.take (k + 1))))) := hks ▸ HDk.out
          clear HH hpos hblk hop hc hx e1 HDk hcw HDd hks hcx hcell
          go_wp2
          exact ⟨⟨k + 1, by omega, by go_num, HD2.out, HGk.out, HFk.out⟩, by simp [intOf]; omega⟩
        · rw [if_pos rfl] at hks
          rw [← holdAll_snoc, ← hks] at HH
          have HH2 : Hid (Calls Try.prog 61 #[.pointer (some ⟨L.d, 0, none⟩), .int .i64 c.1, .pointer (some ⟨g, s.done.length * 1026 + k * 1026 + 2, none⟩)] wr.drew fun e w' => e = .returned (.tuple #[]) ∧ DiskAt w' L (holdAll s (keptL (s.wait.take (k + 1)) (kl.take (k + 1)))) ∧ Goes w w' L L ∧ Fr (fun i => i = L.hb) w w') :=
            Calls.mono HH fun e w' ⟨h1, h2, h3⟩ => ⟨h1, h2, (HGk.out.trans ⟨rfl, fun _ q => .inl q, Fr.drew wr⟩).trans (Goes.hold h3), (HFk.out.trans (Fr.drew wr) fun _ _ q => q).trans h3 fun _ _ q => q⟩
          generalize s.done.length * 1026 = D at *
          clear HH hpos hblk hop hc hx e1 HDk hcw HDd HGk hks hcx hcell HFk
          go_wp2
          go_still_tail 10, (by kernel_rfl)
          change wpList _ _ _ _ _ (World.drew _)
          go_wp2_with (go_at_call 61; fail)
          refine HH2.out.mono ?_
          rintro e W2 ⟨rfl, hD2, hG2, hF2⟩
          have HD2 : Hid (DiskAt W2 L (holdAll s (keptL (s.wait.take (k + 1)) (kl.take (k + 1))))) := hD2
          have HG3 : Hid (Goes w W2 L L) := hG2
          have HF3 : Hid (Fr (fun i => i = L.hb) w W2) := hF2
          clear hD2 hG2 HH2 hF2
          go_wp2
          exact ⟨⟨k + 1, by omega, by go_num, HD2.out, HG3.out, HF3.out⟩, by simp [intOf]; omega⟩
      · obtain rfl : k = m := by omega
        have hD := HDk.out
        rw [keptL_take _ _ _ (by omega)] at hD
        have hG := HGk.out
        clear HDk HGk HP HK HFk
        have hok := crashS_ok (k := kl) hD.ok
        have k3 := hD.c3
        have f3 := hD.free 3
        obtain ⟨p', c', h1, _⟩ := hD.shape
        rw [h1] at k3
        have hR6 : RawAt (wr.setCell ⟨L.d, 3, none⟩ (.slice none 0 0)) ⟨L.d, L.hb, L.lb, .slice none 0 0⟩ ((dkRow L (holdAll s (keptL s.wait kl))).setIfInBounds 3 (.slice none 0 0)) (heldV (holdAll s (keptL s.wait kl))) (lateV (holdAll s (keptL s.wait kl))) [] := by
          have hr := hD.raw.cell 3 (.slice none 0 0)
          exact ⟨hr.row, hr.held, hr.late, World.ownsRow_nil _ 0 108 1026, hr.ne⟩
        have hF6 : Fr (fun i => i = L.d) wr (wr.setCell ⟨L.d, 3, none⟩ (.slice none 0 0)) := Fr.setCell wr L.d 3 _
        clear hD
        go_wp2_with (go_at_call 72; fail)
        generalize wr.setCell ⟨L.d, 3, none⟩ (.slice none 0 0) = W6 at *
        refine (nothing_of (d := L.d) (n := (holdAll s (keptL s.wait kl)).n) (hb := L.hb) (p := none) (m := 0) (c := 0) (bh := ((holdAll s (keptL s.wait kl)).done.length : Int)) (lb := L.lb) (fu := (holdAll s (keptL s.wait kl)).fuse) (st := (holdAll s (keptL s.wait kl)).stopped) (ma := (holdAll s (keptL s.wait kl)).made) (re := (holdAll s (keptL s.wait kl)).reads) (cl := (holdAll s (keptL s.wait kl)).claims) (cd := (holdAll s (keptL s.wait kl)).claimed) hR6.row).mono ?_
        rintro e W7 ⟨rfl, hrow7, hM7, hF7⟩
        have hlb : L.hb < W6.heap.size := hR6.held.lt
        have hR7 := (hR6.rowTo hrow7 hF7).lateNew (b := W6.heap.size) (by show L.hb ≠ _; omega) hM7
        have c6 : W7.cell? ⟨L.d, 6, none⟩ = some (.int .i64 (holdAll s (keptL s.wait kl)).fuse) := Joins.cell_of_block hrow7 6
        have c7 : W7.cell? ⟨L.d, 7, none⟩ = some (.bool (holdAll s (keptL s.wait kl)).stopped) := Joins.cell_of_block hrow7 7
        have c11 : W7.cell? ⟨L.d, 11, none⟩ = some (.bool (holdAll s (keptL s.wait kl)).claimed) := Joins.cell_of_block hrow7 11
        have f6 : W7.frozen? ⟨L.d, 6, none⟩ = false := Joins.unfrozen_of_block hrow7 6
        have f7 : W7.frozen? ⟨L.d, 7, none⟩ = false := Joins.unfrozen_of_block hrow7 7
        have f11 : W7.frozen? ⟨L.d, 11, none⟩ = false := Joins.unfrozen_of_block hrow7 11
        have hD8 : Hid (DiskAt (((W7.setCell ⟨L.d, 6, none⟩ (.int .i64 (-1))).setCell ⟨L.d, 7, none⟩ (.bool false)).setCell ⟨L.d, 11, none⟩ (.bool false)) ⟨L.d, L.hb, W6.heap.size, .slice none 0 0⟩ (crashS s kl)) :=
          RawAt.disk (((hR7.cell 6 (.int .i64 (-1))).cell 7 (.bool false)).cell 11 (.bool false)) hok
        have hF8 : Fr (fun i => i = L.d) wr (((W7.setCell ⟨L.d, 6, none⟩ (.int .i64 (-1))).setCell ⟨L.d, 7, none⟩ (.bool false)).setCell ⟨L.d, 11, none⟩ (.bool false)) :=
          (hF6.trans hF7 fun _ _ q => q).trans (((Fr.setCell _ L.d 6 _).trans (Fr.setCell _ L.d 7 _) fun _ _ q => q).trans (Fr.setCell _ L.d 11 _) fun _ _ q => q) fun _ _ q => q
        have hG8 : Hid (Goes w (((W7.setCell ⟨L.d, 6, none⟩ (.int .i64 (-1))).setCell ⟨L.d, 7, none⟩ (.bool false)).setCell ⟨L.d, 11, none⟩ (.bool false)) L ⟨L.d, L.hb, W6.heap.size, .slice none 0 0⟩) := by
          refine hG.trans (Goes.of (T := fun i => i = L.d) rfl (fun i hi => ?_) hF8 fun i _ q => .inl q)
          rcases hi with q | q | q | q
          · exact .inl (.inl q)
          · exact .inl (.inr (.inl q))
          · have q' : i = W6.heap.size := q
            have := hF6.size
            exact .inr (by omega)
          · simp [Value.ownBlock] at q
        clear hR7 hrow7 hM7 hF7 hR6 hF6 hG hok hF8
        go_wp2
        go_ret
        exact ⟨rfl, _, hD8.out, hG8.out⟩
end Go.Proofs.Ytembocfghkmieaa
/- Steps that the stage's theorem's law takes beside the disk: a write more waited for, blocks told apart; no condition. -/
namespace Go.Proofs.Ytembocfghkmieaa
open Go.RowKit

theorem slice_ofC {w : World} {base e size : Nat} {v : Value} {n : Nat} {xs : List Value} (h : w.ownsRow base e size v n xs) (hn : 0 < n) : ∃ g cap, v = .slice (some ⟨g, 0, none⟩) n cap := by
  rcases h.2 with ⟨_, h⟩ | ⟨g, cap', _, h, _⟩
  · omega
  · exact ⟨g, cap', h⟩
theorem slice_of0 {w : World} {base e size : Nat} {wa : Option Addr} {wc : Nat} {n : Nat} {xs : List Value} (h : w.ownsRow base e size (.slice wa n wc) n xs) : 0 < n → ∃ g, wa = some ⟨g, 0, none⟩ := fun hn => by
  obtain ⟨g, cap, e⟩ := slice_ofC h hn
  injection e with e1
  exact ⟨g, e1⟩
section
variable {w W : World} {g d : Nat} {hs : List (Nat → Int)} {v : Value} {wl : List Cel} {s : St}
theorem Has.gbase (h : Has (Side w g hs v wl) W d s) : g + 1 ≤ W.heap.size := (Array.getElem?_eq_some_iff.1 h.row).1
theorem wpList_pushC {ops : Array Oper} {rest : List Oper} {o : Oper} {a : Act} {Q : Exit → Act → World → Prop} (hgd : o.guard = none) (x y : Operand)
    (ho : o.op = .call { callee := .builtin .append, args := #[x, y], argTypes := #[30, 30] }) (c : Cel) (hx : a.eval x = v)
    (hy : a.eval y = .slice (some ⟨W.heap.size, 0, none⟩) 1 1) (hH : Has (Side w g hs v wl) W d s) (hn : wl.length < 1000)
    (h : ∀ wa wc W', Has (Side w g hs (.slice wa (wl.length + 1) wc) (wl ++ [c])) W' d s → wpList Try.prog ops Q rest (a.put o.dst (.slice wa (wl.length + 1) wc)) W') :
    wpList Try.prog ops Q (o :: rest) a (W.alloc (.cells (celRow c).toArray 85)) := by
  obtain ⟨i0, hi0, hz0, hz1, hz2⟩ := info_parts info85
  have hown1 := World.ownsRow.alloc hH.own (.cells (celRow c).toArray 85)
  have hnews : ∀ j u, (celRow c)[j]? = some u → (W.alloc (.cells (celRow c).toArray 85)).cell? ((⟨W.heap.size, 0, none⟩ : Addr).add j) = some u := fun j u hu => by
    rw [Go.WideShapes.add_plain, Nat.zero_add, cell_of_row _ _ j _ 85 _ (heap_alloc_new W _), List.getElem?_toArray]
    exact hu
  have hbase := hH.gbase
  refine wpList_append_own_at _ hgd x y 30 ho (g + 1) 85 i0 _ 1025 1032 Try.underlying30 hi0 hz0 hz1 hz2 (cel_size _) (by decide) v wl.length (celCells wl) hx hown1 ⟨W.heap.size, 0, none⟩ 1 1 (celRow c) hy (by rw [celRow_len]) hnews (celRow_one c)
    (by unfold maxLen; omega) (by omega) (by simp; omega) ?_
  intro v' W' h1 h2 h3 h4
  obtain ⟨g', cap', rfl⟩ := slice_ofC h1 (by omega)
  exact h _ _ W' (hH.push h1 h2 h4)
end
section
variable {ops : Array Oper} {rest : List Oper} {o : Oper} {a : Act} {w : World} {Q : Exit → Act → World → Prop}
theorem neq58 (f g : Nat → Int) (b : Bool) (hb : sameB f g = b) (u : World) : (binOp .neq 58 (.agg (blk f)) (.agg (blk g))).run Try.prog u = .ok (.bool (!b)) u := by
  have h := eq25 f g u
  rw [hb] at h
  generalize blk f = F at *
  generalize blk g = G at *
  simp only [binOp, Op.equal, Op.maxDepth, Sem.run_bind, h, Result.andThen_ok, Sem.run_pure]
theorem neqg58 (x y : Operand) (F G : Array Value) (u : World) : (eqGuard .neq 58 x y (.agg F) (.agg G)).run Try.prog u = .ok () u := by
  unfold eqGuard
  simp
theorem wpList_neq58 (hw : Region.wanted o (yielded ops a.tmps) = true) (x y : Operand) (ho : o.op = .binOp .neq 58 x y 58) (f : Nat → Int) (hx : a.eval x = .agg (blk f)) (hy : a.eval y = .agg (blk f))
    (h : wpList Try.prog ops Q rest (a.put o.dst (.bool false)) w) : wpList Try.prog ops Q (o :: rest) a w :=
  BigFrame.wpList_want hw fun _ hK => by
    have e := neq58 f f true (sameB_self f) w
    unfold Oper.wp execOp
    simp only [ho, hx, hy, Sem.run_bind, neqg58, e, Result.andThen_ok, Sem.run_pure]
    exact hK _ _ h
end
theorem wpStill_loadW {ops : Array Oper} {Q : Act → Prop} {a : Act} {o : Oper} {rest : List Oper} {w : World} (hw : Region.wanted o (yielded ops a.tmps) = true) (x : Operand) (ho : o.op = .load 58 x)
    (g off : Nat) (hx : a.eval x = .pointer (some ⟨g, off, none⟩)) (f : Nat → Int) (hg : BlkAt w g off f)
    (h : wpStill Try.prog ops w Q rest (a.put o.dst (.agg (blk f)))) : wpStill Try.prog ops w Q (o :: rest) a := by
  unfold wpStill
  rw [if_pos hw]
  unfold Oper.still execOp
  simp only [ho, hx, loadM hg, Sem.run_bind, Result.andThen_ok, Sem.run_pure, Oper.stillUpon]
  exact ⟨trivial, h⟩
theorem wpStill_neqW {ops : Array Oper} {Q : Act → Prop} {a : Act} {o : Oper} {rest : List Oper} {w : World} (hw : Region.wanted o (yielded ops a.tmps) = true) (x y : Operand) (ho : o.op = .binOp .neq 58 x y 58)
    (f : Nat → Int) (hx : a.eval x = .agg (blk f)) (hy : a.eval y = .agg (blk f))
    (h : wpStill Try.prog ops w Q rest (a.put o.dst (.bool false))) : wpStill Try.prog ops w Q (o :: rest) a := by
  have e := neq58 f f true (sameB_self f) w
  unfold wpStill
  rw [if_pos hw]
  unfold Oper.still execOp
  simp only [ho, hx, hy, neqg58, e, Sem.run_bind, Result.andThen_ok, Sem.run_pure, Oper.stillUpon]
  exact ⟨trivial, h⟩
theorem BoolsAt.later {w W : World} {v : Value} {l : List Bool} (h : BoolsAt w v l) (hb : Below w.heap.size w W) : BoolsAt W v l := by
  obtain ⟨p, c, h1, h2⟩ := h
  refine ⟨p, c, h1, fun hl => ?_⟩
  obtain ⟨b, off, h3, h4⟩ := h2 hl
  refine ⟨b, off, h3, fun i x hx => ?_⟩
  have h5 := h4 i x hx
  have hlt : b < w.heap.size := by
    by_cases q : b < w.heap.size
    · exact q
    · unfold World.cell? at h5
      simp only [Array.getElem?_eq_none (show w.heap.size ≤ b by omega)] at h5
      simp at h5
  exact (hb.cell (p := ⟨b, off + i, none⟩) hlt).trans h5
theorem bools_cell {w : World} {ka : Option Addr} {n kc : Nat} {l : List Bool} (h : BoolsAt w (.slice ka n kc) l) {j : Nat} {x : Bool} (hx : l[j]? = some x) : ∃ b off, ka = some ⟨b, off, none⟩ ∧ ∀ W, Below w.heap.size w W → W.cell? ⟨b, off + j, none⟩ = some (.bool x) := by
  obtain ⟨p, c, h1, h2⟩ := h
  injection h1 with e1 e2 e3
  obtain ⟨b, off, h3, h4⟩ := h2 (by have := (List.getElem?_eq_some_iff.1 hx).1; omega)
  refine ⟨b, off, e1.trans h3, fun W hb => ?_⟩
  have h5 := h4 j x hx
  have hlt : b < w.heap.size := by
    by_cases q : b < w.heap.size
    · exact q
    · unfold World.cell? at h5
      simp only [Array.getElem?_eq_none (show w.heap.size ≤ b by omega)] at h5
      simp at h5
  exact (hb.cell (p := ⟨b, off + j, none⟩) hlt).trans h5
theorem has_crash_le {P : World → Loc → Prop} {W : World} {d : Nat} {s : St} (hP : Stays P) (h : Has P W d s) {kv : Value} {kl : List Bool} (hkv : BoolsAt W kv kl) (hwl : s.wait.length < 68719476736) (hkl : kl.length ≤ 9223372036854775807) :
    Calls Try.prog 35 #[.pointer (some ⟨d, 0, none⟩), kv] W fun e W' => e = .returned (.int .i64 0) ∧ Has P W' d (crashS s kl) := by
  obtain ⟨L, rfl, hD, hp⟩ := h
  exact (crash_le hD hkv hwl hkl).mono fun e W' ⟨h1, L', h2, h3⟩ => ⟨h1, Has.goes hP rfl hD hp h2 h3⟩
/-- A disk behind a crash and j reads. -/
structure After (s : St) (n : Int) (j : Nat) : Prop where
  n : s.n = n
  live : s.stopped = false
  wait : s.wait = []
  done : s.done = []
  made : s.made ≤ 300
  reads : s.reads ≤ j
  claims : s.claims = 0
theorem after_crash {s : St} {n f : Int} {i : Nat} (h : Left s n f i) (hi : i ≤ 300) (k : List Bool) : After (crashS s k) n 0 := by
  have := h.made
  have := h.reads
  obtain ⟨hh, he⟩ := holdAll_same (keptL s.wait k) s
  unfold crashS
  rw [he]
  exact ⟨h.n, rfl, rfl, rfl, by show s.made ≤ 300; omega, by show s.reads ≤ (0 : Nat); omega, h.claims⟩
theorem After.room {s : St} {n : Int} {j : Nat} (h : After s n j) (hj : j ≤ 64) : Room s := ⟨by unfold St.ops; rw [h.wait, h.done]; simp, by have := h.made; omega, by have := h.reads; omega, by have := h.claims; omega⟩
theorem After.read {s : St} {n : Int} {j : Nat} (h : After s n j) {k : Int} (hk : 0 ≤ k ∧ k < n) : refV s k = 0 ∧ readB s k = (s.held k).getD nought ∧ readV s k = readS s ∧ After (readS s) n (j + 1) := by
  have hr : refV s k = 0 := by unfold refV; rw [h.live, if_neg (by simp), if_pos (by rw [h.n]; exact hk)]
  refine ⟨hr, ?_, ?_, h.n, h.live, h.wait, h.done, h.made, ?_, h.claims⟩
  · unfold readB
    rw [if_pos hr, curV_held (by rw [h.wait]; rfl)]
  · unfold readV
    rw [if_pos hr]
  · have := h.reads
    show s.reads + 1 ≤ ((j + 1 : Nat) : Int)
    omega
theorem After.ops {s : St} {n : Int} {j : Nat} (h : After s n j) : s.ops.length = 0 := by unfold St.ops; rw [h.wait, h.done]; simp
theorem crashS_n (s : St) (k : List Bool) : (crashS s k).n = s.n := holdAll_n s (keptL s.wait k)
theorem rel_crash {s : St} {hs : List (Nat → Int)} {kl : List Bool} (h : Rel (holdAll s (keptL s.wait kl)) hs) : Rel (crashS s kl) hs := h.same rfl rfl
theorem Rel.keptNext {s : St} {hs : List (Nat → Int)} {kl : List Bool} {j : Nat} {c : Cel} {x : Bool} (h : Rel (holdAll s (keptL (s.wait.take j) (kl.take j))) hs) (hc : s.wait[j]? = some c) (hx : kl[j]? = some x) (hok : Ok s) : Rel (holdAll s (keptL (s.wait.take (j + 1)) (kl.take (j + 1)))) (if x then hs.set c.1.toNat c.2 else hs) := by
  have hj : j < s.wait.length := (List.getElem?_eq_some_iff.1 hc).1
  have hk : j < kl.length := (List.getElem?_eq_some_iff.1 hx).1
  have hks := keptL_snoc c x (s.wait.take j) (kl.take j) (by rw [List.length_take, List.length_take]; omega)
  rw [← take_snoc hc, ← show kl.take (j + 1) = kl.take j ++ [x] by rw [List.take_add_one, hx]; rfl] at hks
  rw [hks]
  cases x
  · simpa using h
  · rw [if_pos rfl, if_pos rfl, holdAll_snoc]
    have hw := hok.wait c (List.mem_of_getElem? hc)
    exact h.hold (by rw [holdAll_n]; exact hw.1) hw.2
end Go.Proofs.Ytembocfghkmieaa
/- The document's disk and the program's stand for the same: each call keeps it, and both answer alike; no condition. -/
namespace Go.Proofs.Ytembocfghkmieaa
open Go.RowKit Go.Maps
/-- t, the document's, and s, the program's, stand for one disk. -/
structure Sim (t : RSt) (s : St) : Prop where
  n : t.n = s.n
  rise : Rise (-1) t.held
  sound : Sound t.held
  top : ∀ c ∈ t.held, c.1 < s.n
  held : ∀ k, atL t.held k = (s.held k).getD nought
  wait : t.wait = s.wait
  fuse : s.fuse = if t.fused then t.left else -1
  left : t.fused = true → 0 ≤ t.left ∧ t.left ≤ 9223372036854775807
  dead : t.dead = s.stopped
  ops : t.ops = s.ops
  count : t.count = s.made
  seen : t.seen = s.reads
  claims : t.claims = s.claims
  owner : t.owner = if s.claimed then s.claims else 0
  claimed : s.claimed = true → 0 < s.claims
theorem Sim.image {t : RSt} {s : St} (h : Sim t s) : IsImage s t.held := ⟨h.rise, h.sound, h.top, h.held⟩
theorem Sim.ref {t : RSt} {s : St} (h : Sim t s) (k : Int) : rRefV t k = refV s k := by
  unfold rRefV refV
  rw [h.dead, h.n]
theorem Sim.cur {t : RSt} {s : St} (h : Sim t s) (k : Int) : rCur t k = curV s k := by
  unfold rCur curV
  rw [h.wait, h.held k]
  rfl
theorem Sim.lets {t : RSt} {s : St} (h : Sim t s) : rLetsB t = lets s := by
  unfold rLetsB Go.Proofs.Ytembocfghkmieaa.lets
  rw [h.fuse]
  cases hf : t.fused
  · simp
  · have := h.left hf
    by_cases e : t.left = 0
    · simp [e]
    · simp [e]
theorem sim_new {n : Int} : Sim (rNew n []) (newV n) := ⟨rfl, trivial, (fun c hc => by cases hc), (fun c hc => by cases hc), fun _ => rfl, rfl, rfl, (fun h => by cases h), rfl, rfl, rfl, rfl, rfl, rfl, (fun h => by cases h)⟩
theorem Sim.read {t : RSt} {s : St} (h : Sim t s) : Sim { t with seen := t.seen + 1 } (readS s) :=
  ⟨h.n, h.rise, h.sound, h.top, h.held, h.wait, h.fuse, h.left, h.dead, h.ops, h.count, by show t.seen + 1 = s.reads + 1; rw [h.seen], h.claims, h.owner, h.claimed⟩
theorem Sim.let_ {t : RSt} {s : St} (h : Sim t s) : Sim (rLets t) (letV s) := by
  have hl := h.lets
  have hf := h.fuse
  unfold rLets letV
  cases hL : rLetsB t
  · rw [hL] at hl
    have h0 : s.fuse = 0 := by unfold Go.Proofs.Ytembocfghkmieaa.lets at hl; simpa using hl.symm
    rw [if_pos h0]
    simp only [Bool.false_eq_true, if_false]
    exact ⟨h.n, h.rise, h.sound, h.top, h.held, h.wait, h.fuse, h.left, rfl, h.ops, h.count, h.seen, h.claims, h.owner, h.claimed⟩
  · rw [hL] at hl
    have h0 : ¬ s.fuse = 0 := by unfold Go.Proofs.Ytembocfghkmieaa.lets at hl; simpa using hl.symm
    rw [if_neg h0]
    simp only [if_true]
    cases hfd : t.fused
    · rw [hfd] at hf
      simp only [Bool.false_eq_true, if_false] at hf ⊢
      refine ⟨h.n, h.rise, h.sound, h.top, h.held, h.wait, ?_, (fun q => by cases q), h.dead, h.ops, by show t.count + 1 = s.made + 1; rw [h.count], h.seen, h.claims, h.owner, h.claimed⟩
      show (if s.fuse = -1 then (-1 : Int) else s.fuse - 1) = -1
      rw [if_pos hf]
    · rw [hfd] at hf
      simp only [if_true] at hf ⊢
      have hb := h.left hfd
      refine ⟨h.n, h.rise, h.sound, h.top, h.held, h.wait, ?_, fun _ => by show 0 ≤ t.left - 1 ∧ t.left - 1 ≤ _; omega, h.dead, h.ops, by show t.count + 1 = s.made + 1; rw [h.count], h.seen, h.claims, h.owner, h.claimed⟩
      show (if s.fuse = -1 then (-1 : Int) else s.fuse - 1) = t.left - 1
      rw [if_neg (by omega), hf]
theorem Sim.write {t : RSt} {s : St} (h : Sim t s) (k : Int) (f : Nat → Int) : Sim (rWriteS t k f) (writeS s k f) := by
  have h1 := h.let_
  refine ⟨h1.n, h1.rise, h1.sound, h1.top, h1.held, ?_, h1.fuse, h1.left, h1.dead, ?_, h1.count, h1.seen, h1.claims, h1.owner, h1.claimed⟩
  · show (rLets t).wait ++ [(k, f)] = s.wait ++ [(k, f)]
    rw [h1.wait, letV_wait]
  · show (rLets t).ops ++ [⟨1, k, f⟩] = (writeS s k f).ops
    rw [h1.ops, letV_ops]
    show s.ops ++ [wrec (k, f)] = (letV s).done ++ (s.wait ++ [(k, f)]).map wrec
    rw [letV_done, List.map_append, ← List.append_assoc]
    rfl
theorem Sim.fuse_ {t : RSt} {s : St} (h : Sim t s) (n : Int) (hn : n ≤ 9223372036854775807) : Sim (rFuse t n) (fuseV s n) := by
  unfold rFuse fuseV
  rw [h.dead]
  cases hs : s.stopped
  · simp only [Bool.false_eq_true, if_false]
    refine ⟨h.n, h.rise, h.sound, h.top, h.held, h.wait, ?_, fun q => ?_, rfl, h.ops, h.count, h.seen, h.claims, h.owner, h.claimed⟩
    · show max n (-1) = if decide (0 ≤ n) = true then n else -1
      by_cases q : 0 ≤ n
      · rw [if_pos (by simp [q])]; omega
      · rw [if_neg (by simp [q])]; omega
    · have q' : decide (0 ≤ n) = true := q
      have : 0 ≤ n := by simpa using q'
      show 0 ≤ n ∧ n ≤ _
      omega
  · simp only [if_true]
    exact h
theorem Sim.claim {t : RSt} {s : St} (h : Sim t s) (hc : 0 ≤ s.claims) : Sim (rClaim t) (claimV s) ∧ rClaimN t = claimN s := by
  unfold rClaim claimV rClaimN claimN
  rw [h.dead, h.claims]
  cases hs : s.stopped
  · simp only [Bool.false_eq_true, if_false]
    refine ⟨⟨h.n, h.rise, h.sound, h.top, h.held, h.wait, h.fuse, h.left, rfl, h.ops, h.count, h.seen, rfl, rfl, fun _ => ?_⟩, trivial⟩
    show 0 < s.claims + 1
    omega
  · simp only [if_true]
    exact ⟨h, trivial⟩
theorem Sim.isClaimed {t : RSt} {s : St} (h : Sim t s) (n : Int) : rClaimed t n = claimedV s n := by
  unfold rClaimed claimedV
  rw [h.dead, h.owner]
  cases hs : s.stopped
  · cases hd : s.claimed
    · simp
      intro q e
      omega
    · have := h.claimed hd
      simp only [Bool.not_false, Bool.true_and, if_true]
      by_cases e : n = s.claims
      · simp [e, this]
      · simp [e]
  · simp
/-- Laying blocks into the document's list is holding them. -/
theorem lay_hold {t : List Cel} {s : St} (hr : Rise (-1) t) (hs : Sound t) (hh : ∀ k, atL t k = (s.held k).getD nought) : ∀ (ws : List Cel), (∀ c ∈ ws, (0 ≤ c.1 ∧ c.1 < s.n) ∧ Can c.2) →
    Rise (-1) (rLay t ws) ∧ Sound (rLay t ws) ∧ ∀ k, atL (rLay t ws) k = ((holdAll s ws).held k).getD nought := fun ws => by
  suffices H : ∀ n, n ≤ ws.length → (∀ c ∈ ws, (0 ≤ c.1 ∧ c.1 < s.n) ∧ Can c.2) → Rise (-1) (rLay t (ws.take n)) ∧ Sound (rLay t (ws.take n)) ∧ ∀ k, atL (rLay t (ws.take n)) k = ((holdAll s (ws.take n)).held k).getD nought by
    intro hw
    have := H ws.length (Nat.le_refl _) hw
    rwa [List.take_length] at this
  intro n
  induction n with
  | zero => intro _ _; simp [rLay, holdAll]; exact ⟨hr, hs, hh⟩
  | succ n ih =>
    intro hn hw
    obtain ⟨i1, i2, i3⟩ := ih (by omega) hw
    have hx : ws[n]? = some ws[n] := List.getElem?_eq_getElem (by omega)
    have htk : ws.take (n + 1) = ws.take n ++ [ws[n]] := by rw [List.take_add_one, hx]; rfl
    have hc := hw _ (List.getElem_mem (by omega : n < ws.length))
    rw [htk, rLay_snoc, holdAll_snoc]
    obtain ⟨l1, l2, l3⟩ := laid_spec ws[n].1 ws[n].2 hc.2 (by omega : (-1 : Int) < ws[n].1) i1 i2
    refine ⟨l1, l2, fun k => ?_⟩
    rw [l3, holdV_get _ _ hc.2, i3]
theorem at_mem : ∀ {m : Int} {l : List Cel}, Rise m l → ∀ c ∈ l, m < c.1 ∧ atL l c.1 = c.2
  | _, [], _, c, hc => by cases hc
  | m, x :: r, h, c, hc => by
    rcases List.mem_cons.1 hc with rfl | hc
    · exact ⟨h.1, by simp [atL]⟩
    · obtain ⟨h1, h2⟩ := at_mem h.2 c hc
      refine ⟨by have := h.1; omega, ?_⟩
      rw [atL, if_neg (by omega)]
      exact h2
theorem top_of {l : List Cel} {s : St} (hr : Rise (-1) l) (hs : Sound l) (hh : ∀ k, atL l k = (s.held k).getD nought) (hk : Ok s) : ∀ c ∈ l, c.1 < s.n := fun c hc => by
  obtain ⟨_, h2⟩ := at_mem hr c hc
  rw [hh] at h2
  cases hx : s.held c.1 with
  | none =>
    rw [hx] at h2
    exact absurd h2.symm (hs c hc).2
  | some f => exact (hk.held _ _ hx).1.2
theorem holdAll_ok : ∀ {l : List Cel} {s : St}, Ok s → (∀ c ∈ l, (0 ≤ c.1 ∧ c.1 < s.n) ∧ Can c.2) → Ok (holdAll s l)
  | [], _, h, _ => h
  | c :: l, s, h, hw => by
    have h1 := hw c (by simp)
    exact holdAll_ok (l := l) (holdV_ok h h1.1 h1.2) fun x hx => hw x (by simp [hx])
theorem Sim.barrier {t : RSt} {s : St} (h : Sim t s) (hk : Ok s) : Sim (rBarS t) (barS s) := by
  have h1 := h.let_
  have hk1 := letV_ok hk
  have hw : ∀ c ∈ s.wait, (0 ≤ c.1 ∧ c.1 < (letV s).n) ∧ Can c.2 := by rw [letV_n]; exact hk.wait
  obtain ⟨l1, l2, l3⟩ := lay_hold h1.rise h1.sound h1.held s.wait hw
  have hok : Ok (barS s) := barS_ok (holdAll_ok hk1 hw)
  have e0 : (rBarS t).held = rLay (rLets t).held s.wait := by
    show rLay (rLets t).held (rLets t).wait = _
    rw [h1.wait, letV_wait]
  obtain ⟨hh, he⟩ := holdAll_same s.wait (letV s)
  have e1 : (barS s).held = (holdAll (letV s) s.wait).held := rfl
  refine ⟨?_, by rw [e0]; exact l1, by rw [e0]; exact l2, ?_, fun k => by rw [e0, e1]; exact l3 k, rfl, ?_, h1.left, ?_, ?_, ?_, ?_, ?_, ?_, ?_⟩
  · show (rLets t).n = (holdAll (letV s) s.wait).n
    rw [he]; exact h1.n
  · rw [e0]; exact top_of l1 l2 (fun k => by rw [e1]; exact l3 k) hok
  · show (holdAll (letV s) s.wait).fuse = _
    rw [he]; exact h1.fuse
  · show (rLets t).dead = (holdAll (letV s) s.wait).stopped
    rw [he]; exact h1.dead
  · rw [barS_ops]
    show (rLets t).ops ++ _ = _
    rw [h1.ops, letV_ops]
  · show (rLets t).count = (holdAll (letV s) s.wait).made
    rw [he]; exact h1.count
  · show (rLets t).seen = (holdAll (letV s) s.wait).reads
    rw [he]; exact h1.seen
  · show (rLets t).claims = (holdAll (letV s) s.wait).claims
    rw [he]; exact h1.claims
  · show (rLets t).owner = if (holdAll (letV s) s.wait).claimed then (holdAll (letV s) s.wait).claims else 0
    rw [he]; exact h1.owner
  · show (holdAll (letV s) s.wait).claimed = true → 0 < (holdAll (letV s) s.wait).claims
    rw [he]; exact h1.claimed
theorem keptL_mem : ∀ (l : List Cel) (k : List Bool), ∀ c ∈ keptL l k, c ∈ l
  | [], _, c, h => by simp [keptL] at h
  | x :: l, [], c, h => by simp [keptL] at h
  | x :: l, true :: k, c, h => by
    rcases List.mem_cons.1 (show c ∈ x :: keptL l k from h) with rfl | h
    · simp
    · exact List.mem_cons_of_mem _ (keptL_mem l k c h)
  | x :: l, false :: k, c, h => List.mem_cons_of_mem _ (keptL_mem l k c h)
theorem Sim.crash {t : RSt} {s : St} (h : Sim t s) (hk : Ok s) (kl : List Bool) : Sim (rCrashS t kl) (crashS s kl) := by
  have hw : ∀ c ∈ keptL s.wait kl, (0 ≤ c.1 ∧ c.1 < s.n) ∧ Can c.2 := fun c hc => hk.wait c (keptL_mem _ _ c hc)
  obtain ⟨l1, l2, l3⟩ := lay_hold h.rise h.sound h.held (keptL s.wait kl) hw
  have hok : Ok (crashS s kl) := crashS_ok (holdAll_ok hk hw)
  have e0 : (rCrashS t kl).held = rLay t.held (keptL s.wait kl) := by
    show rLay t.held (keptL t.wait kl) = _
    rw [h.wait]
  obtain ⟨hh, he⟩ := holdAll_same (keptL s.wait kl) s
  have e1 : (crashS s kl).held = (holdAll s (keptL s.wait kl)).held := rfl
  refine ⟨?_, by rw [e0]; exact l1, by rw [e0]; exact l2, ?_, fun k => by rw [e0, e1]; exact l3 k, rfl, rfl, (fun q => by cases q), rfl, rfl, ?_, ?_, ?_, rfl, (fun q => by cases q)⟩
  · show t.n = (holdAll s (keptL s.wait kl)).n
    rw [he]; exact h.n
  · rw [e0]; exact top_of l1 l2 (fun k => by rw [e1]; exact l3 k) hok
  · show t.count = (holdAll s (keptL s.wait kl)).made
    rw [he]; exact h.count
  · show t.seen = (holdAll s (keptL s.wait kl)).reads
    rw [he]; exact h.seen
  · show t.claims = (holdAll s (keptL s.wait kl)).claims
    rw [he]; exact h.claims
end Go.Proofs.Ytembocfghkmieaa
/- Parts of memory that lie apart: one of them turns, the others stay; no condition. -/
namespace Go.Proofs.Ytembocfghkmieaa
open Go.RowKit

theorem Fr.below' {T : Nat → Prop} {B : Nat} {a b : World} (h : Fr T a b) (hT : ∀ k, T k → k < a.heap.size → B ≤ k) (hB : B ≤ a.heap.size) : Below B a b :=
  ⟨h.os, h.tape, h.output, h.size, fun i hi => h.block i (by omega) fun q => by have := hT i q (by omega); omega⟩
/-- A part of memory: its blocks, and what it says. -/
structure Part where
  own : Nat → Prop
  say : World → Prop
/-- What a part says goes by its own blocks alone. -/
def Part.Good (p : Part) : Prop := ∀ W W' : World, p.say W → (∀ k, p.own k → k < W.heap.size) → (∀ k, p.own k → W'.heap[k]? = W.heap[k]?) → p.say W'
/-- Parts that were made since w, and lie apart. -/
structure Sep (w W : World) (l : List Part) : Prop where
  good : ∀ p ∈ l, p.Good
  say : ∀ p ∈ l, p.say W
  lt : ∀ p ∈ l, ∀ k, p.own k → w.heap.size ≤ k ∧ k < W.heap.size
  apart : l.Pairwise fun p q => ∀ k, p.own k → ¬ q.own k
  below : Below w.heap.size w W
variable {w W W' : World} {p p' q : Part} {l : List Part}
theorem Sep.head (h : Sep w W (p :: l)) : p.say W := h.say p (by simp)
theorem Sep.headLt (h : Sep w W (p :: l)) {k : Nat} (hk : p.own k) : w.heap.size ≤ k ∧ k < W.heap.size := h.lt p (by simp) k hk
/-- The first one turns. -/
theorem Sep.turn (h : Sep w W (p :: l)) {T : Nat → Prop} (hF : Fr T W W') (hT : ∀ k, k < W.heap.size → T k → p.own k) (hg : p'.Good) (hs : p'.say W') (ho : ∀ k, p'.own k → (p.own k ∨ W.heap.size ≤ k) ∧ k < W'.heap.size) : Sep w W' (p' :: l) := by
  obtain ⟨ha, hl⟩ := List.pairwise_cons.1 h.apart
  refine ⟨fun q hq => ?_, fun q hq => ?_, fun q hq k hk => ?_, List.pairwise_cons.2 ⟨fun q hq k hk hk2 => ?_, hl⟩, ?_⟩
  · rcases List.mem_cons.1 hq with rfl | hq
    · exact hg
    · exact h.good q (List.mem_cons_of_mem _ hq)
  · rcases List.mem_cons.1 hq with rfl | hq
    · exact hs
    · have hm : q ∈ p :: l := List.mem_cons_of_mem _ hq
      exact h.good q hm W W' (h.say q hm) (fun k hk => (h.lt q hm k hk).2) fun k hk => hF.block k (h.lt q hm k hk).2 fun hp => ha q hq k (hT k (h.lt q hm k hk).2 hp) hk
  · rcases List.mem_cons.1 hq with rfl | hq
    · refine ⟨?_, (ho k hk).2⟩
      rcases (ho k hk).1 with r | r
      · exact (h.lt p (by simp) k r).1
      · have := h.below.size; omega
    · have := h.lt q (List.mem_cons_of_mem _ hq) k hk
      exact ⟨this.1, Nat.lt_of_lt_of_le this.2 hF.size⟩
  · rcases (ho k hk).1 with r | r
    · exact ha q hq k r hk2
    · have := (h.lt q (List.mem_cons_of_mem _ hq) k hk2).2
      omega
  · exact h.below.trans (hF.below' (fun k hk hlt => (h.lt p (by simp) k (hT k hlt hk)).1) h.below.size)
theorem Sep.later (h : Sep w W l) (hb : Below W.heap.size W W') : Sep w W' l :=
  ⟨h.good, fun q hq => h.good q hq W W' (h.say q hq) (fun k hk => (h.lt q hq k hk).2) fun k hk => hb.block k (h.lt q hq k hk).2, fun q hq k hk => ⟨(h.lt q hq k hk).1, Nat.lt_of_lt_of_le (h.lt q hq k hk).2 hb.size⟩, h.apart, h.below.trans (hb.mono h.below.size)⟩
/-- One more, made just now. -/
theorem Sep.add (h : Sep w W l) (hb : Below W.heap.size W W') (hg : p.Good) (hs : p.say W') (ho : ∀ k, p.own k → W.heap.size ≤ k ∧ k < W'.heap.size) : Sep w W' (p :: l) := by
  have h2 := h.later hb
  refine ⟨fun q hq => ?_, fun q hq => ?_, fun q hq k hk => ?_, List.pairwise_cons.2 ⟨fun q hq k hk hk2 => ?_, h2.apart⟩, h2.below⟩
  · rcases List.mem_cons.1 hq with rfl | hq
    · exact hg
    · exact h2.good q hq
  · rcases List.mem_cons.1 hq with rfl | hq
    · exact hs
    · exact h2.say q hq
  · rcases List.mem_cons.1 hq with rfl | hq
    · have := h.below.size
      have := ho k hk
      omega
    · exact h2.lt q hq k hk
  · have := (h.lt q hq k hk2).2
    have := (ho k hk).1
    omega
theorem Sep.perm {l' : List Part} (h : Sep w W l) (hp : l.Perm l') : Sep w W l' :=
  ⟨fun q hq => h.good q (hp.mem_iff.2 hq), fun q hq => h.say q (hp.mem_iff.2 hq), fun q hq => h.lt q (hp.mem_iff.2 hq), (hp.pairwise_iff fun h k hk hk2 => h k hk2 hk).1 h.apart, h.below⟩
theorem Sep.swap (h : Sep w W (p :: q :: l)) : Sep w W (q :: p :: l) := h.perm (List.Perm.swap _ _ _)
/-- The third one comes to the front. -/
theorem Sep.third {r : Part} (h : Sep w W (p :: q :: r :: l)) : Sep w W (r :: p :: q :: l) := h.perm ((List.Perm.cons _ (List.Perm.swap _ _ _)).trans (List.Perm.swap _ _ _))
theorem Sep.back {r : Part} (h : Sep w W (r :: p :: q :: l)) : Sep w W (p :: q :: r :: l) := h.perm ((List.Perm.swap _ _ _).trans (List.Perm.cons _ (List.Perm.swap _ _ _)))
/-- The first one is let go. -/
theorem Sep.drop (h : Sep w W (p :: l)) : Sep w W l :=
  ⟨fun q hq => h.good q (List.mem_cons_of_mem _ hq), fun q hq => h.say q (List.mem_cons_of_mem _ hq), fun q hq => h.lt q (List.mem_cons_of_mem _ hq), (List.pairwise_cons.1 h.apart).2, h.below⟩
theorem Sep.nil (hb : Below w.heap.size w W) : Sep w W [] := ⟨by simp, by simp, by simp, List.Pairwise.nil, hb⟩
/-- Nothing. -/
def noPart : Part := ⟨fun _ => False, fun _ => True⟩
theorem noPart_good : noPart.Good := fun _ _ _ _ _ => trivial
theorem Sep.none (h : Sep w W l) : Sep w W (noPart :: l) := h.add (Below.refl _ _) noPart_good trivial fun _ q => q.elim
end Go.Proofs.Ytembocfghkmieaa
/- What is held behind writes and barriers, and of an image that is loaded again, as plain lists; no condition. -/
namespace Go.Proofs.Ytembocfghkmieaa
open Go.RowKit

theorem rises_of {n : Int} : ∀ (l : List Cel) (m : Int), Rise m l → Sound l → (∀ c ∈ l, c.1 < n) → risesB n m l = true
  | [], _, _, _, _ => rfl
  | (i, x) :: t, m, hr, hs, ht => by
    have h1 := hr.1
    have h2 := ht (i, x) (by simp)
    have h3 := hs (i, x) (by simp)
    have h4 : blankB x = false := by
      cases hb : blankB x
      · rfl
      · exact absurd (h3.1.blank.1 hb) h3.2
    have ih := rises_of t i hr.2 (fun c hc => hs c (by simp [hc])) fun c hc => ht c (by simp [hc])
    unfold risesB
    simp only at h2 ⊢
    rw [ih, h4, decide_eq_false (by omega : ¬ i ≤ m), decide_eq_false (by omega : ¬ i ≥ n)]
    rfl
theorem rise_len {n : Int} : ∀ (l : List Cel) (m : Int), Rise m l → (∀ c ∈ l, c.1 < n) → m < n → (l.length : Int) ≤ n - m - 1
  | [], m, _, _, h => by simp; omega
  | (i, x) :: t, m, hr, ht, h => by
    have h1 := hr.1
    have h2 := ht (i, x) (by simp)
    have ih := rise_len t i hr.2 (fun c hc => ht c (by simp [hc])) h2
    simp only [List.length_cons] at *
    omega
theorem image_may {s : St} {l : List Cel} (h : IsImage s l) (hok : Ok s) : mayB s.n l = true := by
  have hn := hok.n
  unfold mayB
  rw [rises_of l (-1) h.rise h.sound h.top, show bndB s.n = true by unfold bndB; simp; omega]
  rfl
theorem image_len {s : St} {l : List Cel} (h : IsImage s l) (hok : Ok s) : l.length < 9223372036854775807 := by
  have := rise_len l (-1) h.rise h.top (by have := hok.n; omega)
  have := hok.n
  omega
/-- What the last of the writes to k left; x, if there is none. -/
def lastV (x : Nat → Int) : List Cel → Int → Nat → Int
  | [], _ => x
  | c :: t, k => lastV (if c.1 = k then c.2 else x) t k
theorem lastV_none {k : Int} : ∀ (l : List Cel) (x : Nat → Int), (∀ c ∈ l, c.1 ≠ k) → lastV x l k = x
  | [], _, _ => rfl
  | c :: t, x, h => by
    unfold lastV
    rw [if_neg (h c (by simp))]
    exact lastV_none t x fun c hc => h c (by simp [hc])
theorem rise_ne : ∀ (l : List Cel) (m : Int), Rise m l → ∀ c ∈ l, m < c.1
  | [], _, _, c, hc => by simp at hc
  | (i, x) :: t, m, h, c, hc => by
    rcases List.mem_cons.1 hc with rfl | hc
    · exact h.1
    · have := rise_ne t i h.2 c hc
      have := h.1
      omega
theorem lastV_at {k : Int} : ∀ (l : List Cel) (m : Int), Rise m l → lastV nought l k = atL l k
  | [], _, _ => rfl
  | (i, x) :: t, m, h => by
    unfold lastV atL
    simp only
    by_cases e : i = k
    · rw [if_pos e, if_pos e]
      exact lastV_none t x fun c hc q => by have := rise_ne t i h.2 c hc; omega
    · rw [if_neg e, if_neg e]
      exact lastV_at t i h.2
theorem lastV_append {k : Int} : ∀ (l m : List Cel) (x : Nat → Int), lastV x (l ++ m) k = lastV (lastV x l k) m k
  | [], _, _ => rfl
  | c :: t, m, x => by
    show lastV (if c.1 = k then c.2 else x) (t ++ m) k = _
    rw [lastV_append t m]
    rfl
theorem holdAll_get {k : Int} : ∀ (l : List Cel) (s : St), (∀ c ∈ l, Can c.2) → ((holdAll s l).held k).getD nought = lastV ((s.held k).getD nought) l k
  | [], _, _ => rfl
  | c :: t, s, h => by
    show ((holdAll (holdV s c.1 c.2) t).held k).getD nought = _
    rw [holdAll_get t _ fun c hc => h c (by simp [hc]), holdV_get s c.1 (h c (by simp)) k]
    show _ = lastV (if c.1 = k then c.2 else (s.held k).getD nought) t k
    by_cases e : k = c.1
    · rw [if_pos e, if_pos e.symm]
    · rw [if_neg e, if_neg fun q => e q.symm]
theorem image_load {s : St} {l : List Cel} (h : IsImage s l) (k : Int) : ((loadV s.n l).held k).getD nought = (s.held k).getD nought := by
  unfold loadV
  rw [holdAll_get l _ fun c hc => (h.sound c hc).1, ← h.at_ k]
  exact lastV_at l (-1) h.rise
theorem lastAt_last {k : Int} : ∀ (l : List Cel) (x : Nat → Int), (match lastAt l k with | some i => (match l[i]? with | some c => c.2 | none => nought) | none => x) = lastV x l k
  | [], _ => rfl
  | c :: t, x => by
    have ih := lastAt_last (k := k) t (if c.1 = k then c.2 else x)
    unfold lastV
    rw [← ih]
    show (match (match lastAt t k with | some i => some (i + 1) | none => if c.1 = k then some 0 else none) with | some i => (match (c :: t)[i]? with | some c => c.2 | none => nought) | none => x) = _
    cases lastAt t k with
    | some i => rfl
    | none =>
      by_cases e : c.1 = k
      · rw [if_pos e, if_pos e]; rfl
      · rw [if_neg e, if_neg e]
theorem curV_last (s : St) (k : Int) : curV s k = lastV ((s.held k).getD nought) s.wait k := by
  rw [← lastAt_last]
  rfl
theorem mod_in {n : Int} (hn : 1 ≤ n) (x : Int) : 0 ≤ x % n ∧ x % n < n := ⟨Int.emod_nonneg _ (by omega), Int.emod_lt_of_pos _ (by omega)⟩
theorem goes_on {s : St} (hs : s.stopped = false) (i : Nat) : goesB s (-1) i = true := by unfold goesB; rw [hs]; simp
section
variable (n : Int) (q : Nat → Int × (Nat → Int))
/-- The disk behind the first i puts. -/
def putS : Nat → St
  | 0 => newV n
  | i + 1 => if (q i).1 < 0 then barS (putS i) else writeS (putS i) ((q i).1 % n) (q i).2
/-- The writes of the first i puts. -/
def wrL : Nat → List Cel
  | 0 => []
  | i + 1 => if (q i).1 < 0 then wrL i else wrL i ++ [((q i).1 % n, (q i).2)]
/-- The last barrier of the first i puts. -/
def lastI : Nat → Int
  | 0 => -1
  | i + 1 => if (q i).1 < 0 then i else lastI i
/-- A disk to which only writes came. -/
def wrS : Nat → St
  | 0 => newV n
  | i + 1 => if (q i).1 < 0 then wrS i else writeS (wrS i) ((q i).1 % n) (q i).2
theorem putS_succ (i : Nat) : putS n q (i + 1) = if (q i).1 < 0 then barS (putS n q i) else writeS (putS n q i) ((q i).1 % n) (q i).2 := rfl
theorem wrL_succ (i : Nat) : wrL n q (i + 1) = if (q i).1 < 0 then wrL n q i else wrL n q i ++ [((q i).1 % n, (q i).2)] := rfl
theorem wrS_succ (i : Nat) : wrS n q (i + 1) = if (q i).1 < 0 then wrS n q i else writeS (wrS n q i) ((q i).1 % n) (q i).2 := rfl
theorem lastI_succ (i : Nat) : lastI q (i + 1) = if (q i).1 < 0 then (i : Int) else lastI q i := rfl
theorem wrL_can (hq : ∀ i, Can (q i).2) (i : Nat) : ∀ c ∈ wrL n q i, Can c.2 := by
  induction i with
  | zero => intro c hc; simp [wrL] at hc
  | succ i ih =>
    intro c hc
    rw [wrL_succ] at hc
    split at hc
    · exact ih c hc
    · rcases List.mem_append.1 hc with h | h
      · exact ih c h
      · obtain rfl : c = _ := by simpa using h
        exact hq i
theorem putS_is (hn : 1 ≤ n) (hq : ∀ i, Can (q i).2) (i : Nat) : Left (putS n q i) n (-1) i ∧ (putS n q i).stopped = false ∧ (putS n q i).made = i ∧ ∃ fl, fl = wrL n q (lastI q i).toNat ∧ fl ++ (putS n q i).wait = wrL n q i ∧ ∀ k, ((putS n q i).held k).getD nought = lastV nought fl k := by
  induction i with
  | zero => exact ⟨⟨rfl, fun _ => ⟨fun _ => rfl, fun h => by omega⟩, Nat.le_refl _, Int.le_refl _, rfl, rfl⟩, rfl, rfl, [], rfl, rfl, fun k => rfl⟩
  | succ i ih =>
    obtain ⟨hl, hs, hm, fl, h1, h2, h3⟩ := ih
    have hg := goes_on hs i
    have hlt := (goes_live hl hg).2
    have hmade : (letV (putS n q i)).made = i + 1 := by rw [(letV_live hlt).2.1, hm]
    rw [putS_succ, wrL_succ, lastI_succ]
    by_cases hb : (q i).1 < 0
    · rw [if_pos hb, if_pos hb, if_pos hb]
      obtain ⟨_, _, g1, g2, g3, g4, _⟩ := bar_goes hl hg
      obtain ⟨hh, he⟩ := holdAll_same (putS n q i).wait (letV (putS n q i))
      refine ⟨g1, g2, ?_, wrL n q i, by simp, by rw [g3, List.append_nil], fun k => ?_⟩
      · have e1 : (barS (putS n q i)).made = (holdAll (letV (putS n q i)) (putS n q i).wait).made := rfl
        rw [e1, he]
        exact hmade
      · rw [g4, holdAll_get _ _ (fun c hc => wrL_can n q hq i c (by rw [← h2]; exact List.mem_append_right _ hc)), h3, ← lastV_append, h2]
    · rw [if_neg hb, if_neg hb, if_neg hb]
      obtain ⟨_, _, g1, g2, g3, g4, _⟩ := write_goes hl hg (mod_in hn (q i).1) (q i).2
      refine ⟨g1, g2, hmade, fl, h1, by rw [g3, ← List.append_assoc, h2], fun k => by rw [g4]; exact h3 k⟩
theorem wrS_is (hn : 1 ≤ n) (i : Nat) : ∃ j : Nat, j ≤ i ∧ Left (wrS n q i) n (-1) j ∧ (wrS n q i).stopped = false ∧ (wrS n q i).wait = wrL n q i ∧ ∀ k, (wrS n q i).held k = none := by
  induction i with
  | zero => exact ⟨0, Nat.le_refl _, ⟨rfl, fun _ => ⟨fun _ => rfl, fun h => by omega⟩, Nat.le_refl _, Int.le_refl _, rfl, rfl⟩, rfl, rfl, fun k => rfl⟩
  | succ i ih =>
    obtain ⟨j, hj, hl, hs, h1, h2⟩ := ih
    rw [wrS_succ, wrL_succ]
    by_cases hb : (q i).1 < 0
    · rw [if_pos hb, if_pos hb]
      exact ⟨j, by omega, hl, hs, h1, h2⟩
    · rw [if_neg hb, if_neg hb]
      obtain ⟨_, _, g1, g2, g3, g4, _⟩ := write_goes hl (goes_on hs j) (mod_in hn (q i).1) (q i).2
      exact ⟨j + 1, by omega, g1, g2, by rw [g3, h1], fun k => by rw [g4]; exact h2 k⟩
/-- What the loaded one reads is what the one with the writes alone reads. -/
theorem again_same (hn : 1 ≤ n) (hq : ∀ i, Can (q i).2) (m : Nat) {l : List Cel} (h : IsImage (putS n q m) l) (k : Int) : curV (loadV (putS n q m).n l) k = curV (wrS n q (lastI q m).toNat) k := by
  obtain ⟨_, _, _, fl, h1, _, h3⟩ := putS_is n q hn hq m
  obtain ⟨_, _, _, _, h4, h5⟩ := wrS_is n q hn (lastI q m).toNat
  rw [curV_last, curV_last, h4, h5 k, show (loadV (putS n q m).n l).wait = [] from holdAll_wait _ _, ← h1]
  show ((loadV (putS n q m).n l).held k).getD nought = lastV nought fl k
  rw [image_load h k, h3 k]
end
end Go.Proofs.Ytembocfghkmieaa
/- Several disks in one world: one that turns, others beside it; any of them may be the one that turns; no condition. -/
namespace Go.Proofs.Ytembocfghkmieaa
open Go.RowKit

/-- New since w. -/
structure Solo (w : World) (W : World) (L : Loc) : Prop where
  new : L.from w.heap.size
  below : Below w.heap.size w W
/-- Another disk beside it. -/
structure By (w : World) (d1 : Nat) (s1 : St) (W : World) (L : Loc) (L1 : Loc) : Prop where
  at_ : L1.d = d1
  disk : DiskAt W L1 s1
  new : L1.from w.heap.size
  apart : ∀ k, L.has k → ¬ L1.has k
def Two (w : World) (d1 : Nat) (s1 : St) (W : World) (L : Loc) : Prop := Solo w W L ∧ ∃ L1, By w d1 s1 W L L1
def Tri (w : World) (d1 : Nat) (s1 : St) (d2 : Nat) (s2 : St) (W : World) (L : Loc) : Prop := Solo w W L ∧ ∃ L1 L2, By w d1 s1 W L L1 ∧ By w d2 s2 W L L2 ∧ ∀ k, L1.has k → ¬ L2.has k
variable {w W W' : World} {d d1 d2 : Nat} {s s1 s2 : St} {L L' L1 : Loc}
theorem solo_goes (h : Solo w W L) (hG : Goes W W' L L') : Solo w W' L' := by
  refine ⟨fun k hk => ?_, h.below.trans (hG.fr.below h.new h.below.size)⟩
  rcases hG.own k hk with q | q
  · exact h.new k q
  · have := h.below.size
    omega
theorem by_goes (h : By w d1 s1 W L L1) (hG : Goes W W' L L') : By w d1 s1 W' L' L1 := by
  refine ⟨h.at_, h.disk.fr hG.fr fun k hk q => h.apart k q hk, h.new, fun k hk q => ?_⟩
  rcases hG.own k hk with r | r
  · exact h.apart k r q
  · have := h.disk.lt k q
    omega
theorem solo_stays (w : World) : Stays (Solo w) := fun _ _ _ _ _ h hG => solo_goes h hG
theorem two_stays (w : World) (d1 : Nat) (s1 : St) : Stays (Two w d1 s1) := fun _ _ _ _ _ ⟨h, L1, h1⟩ hG => ⟨solo_goes h hG, L1, by_goes h1 hG⟩
theorem tri_stays (w : World) (d1 : Nat) (s1 : St) (d2 : Nat) (s2 : St) : Stays (Tri w d1 s1 d2 s2) := fun _ _ _ _ _ ⟨h, L1, L2, h1, h2, h3⟩ hG => ⟨solo_goes h hG, L1, L2, by_goes h1 hG, by_goes h2 hG, h3⟩
theorem Has.belowS (h : Has (Solo w) W d s) : Below w.heap.size w W := by
  obtain ⟨L, _, _, h⟩ := h
  exact h.below
theorem Has.below2 (h : Has (Two w d1 s1) W d s) : Below w.heap.size w W := by
  obtain ⟨L, _, _, h, _⟩ := h
  exact h.below
theorem Has.below3 (h : Has (Tri w d1 s1 d2 s2) W d s) : Below w.heap.size w W := by
  obtain ⟨L, _, _, h, _⟩ := h
  exact h.below
theorem Has.swap (h : Has (Two w d1 s1) W d s) : Has (Two w d s) W d1 s1 := by
  obtain ⟨L, hd, hD, h0, L1, h1⟩ := h
  exact ⟨L1, h1.at_, h1.disk, ⟨h1.new, h0.below⟩, L, hd, hD, h0.new, fun k q r => h1.apart k r q⟩
theorem Has.swap3 (h : Has (Tri w d1 s1 d2 s2) W d s) : Has (Tri w d s d2 s2) W d1 s1 := by
  obtain ⟨L, hd, hD, h0, L1, L2, h1, h2, h3⟩ := h
  exact ⟨L1, h1.at_, h1.disk, ⟨h1.new, h0.below⟩, L, L2, ⟨hd, hD, h0.new, fun k q r => h1.apart k r q⟩, ⟨h2.at_, h2.disk, h2.new, h3⟩, h2.apart⟩
theorem Has.drop3 (h : Has (Tri w d1 s1 d2 s2) W d s) : Has (Two w d s) W d2 s2 := by
  obtain ⟨L, hd, hD, h0, L1, L2, h1, h2, h3⟩ := h
  exact ⟨L2, h2.at_, h2.disk, ⟨h2.new, h0.below⟩, L, hd, hD, h0.new, fun k q r => h2.apart k r q⟩
/-- A disk that was made just now beside it. -/
theorem Has.add (h : Has (Solo w) W d s) (hb : Below W.heap.size W W') (hD1 : DiskAt W' L1 s1) (hL : L1.from W.heap.size) : Has (Two w L1.d s1) W' d s := by
  obtain ⟨L, hd, hD, h0⟩ := h
  exact ⟨L, hd, hD.later hb, solo_goes h0 (Goes.ofBelow L hb), L1, rfl, hD1, fun k hk => by have := hL k hk; have := h0.below.size; omega, fun k hk q => by have := hL k q; have := hD.lt k hk; omega⟩
theorem Has.add2 (h : Has (Two w d2 s2) W d s) (hb : Below W.heap.size W W') (hD1 : DiskAt W' L1 s1) (hL : L1.from W.heap.size) : Has (Tri w L1.d s1 d2 s2) W' d s := by
  obtain ⟨L, hd, hD, h0, L2, h2⟩ := h
  exact ⟨L, hd, hD.later hb, solo_goes h0 (Goes.ofBelow L hb), L1, L2, ⟨rfl, hD1, fun k hk => by have := hL k hk; have := h0.below.size; omega, fun k hk q => by have := hL k q; have := hD.lt k hk; omega⟩,
    by_goes h2 (Goes.ofBelow L hb), fun k hk q => by have := hL k hk; have := h2.disk.lt k q; omega⟩
/-- The image of a disk, loaded. -/
theorem img_cells {W : World} {g : Nat} {l : List Cel} (h : W.heap[g]? = some (.cells (celCells l).toArray 85)) : ImgAt W (some ⟨g, 0, none⟩) l := fun _ => by
  refine ⟨g, 0, rfl, (Array.getElem?_eq_some_iff.1 h).1, fun k c hc => ?_⟩
  obtain ⟨K, hK⟩ : ∃ K, K = k * 1025 := ⟨_, rfl⟩
  have key : ∀ j, j < 1025 → ∀ v, (celRow c)[j]? = some v → W.cell? ⟨g, K + j, none⟩ = some v := fun j hj v hv => by
    have q0 := (fm_get celRow 1025 celRow_len l k j c hc hj).trans hv
    rw [← hK] at q0
    rw [cell_of_row W g _ _ 85 _ h, List.getElem?_toArray]
    exact q0
  rw [Nat.zero_add, ← hK]
  clear hK hc h
  refine ⟨key 0 (by omega) _ rfl, fun j v hv => ?_⟩
  have hj : j < 1024 := by have := (List.getElem?_eq_some_iff.1 hv).1; rwa [blk_list_len] at this
  rw [Nat.add_assoc, Nat.add_comm 1 j]
  refine key (j + 1) (by omega) v ?_
  rw [show (celRow c)[j + 1]? = (blk c.2).toList[j]? by simp only [celRow, List.getElem?_cons_succ]]
  exact hv
theorem has_image {P : World → Loc → Prop} (hP : Stays P) (h : Has P W d s) : Calls Try.prog 17 #[.pointer (some ⟨d, 0, none⟩)] W fun e W' => ∃ (g : Nat) (l : List Cel), e = .returned (.agg #[.int .i64 s.n, .slice (some ⟨g, 0, none⟩) l.length l.length]) ∧ IsImage s l ∧ ImgAt W' (some ⟨g, 0, none⟩) l ∧ Has P W' d s := by
  have h' := h
  obtain ⟨L, rfl, hD, hp⟩ := h
  exact (image_walk hD).mono fun e W' ⟨g, l, h1, h2, h3, _, h5⟩ => ⟨g, l, h1, h2, img_cells h3, h'.later hP h5⟩
theorem load_image {s : St} {l : List Cel} (h : IsImage s l) (hok : Ok s) (p : Option Addr) (cap : Nat) (hi : ImgAt W p l) :
    Calls Try.prog 15 #[.agg #[.int .i64 s.n, .slice p l.length cap]] W fun e w' => ∃ L : Loc, e = .returned (.tuple #[.pointer (some ⟨L.d, 0, none⟩), .int .i64 0]) ∧ DiskAt w' L (loadV s.n l) ∧ L.from W.heap.size ∧ Below W.heap.size W w' :=
  load_ok s.n l p cap W (image_len h hok) hi (fun c hc => (h.sound c hc).1) (image_may h hok)
/-- A live disk that has been read j times. -/
structure Live (s : St) (n : Int) (j : Nat) : Prop where
  n : s.n = n
  live : s.stopped = false
  ops : s.ops.length ≤ 1000
  made : s.made ≤ 1000
  reads : s.reads ≤ j
  claims : s.claims = 0
theorem Live.room {s : St} {n : Int} {j : Nat} (h : Live s n j) (hj : j ≤ 1000) : Room s := ⟨by have := h.ops; omega, by have := h.made; omega, by have := h.reads; omega, by have := h.claims; omega⟩
theorem Live.read {s : St} {n : Int} {j : Nat} (h : Live s n j) {k : Int} (hk : 0 ≤ k ∧ k < n) : refV s k = 0 ∧ readB s k = curV s k ∧ readV s k = readS s ∧ Live (readS s) n (j + 1) ∧ ∀ i, curV (readS s) i = curV s i := by
  have hr : refV s k = 0 := by unfold refV; rw [h.live, if_neg (by simp), if_pos (by rw [h.n]; exact hk)]
  refine ⟨hr, ?_, ?_, ⟨h.n, h.live, h.ops, h.made, ?_, h.claims⟩, fun _ => rfl⟩
  · unfold readB
    rw [if_pos hr]
  · unfold readV
    rw [if_pos hr]
  · have := h.reads
    show s.reads + 1 ≤ ((j + 1 : Nat) : Int)
    omega
theorem Left.toLive {s : St} {n f : Int} {i : Nat} (h : Left s n f i) (hs : s.stopped = false) (hi : i ≤ 1000) : Live s n 0 := ⟨h.n, hs, by have := h.ops; omega, by have := h.made; omega, by have := h.reads; omega, h.claims⟩
theorem load_live (n : Int) (l : List Cel) : Live (loadV n l) n 0 := by
  obtain ⟨hh, he⟩ := holdAll_same l (newV n)
  unfold loadV
  rw [he]
  exact ⟨rfl, rfl, Nat.zero_le _, by show (0 : Int) ≤ 1000; omega, Int.le_refl _, rfl⟩
end Go.Proofs.Ytembocfghkmieaa
/- Lists of numbers, in memory of their own, are told apart; at most eight million of them, each of at most ten million. -/
namespace Go.Proofs.Ytembocfghkmieaa
open Go.RowKit Go.Maps
def enI (z : Int) : List Value := [.int .i64 z]
def vlI (z : Int) : Value := .int .i64 z
def mkI (k i : Nat) : Int := -1000 * ((k : Int) + 10) - (i : Int) - 7
theorem lenI (x : Int) : (enI x).length = 1 := rfl
theorem oneI (x : Int) : ∀ u ∈ enI x, u.oneCell' = true := fun u hu => by simp [enI] at hu; subst hu; rfl
theorem inf3 : (Try.prog.info? 3).map (fun i => (i.zero, i.size, i.bytes)) = some (some (.int .i64 0), 1, 8) := by kernel_rfl
theorem inf65 : (Try.prog.info? 65).map (fun i => (i.zero, i.size, i.bytes)) = some (some (.slice none 0 0), 1, 24) := by kernel_rfl
theorem markI_any (k : Int) (i : Nat) (w : World) (hk : 0 ≤ k ∧ k ≤ 10000000) (hi : i ≤ 100000000) : Calls Try.prog 78 #[.int .i64 k, .int .i64 i] w fun e w' => e = .returned (.int .i64 (-1000 * k - (i : Int) - 7)) ∧ w' = w := by
  have hw1 : IntKind.i64.wrap (-1000 * k) = -1000 * k := by rw [IntKind.wrap_i64]; omega
  have hw2 : IntKind.i64.wrap (-1000 * k - (i : Int)) = -1000 * k - (i : Int) := by rw [IntKind.wrap_i64]; omega
  have hw3 : IntKind.i64.wrap (-1000 * k - (i : Int) - 7) = -1000 * k - (i : Int) - 7 := by rw [IntKind.wrap_i64]; omega
  go_enter Try.func78, Try.ntmps78
  go_wp2
  go_ret
  exact ⟨rfl, rfl⟩
theorem markX_I (k i : Nat) (w : World) (hk : k ≤ 9000000) (hi : i ≤ 100000000) : Calls Try.prog 78 #[.int .i64 ((k : Int) + 10), .int .i64 i] w fun e w' => e = .returned (vlI (mkI k i)) ∧ Below w.heap.size w w' := by
  refine (markI_any ((k : Int) + 10) i w (by omega) hi).mono ?_
  rintro e w' ⟨rfl, rfl⟩
  exact ⟨rfl, Below.refl _ _⟩
theorem loadXI {w : World} {g off : Nat} {x : Int} (h : ∀ j v, (enI x)[j]? = some v → w.cell? ⟨g, off + j, none⟩ = some v) : (Instr.loadAt 3 (.pointer (some ⟨g, off, none⟩))).run Try.prog w = .ok (vlI x) w := by
  have h0 := h 0 _ rfl
  rw [Nat.add_zero] at h0
  go_simp
  rfl
theorem storeXI {w : World} {g off : Nat} {x : Int} {cur : Array Value} (hg : w.heap[g]? = some (.cells cur 3)) (hfit : off + 1 ≤ cur.size) :
    (Instr.storeAt 3 (.pointer (some ⟨g, off, none⟩)) (vlI x)).run Try.prog w = .ok () (w.setRow g (putE cur off (enI x))) := by
  have hst := run_storeCells_at Try.prog g off 3 (enI x) 0 cur w hg (by rw [lenI]; omega) (oneI x)
  obtain ⟨i0, hi0, hz0, hz1, hz2⟩ := info_parts inf3
  simp only [Nat.add_zero] at hst
  unfold putE vlI
  unfold enI at *
  simp [Instr.storeAt, Instr.sureAddr, storeVar, sizeOf, typeInfo, hi0, Value.cells, hz1, hst]
theorem eqXI (x : Int) (w : World) : (Op.equalIn 10000 3 (vlI x) (vlI x)).run Try.prog w = .ok true w := by
  unfold vlI
  rw [run_equalIn_int _ _ _ _ _ _ _ Try.underlying3]
  simp
theorem exec_ldXI {o : Oper} {a : Act} {W : World} {x : Operand} {g off : Nat} {c : Int} (ho : o.op = .load 3 x) (hx : a.eval x = .pointer (some ⟨g, off, none⟩)) (hc : ∀ j v, (enI c)[j]? = some v → W.cell? ⟨g, off + j, none⟩ = some v) : (execOp a.eval o).run Try.prog W = .ok (.value (vlI c)) W := by
  have e := loadXI hc
  unfold execOp
  simp only [ho, hx, e, Sem.run_bind, Result.andThen_ok, Sem.run_pure]
theorem quiet_ldXI {W : World} {o : Oper} {a : Act} {K : Act → Prop} (x : Operand) (ho : o.op = .load 3 x) (g off : Nat) (hx : a.eval x = .pointer (some ⟨g, off, none⟩)) (c : Int)
    (hlt : g < W.heap.size) (hc : ∀ j v, (enI c)[j]? = some v → W.cell? ⟨g, off + j, none⟩ = some v) (hk : K (a.put o.dst (vlI c))) : o.quiet Try.prog a (fun w' => ∃ x : Later W, w' = x.val) K := by
  refine ⟨vlI c, ?_, hk⟩
  rintro _ ⟨y, rfl⟩
  have hr := loadXI (w := y.val) (g := g) (off := off) (x := c) fun j v hv => (y.cell ⟨g, off + j, none⟩ hlt).trans (hc j v hv)
  unfold Oper.quietAt execOp
  simp only [ho, hx, hr, Sem.run_bind, Result.andThen_ok, Sem.run_pure]
  exact ⟨rfl, rfl⟩
theorem wpOrd_stXI {ops : Array Oper} {Q : Exit → Act → World → Prop} {S : World → Prop} {r : List (Bool × Oper)} {a : Act} {w : World} {o : Oper} (hw : Region.wanted o (yielded ops a.tmps) = true) (x y : Operand) (ho : o.op = .store 3 x y)
    (g off : Nat) (c : Int) (cur : Array Value) (hx : a.eval x = .pointer (some ⟨g, off, none⟩)) (hy : a.eval y = vlI c) (hg : w.heap[g]? = some (.cells cur 3)) (hfit : off + 1 ≤ cur.size)
    (h : S (w.setRow g (putE cur off (enI c))) ∧ wpOrd Try.prog ops Q S r (a.put o.dst undef) (w.setRow g (putE cur off (enI c)))) : wpOrd Try.prog ops Q S ((false, o) :: r) a w := by
  have hr := storeXI (x := c) hg hfit
  refine wpOrd_do hw ?_ h.1 h.2
  unfold execOp
  simp only [ho, hx, hy, Sem.run_bind, hr, Result.andThen_ok, Sem.run_pure]
set_option maxRecDepth 20000 in
set_option maxHeartbeats 4000000 in
theorem apartI_any (K gl : Nat) (ps : Nat → Option Addr) (ns cs : Nat → Nat) (w : World) (fs : Nat → List Int) (hK0 : 0 < K) (hK : (K : Int) ≤ 8000000) (cK : Nat) (hns : ∀ k, k < K → (fs k).length = ns k ∧ ns k ≤ 10000000)
    (hap : Apt K gl (fun k => .slice (ps k) (ns k) (cs k))) (h0 : Lsts enI 3 1 K gl (fun k => .slice (ps k) (ns k) (cs k)) w fs w) :
    Calls Try.prog 58 #[.slice (some ⟨gl, 0, none⟩) K cK] w fun e w' => e = .returned (.bool true) ∧ Fr (TV K (fun k => .slice (ps k) (ns k) (cs k))) w w' := by
  have HNS := Hid.mk' hns
  have HAP := Hid.mk' hap
  obtain ⟨i0, hi0, hz0, hz1, hz2⟩ := info_parts inf3
  obtain ⟨i1, hi1, hy0, hy1, hy2⟩ := info_parts inf65
  have HI0 := Hid.mk' hi0
  have HI1 := Hid.mk' hi1
  have HZ := Hid.mk' (show _ ∧ _ ∧ _ from ⟨hz0, hz1, hz2⟩)
  have HY := Hid.mk' (show _ ∧ _ ∧ _ from ⟨hy0, hy1, hy2⟩)
  clear hi0 hz0 hz1 hz2 hi1 hy0 hy1 hy2
  have H1 : Hid (Lsts enI 3 1 K gl (fun k => .slice (ps k) (ns k) (cs k)) w (fillU mkI fs 0 0) w) := ⟨h0.fr, h0.head, fun j hj => by
    rw [fillU_zero]
    exact h0.own j hj⟩
  clear hns h0 hap
  go_enter Try.func58, Try.ntmps58
  go_wp2
  go_loopw [3] (fun s3 wx => ∃ k : Nat, (k : Int) ≤ K ∧ s3 = .int .i64 k ∧ Hid (Lsts enI 3 1 K gl (fun k => .slice (ps k) (ns k) (cs k)) w (fillU mkI fs k 0) wx)) (fun s3 _ => K - (intOf s3).toNat)
  case atStart => exact ⟨0, by omega, rfl, H1.out⟩
  case round =>
    obtain ⟨k, hk, rfl, HL⟩ := hrel
    clear H1
    by_cases hk2 : (k : Int) < K
    · have hkN : k < K := by omega
      have hn := (HNS.out k hkN).2
      have HLN := Hid.mk' (HNS.out k hkN).1
      go_wp2
      go_loopw [4] (fun s4 wx => ∃ i : Nat, (i : Int) ≤ ns k ∧ s4 = .int .i64 i ∧ Hid (Lsts enI 3 1 K gl (fun k => .slice (ps k) (ns k) (cs k)) w (fillU mkI fs k i) wx)) (fun s4 _ => ns k - (intOf s4).toNat)
      case atStart => exact ⟨0, by omega, rfl, HL.out⟩
      case round =>
        clear HL
        obtain ⟨i, hi, rfl, HL⟩ := hrel
        have hhd : wr.cell? ⟨gl, k, none⟩ = some (.slice (ps k) (ns k) (cs k)) := HL.out.head k hkN
        by_cases hi2 : (i : Int) < ns k
        · obtain ⟨g, hp⟩ : ∃ g, ps k = some ⟨g, 0, none⟩ := by
            rcases own_form (HL.out.own k hkN) with ⟨q, _⟩ | ⟨g, c, q, _⟩
            · injection q with q1 q2
              omega
            · injection q with q1 q2 q3
              exact ⟨g, q1⟩
          have HP := Hid.mk' hp
          rw [hp] at hhd
          clear hp
          go_wp2
          have hwr : IntKind.i64.wrap ((k : Int) + 10) = (k : Int) + 10 := by rw [IntKind.wrap_i64]; omega
          refine wp_region_ord (S := fun u => u.cell? ⟨gl, k, none⟩ = some (.slice (some ⟨g, 0, none⟩) (ns k) (cs k))) [(0, true), (1, true), (2, true), (3, true), (4, true), (5, true), (6, true), (7, true), (8, false), (9, true), (10, false)]
            (by kernel_rfl) rfl (by kernel_rfl) (fun d _ _ _ _ h => by cases d <;> exact h) hhd ?_
          simp only [inOrd, List.getElem?_cons_zero, List.getElem?_cons_succ]
          refine wpOrd_yield (v := .slice (some ⟨gl, 0, none⟩) K cK) rfl (fun u _ => exec_mv rfl rfl) ?_
          simp only [Act.put, List.setIfInBounds_toArray, List.set_cons_succ, List.set_cons_zero]
          refine wpOrd_yield (v := .int .i64 (k : Int)) rfl (fun u _ => exec_mv rfl rfl) ?_
          simp only [Act.put, List.setIfInBounds_toArray, List.set_cons_succ, List.set_cons_zero]
          refine wpOrd_yield (v := .pointer (some ⟨gl, k, none⟩)) rfl (fun u _ => by go_simp) ?_
          simp only [Act.put, List.setIfInBounds_toArray, List.set_cons_succ, List.set_cons_zero]
          refine wpOrd_yield (v := .slice (some ⟨g, 0, none⟩) (ns k) (cs k)) rfl (fun u hu => by go_simp) ?_
          simp only [Act.put, List.setIfInBounds_toArray, List.set_cons_succ, List.set_cons_zero]
          refine wpOrd_yield (v := .int .i64 (i : Int)) rfl (fun u _ => exec_mv rfl rfl) ?_
          simp only [Act.put, List.setIfInBounds_toArray, List.set_cons_succ, List.set_cons_zero]
          refine wpOrd_yield (v := .int .i64 (k : Int)) rfl (fun u _ => exec_mv rfl rfl) ?_
          simp only [Act.put, List.setIfInBounds_toArray, List.set_cons_succ, List.set_cons_zero]
          refine wpOrd_yield (v := .int .i64 ((k : Int) + 10)) rfl (fun u _ => by go_simp) ?_
          simp only [Act.put, List.setIfInBounds_toArray, List.set_cons_succ, List.set_cons_zero]
          refine wpOrd_yield (v := .int .i64 (i : Int)) rfl (fun u _ => exec_mv rfl rfl) ?_
          simp only [Act.put, List.setIfInBounds_toArray, List.set_cons_succ, List.set_cons_zero]
          refine wpOrd_call rfl 78 _ _ rfl Try.call78 [.int .i64 ((k : Int) + 10), .int .i64 (i : Int)] rfl ?_
          refine (markX_I k i _ (by omega) (by omega)).mono ?_
          rintro e X ⟨rfl, hbX⟩
          have hLX : Lsts enI 3 1 K gl (fun k => .slice (ps k) (ns k) (cs k)) w (fillU mkI fs k i) X := (show Lsts enI 3 1 K gl (fun k => .slice (ps k) (ns k) (cs k)) w (fillU mkI fs k i) wr.drew from ⟨HL.out.fr.trans (Fr.drew (T := fun _ => False) wr) (fun _ _ q => q.elim), HL.out.head, HL.out.own⟩).later hbX
          have hhX : X.cell? ⟨gl, k, none⟩ = some (.slice (some ⟨g, 0, none⟩) (ns k) (cs k)) := by have := hLX.head k hkN; rw [← HP.out]; exact this
          obtain ⟨cur, hrow, hfit, hst⟩ := hLX.store (i := i) (g := g) (n := ns k) (c := cs k) lenI HAP.out hkN (by show Value.slice (ps k) (ns k) (cs k) = _; rw [HP.out]) HLN.out (by omega)
          have hhY : (X.setRow g (putE cur (i * 1) (enI (mkI k i)))).cell? ⟨gl, k, none⟩ = some (.slice (some ⟨g, 0, none⟩) (ns k) (cs k)) := by have := hst.head k hkN; rw [← HP.out]; exact this
          refine ⟨_, rfl, hhX, ?_⟩
          have HST := Hid.mk' hst
          have HHY := Hid.mk' hhY
          clear hst hhY hhX hLX HL
          simp only [Nat.mul_one] at HST HHY
          rw [Nat.mul_one] at hfit
          generalize hm : mkI k i = m at *
          simp only [Act.put, List.setIfInBounds_toArray, List.set_cons_succ, List.set_cons_zero]
          refine wpOrd_yield (v := .pointer (some ⟨g, i, none⟩)) rfl (fun u _ => by go_simp) ?_
          simp only [Act.put, List.setIfInBounds_toArray, List.set_cons_succ, List.set_cons_zero]
          refine wpOrd_stXI rfl _ _ rfl g (i) m cur rfl rfl hrow hfit ⟨HHY.out, ?_⟩
          refine wpOrd_nil ?_
          simp only [Act.put]
          generalize X.setRow g (putE cur (i) (enI m)) = Y at HST ⊢
          clear hhd hrow hm hfit HHY
          go_wp2
          exact ⟨⟨i + 1, by omega, by go_num, HST.out⟩, by simp [intOf]; omega⟩
        · have e : i = (fs k).length := by rw [HLN.out]; omega
          have HL2 : Hid (Lsts enI 3 1 K gl (fun k => .slice (ps k) (ns k) (cs k)) w (fillU mkI fs (k + 1) 0) wr) := by have h := HL.out; rw [e] at h; exact h.next
          clear HL e
          go_wp2
          exact ⟨⟨k + 1, by omega, by go_num, HL2.out⟩, by simp [intOf]; omega⟩
    · have e : K = k := by omega
      have HM : Hid (Lsts enI 3 1 K gl (fun k => .slice (ps k) (ns k) (cs k)) w (fun j => mks (mkI j) (ns j)) wr) := ⟨HL.out.fr, HL.out.head, fun j hj => by
        have h := HL.out.own j hj
        have q : fillU mkI fs k 0 j = mks (mkI j) (ns j) := by unfold fillU; rw [if_pos (by omega), (HNS.out j hj).1]
        rw [q] at h
        exact h⟩
      clear HL e hk
      have HG0 := Hid.mk' (Grn.start (sl := 65) lenI HM.out hK0)
      have HF0 := Hid.mk' HM.out.fr
      clear HM
      go_wp2
      generalize wr = W2 at HG0 HF0 ⊢
      go_loopw [5, 6] (fun s5 s6 wx => ∃ (k : Nat) (gv : Nat → Value), (k : Int) ≤ K ∧ s6 = .int .i64 k ∧ Hid (Grn enI 3 65 1 K gl mkI (fun k => .slice (ps k) (ns k) (cs k)) ns W2 k gv s5 wx)) (fun _ s6 _ => K - (intOf s6).toNat)
      case atStart => exact ⟨0, fun _ => undef, by omega, rfl, HG0.out⟩
      case round =>
        obtain ⟨k2, gv, hk3, rfl, HGr⟩ := hrel
        clear HG0
        by_cases hk4 : (k2 : Int) < K
        · have hkN : k2 < K := by omega
          have hn := (HNS.out k2 hkN).2
          have hhd : wr.cell? ⟨gl, k2, none⟩ = some (.slice (ps k2) (ns k2) (cs k2)) := HGr.out.head k2 hkN
          have HIn0 := Hid.mk' (Inn.start lenI (HGr.out.own k2 (Nat.le_refl _) hkN))
          have hgl3 : gl < wr.heap.size := block_lt_of_cell hhd
          go_wp2
          generalize wr = W3 at HGr hhd HIn0 hgl3 ⊢
          go_loopw [7, 8] (fun s7 s8 wx => ∃ i : Nat, (i : Int) ≤ 6 ∧ s8 = .int .i64 i ∧ Hid (Inn enI 3 1 (mkI k2) (.slice (ps k2) (ns k2) (cs k2)) (ns k2) W3 i s7 wx)) (fun _ s8 _ => 6 - (intOf s8).toNat)
          case atStart => exact ⟨0, by omega, rfl, HIn0.out⟩
          case round =>
            obtain ⟨i, hi, rfl, HS⟩ := hrel
            clear HIn0
            have hhd3 : wr.cell? ⟨gl, k2, none⟩ = some (.slice (ps k2) (ns k2) (cs k2)) := (World.cell?_of_block (a := ⟨gl, k2, none⟩) (HS.out.fr.block gl hgl3 (HAP.out.row k2 hkN))).trans hhd
            by_cases hi2 : (i : Int) < 6
            · have HMk : Hid (∀ u : World, Calls Try.prog 78 #[.int .i64 ((k2 : Int) + 10), .int .i64 ((ns k2 : Int) + i)] u fun e w' => e = .returned (vlI (mkI k2 (ns k2 + i))) ∧ Below u.heap.size u w') := fun u => by
                have := markX_I k2 (ns k2 + i) u (by omega) (by omega)
                rwa [show ((ns k2 + i : Nat) : Int) = (ns k2 : Int) + i by omega] at this
              clear hhd
              go_wp2_with (go_at_call 78; fail)
              refine (HMk.out wr).mono ?_
              rintro e w2 ⟨rfl, hb2⟩
              obtain ⟨v', w3, hr, hin⟩ := (HS.out.later hb2).push lenI oneI Try.underlying65 HI0.out HZ.out.1 HZ.out.2.1 HZ.out.2.2 (by rfl) (by omega) (by omega) (by omega) 65
              have HIN := Hid.mk' hin
              have HRR := Hid.mk' hr
              clear hin hr HMk HS hb2
              generalize mkI k2 (ns k2 + i) = m at *
              unfold vlI
              have HR2 : Hid ((Builtin.append_ #[65, 65] 65 #[u7, .slice (some ⟨w2.heap.size, 0, none⟩) 1 1]).run Try.prog (w2.alloc (.cells #[.int .i64 m] 3)) = .ok v' w3) := HRR.out
              clear HRR
              go_wp2_with (first | refine wpList_exec rfl (exec_push rfl rfl rfl HR2.out) ?_)
              exact ⟨⟨i + 1, by omega, by go_num, HIN.out⟩, by simp [intOf]; omega⟩
            · have hi6 : i = 6 := by omega
              subst hi6
              obtain ⟨g7, c7, hu7⟩ : ∃ g7 c7, u7 = .slice (some ⟨g7, 0, none⟩) (ns k2 + 6) c7 := by
                rcases own_form HS.out.own with ⟨_, q⟩ | ⟨g, c, q, _⟩
                · omega
                · exact ⟨g, c, q⟩
              subst hu7
              obtain ⟨v', w3, hr, hG2⟩ := HGr.out.next (ss := 35) Try.underlying35 HI1.out HY.out.1 HY.out.2.1 HY.out.2.2 (by decide) HAP.out hkN (by omega) HS.out rfl 35
              have HG2 := Hid.mk' hG2
              have HRR := Hid.mk' hr
              clear hG2 hr HS hhd hhd3 HGr
              go_wp2_with (first | refine wpList_exec rfl (exec_push rfl rfl rfl HRR.out) ?_)
              exact ⟨⟨k2 + 1, _, by omega, by go_num, HG2.out⟩, by simp [intOf]; omega⟩
        · have e : k2 = K := by omega
          subst e
          have HC : Hid (∀ j, j < k2 → ∃ h c, gv j = .slice (some ⟨h, 0, none⟩) (ns j + 6) c ∧ h < wr.heap.size ∧ ∀ i, i < ns j + 6 → ∀ q v, (enI (mkI j i))[q]? = some v → wr.cell? ⟨h, i * 1 + q, none⟩ = some v) := fun j hj => by
            obtain ⟨hj', _⟩ := HGr.out.each j hj
            obtain ⟨h, c, hv2, hlt, hcc⟩ := KeepC.of lenI hj' (by omega)
            exact ⟨h, c, hv2, hlt, hcc⟩
          obtain ⟨G, cG, hu5, HD5⟩ : ∃ G cG, u5 = .slice (some ⟨G, 0, none⟩) k2 cG ∧ Hid (∀ j, j < k2 → wr.cell? ⟨G, j, none⟩ = some (gv j)) := by
            have hr := HGr.out.row
            obtain ⟨_, h2⟩ := hr
            rcases h2 with ⟨_, h0⟩ | ⟨G, cG, cur, hv, _⟩
            · omega
            · refine ⟨G, cG, hv, fun j hj => ?_⟩
              have hr := HGr.out.row
              rw [hv] at hr
              rw [World.ownsRow.cellAt hr j (by omega)]
              simp [hj]
          subst hu5
          have HE : Hid (∀ j, j < k2 → wr.cell? ⟨gl, j, none⟩ = some (.slice (ps j) (ns j) (cs j)) ∧ (0 < ns j → ∃ h, ps j = some ⟨h, 0, none⟩ ∧ h < wr.heap.size ∧ ∀ i, i < ns j → ∀ q v, (enI (mkI j i))[q]? = some v → wr.cell? ⟨h, i * 1 + q, none⟩ = some v)) := fun j hj => by
            refine ⟨HGr.out.head j hj, fun h0 => ?_⟩
            obtain ⟨h, c, hv, hlt, hcc⟩ := HGr.out.keep j hj h0
            injection hv with hv1 hv2 hv3
            exact ⟨h, hv1, hlt, hcc⟩
          have HF : Hid (Fr (TV k2 (fun k => .slice (ps k) (ns k) (cs k))) w wr) := HF0.out.trans HGr.out.fr (fun _ _ q => q)
          clear HGr HF0
          go_wp2
          generalize wr = W4 at HC HD5 HE HF ⊢
          go_loopw [9] (fun s9 wx => ∃ k : Nat, (k : Int) ≤ k2 ∧ s9 = .int .i64 k ∧ Hid (Below W4.heap.size W4 wx)) (fun s9 _ => k2 - (intOf s9).toNat)
          case atStart => exact ⟨0, by omega, rfl, Below.refl _ _⟩
          case round =>
            obtain ⟨k5, hk5, rfl, HB5⟩ := hrel
            by_cases hk6 : (k5 : Int) < k2
            · have hkN : k5 < k2 := by omega
              obtain ⟨_, hn⟩ := HNS.out k5 hkN
              obtain ⟨h, c, hgv, hhlt, hc⟩ := HC.out k5 hkN
              have hc5 := HD5.out k5 hkN
              rw [hgv] at hc5
              obtain ⟨hc6, hc7⟩ := HE.out k5 hkN
              have hwr : IntKind.i64.wrap ((k5 : Int) + 10) = (k5 : Int) + 10 := by rw [IntKind.wrap_i64]; omega
              have HCc := Hid.mk' hc
              have HC7 := Hid.mk' hc7
              have hGl := block_lt_of_cell hc5
              have hgl6 := block_lt_of_cell hc6
              clear hc hc7
              go_wp2
              go_loopw [10] (fun s10 wx => ∃ i : Nat, (i : Int) ≤ ns k5 + 6 ∧ s10 = .int .i64 i ∧ Hid (Below W4.heap.size W4 wx)) (fun s10 _ => ns k5 + 6 - (intOf s10).toNat)
              case atStart => exact ⟨0, by omega, rfl, HB5.out⟩
              case round =>
                obtain ⟨i, hi, rfl, HB⟩ := hrel
                have hc5' : wr.cell? ⟨G, k5, none⟩ = _ := (HB.out.cell (p := ⟨G, k5, none⟩) hGl).trans hc5
                by_cases hi2 : (i : Int) < ns k5 + 6
                · have hmk := fun u => markX_I k5 i u (by omega) (by omega)
                  have heq := eqXI (mkI k5 i)
                  have q5 : ∀ x : Later wr, x.val.cell? ⟨G, k5, none⟩ = some (.slice (some ⟨h, 0, none⟩) (ns k5 + 6) c) := fun x => (x.cell ⟨G, k5, none⟩ (Nat.lt_of_lt_of_le hGl HB.out.size)).trans hc5'
                  have l1 : h < wr.heap.size := Nat.lt_of_lt_of_le hhlt HB.out.size
                  have HL1 : Hid (∀ q v, (enI (mkI k5 i))[q]? = some v → wr.cell? ⟨h, i + q, none⟩ = some v) := fun q v hv => (HB.out.cell (p := ⟨h, i + q, none⟩) hhlt).trans (by have := HCc.out i (by omega) q v hv; rwa [Nat.mul_one] at this)
                  have hne := later_some wr
                  by_cases hi3 : (i : Int) < ns k5
                  · obtain ⟨h6, hp6, hglt6, hcc6⟩ := HC7.out (by omega)
                    have l2 : h6 < wr.heap.size := Nat.lt_of_lt_of_le hglt6 HB.out.size
                    have hc6' := hc6
                    rw [hp6] at hc6'
                    have q6 : ∀ x : Later wr, x.val.cell? ⟨gl, k5, none⟩ = some (.slice (some ⟨h6, 0, none⟩) (ns k5) (cs k5)) := fun x => (x.cell ⟨gl, k5, none⟩ (Nat.lt_of_lt_of_le hgl6 HB.out.size)).trans ((HB.out.cell (p := ⟨gl, k5, none⟩) hgl6).trans hc6')
                    have HL2 : Hid (∀ q v, (enI (mkI k5 i))[q]? = some v → wr.cell? ⟨h6, i + q, none⟩ = some v) := fun q v hv => (HB.out.cell (p := ⟨h6, i + q, none⟩) hglt6).trans (by have := hcc6 i (by omega) q v hv; rwa [Nat.mul_one] at this)
                    clear hp6 hcc6 hc6' hc6
                    generalize mkI k5 i = m at *
                    have HQ1 : Hid (∀ {o : Oper} {a : Act} {K : Act → Prop} (x : Operand), o.op = .load 3 x → a.eval x = .pointer (some ⟨h, i, none⟩) → K (a.put o.dst (vlI m)) → o.quiet Try.prog a (fun w' => ∃ x : Later wr, w' = x.val) K) := fun x ho hx hk => quiet_ldXI x ho h (i) hx m l1 HL1.out hk
                    have HQ2 : Hid (∀ {o : Oper} {a : Act} {K : Act → Prop} (x : Operand), o.op = .load 3 x → a.eval x = .pointer (some ⟨h6, i, none⟩) → K (a.put o.dst (vlI m)) → o.quiet Try.prog a (fun w' => ∃ x : Later wr, w' = x.val) K) := fun x ho hx hk => quiet_ldXI x ho h6 (i) hx m l2 HL2.out hk
                    clear HL1 HL2
                    unfold vlI at *
                    go_wp2
                    refine wp_region_later (by kernel_rfl) (by kernel_rfl) wr (Below.refl _ _) ?_
                    repeat (first
                      | (go_big_quiet_want; refine HQ1.out _ rfl rfl ?_; simp only [Act.put, List.setIfInBounds_toArray, List.set_cons_succ, List.set_cons_zero]; go_big_quiet_on)
                      | (go_big_quiet_want; refine HQ2.out _ rfl rfl ?_; simp only [Act.put, List.setIfInBounds_toArray, List.set_cons_succ, List.set_cons_zero]; go_big_quiet_on)
                      | go_big_quiet_step (first | (go_at_call 78; exact Later.call _ (hmk _))))
                    refine wpQuiet_nil ?_
                    rintro _ ⟨x, rfl⟩
                    go_wp2
                    exact ⟨⟨i + 1, by omega, by go_num, HB.out.trans (x.below.mono HB.out.size)⟩, by simp [intOf]; omega⟩
                  · have hi4 : decide ((i : Int) < (ns k5 : Int)) = false := by simpa using hi3
                    have hi5 : decide (i < ns k5) = false := by simp; omega
                    have q6 : ∀ x : Later wr, x.val.cell? ⟨gl, k5, none⟩ = some (.slice (ps k5) (ns k5) (cs k5)) := fun x => (x.cell ⟨gl, k5, none⟩ (Nat.lt_of_lt_of_le hgl6 HB.out.size)).trans ((HB.out.cell (p := ⟨gl, k5, none⟩) hgl6).trans hc6)
                    clear hc6
                    generalize mkI k5 i = m at *
                    have HQ1 : Hid (∀ {o : Oper} {a : Act} {K : Act → Prop} (x : Operand), o.op = .load 3 x → a.eval x = .pointer (some ⟨h, i, none⟩) → K (a.put o.dst (vlI m)) → o.quiet Try.prog a (fun w' => ∃ x : Later wr, w' = x.val) K) := fun x ho hx hk => quiet_ldXI x ho h (i) hx m l1 HL1.out hk
                    clear HL1
                    unfold vlI at *
                    go_wp2
                    refine wp_region_later (by kernel_rfl) (by kernel_rfl) wr (Below.refl _ _) ?_
                    repeat (first
                      | (go_big_quiet_want; refine HQ1.out _ rfl rfl ?_; simp only [Act.put, List.setIfInBounds_toArray, List.set_cons_succ, List.set_cons_zero]; go_big_quiet_on)
                      | go_big_quiet_step (first | (go_at_call 78; exact Later.call _ (hmk _))))
                    refine wpQuiet_nil ?_
                    rintro _ ⟨x, rfl⟩
                    go_wp2
                    exact ⟨⟨i + 1, by omega, by go_num, HB.out.trans (x.below.mono HB.out.size)⟩, by simp [intOf]; omega⟩
                · go_wp2
                  exact ⟨⟨k5 + 1, by omega, by go_num, HB.out⟩, by simp [intOf]; omega⟩
            · go_wp2
              go_ret
              exact ⟨rfl, HF.out.trans (Fr.mono (T := fun _ => False) (Fr.ofBelow HB5.out) (fun _ _ q => q.elim)) (fun _ _ (q : False) => q.elim)⟩
set_option maxRecDepth 20000 in
theorem apartI_none (c : Nat) (p : Option Addr) (w : World) : Calls Try.prog 58 #[.slice p 0 c] w fun e w' => e = .returned (.bool true) ∧ w' = w := by
  go_enter Try.func58, Try.ntmps58
  go_wp2
  go_loopw [3] (fun s3 wx => s3 = .int .i64 0 ∧ w = wx) (fun _ _ => 0)
  case atStart => exact ⟨rfl, rfl⟩
  case round =>
    obtain ⟨rfl, rfl⟩ := hrel
    go_wp2
    go_loopw [5, 6] (fun s5 s6 wx => s5 = .slice none 0 0 ∧ s6 = .int .i64 0 ∧ w = wx) (fun _ _ _ => 0)
    case atStart => exact ⟨rfl, rfl, rfl⟩
    case round =>
      obtain ⟨rfl, rfl, rfl⟩ := hrel
      go_wp2
      go_loopw [9] (fun s9 wx => s9 = .int .i64 0 ∧ w = wx) (fun _ _ => 0)
      case atStart => exact ⟨rfl, rfl⟩
      case round =>
        obtain ⟨rfl, rfl⟩ := hrel
        go_wp2
        go_ret
        exact ⟨rfl, rfl⟩
end Go.Proofs.Ytembocfghkmieaa
/- The program's disk and the document's, beside parts that lie apart: each call of either in one form; no condition but that numbers do not pass their greatest. -/
namespace Go.Proofs.Ytembocfghkmieaa
open Go.RowKit Go.Maps

def dkP (L : Loc) (s : St) : Part := ⟨L.has, fun W => DiskAt W L s⟩
theorem dkP_good (L : Loc) (s : St) : (dkP L s).Good := fun _ _ h _ hb => DiskAt.kept h hb
structure RLoc where
  B : Nat
  g : Nat
  hv : Value
  wv : Value
  ov : Value
def rdP (R : RLoc) (t : RSt) : Part := ⟨RHas R.g R.hv R.wv R.ov, fun W => RDAt W R.B R.g R.hv R.wv R.ov t⟩
theorem RDAt.keptR {w w' : World} {B g : Nat} {hv wv ov : Value} {s : RSt} (h : RDAt w B g hv wv ov s) (hb : ∀ k, RHas g hv wv ov k → w'.heap[k]? = w.heap[k]?) : RDAt w' B g hv wv ov s :=
  ⟨(hb _ (.inl rfl)).trans h.row, ownsRow_kept0 h.held fun k hk => hb k (.inr (.inl hk)), ownsRow_kept0 h.wait fun k hk => hb k (.inr (.inr (.inl hk))), ownsRow_kept0 h.ops fun k hk => hb k (.inr (.inr (.inr hk))), h.two, h.base⟩
theorem rdP_good (R : RLoc) (t : RSt) : (rdP R t).Good := fun _ _ h _ hb => RDAt.keptR h hb
theorem RDAt.ltR {w : World} {B g : Nat} {hv wv ov : Value} {s : RSt} (h : RDAt w B g hv wv ov s) {k : Nat} (hk : RHas g hv wv ov k) : k < w.heap.size := by
  rcases hk with rfl | hk | hk | hk
  · exact h.lt
  · exact (h.held.lt k hk).2
  · exact (h.wait.lt k hk).2
  · exact (h.ops.lt k hk).2
/-- Parts stay where blocks of none of them turn. -/
theorem Sep.kept {w W W' : World} {l : List Part} (h : Sep w W l) {T : Nat → Prop} (hF : Fr T W W') (hT : ∀ p ∈ l, ∀ k, p.own k → ¬ T k) (hN : ∀ k, k < W.heap.size → T k → w.heap.size ≤ k) : Sep w W' l :=
  ⟨h.good, fun q hq => h.good q hq W W' (h.say q hq) (fun k hk => (h.lt q hq k hk).2) fun k hk => hF.block k (h.lt q hq k hk).2 (hT q hq k hk), fun q hq k hk => ⟨(h.lt q hq k hk).1, Nat.lt_of_lt_of_le (h.lt q hq k hk).2 hF.size⟩, h.apart, h.below.trans (hF.below' (fun k hk hlt => hN k hlt hk) h.below.size)⟩
/-- What lies beside a disk. -/
structure Beside (w : World) (l : List Part) (W : World) (L : Loc) : Prop where
  sep : Sep w W l
  new : L.from w.heap.size
  apart : ∀ p ∈ l, ∀ k, L.has k → ¬ p.own k
theorem beside_stays (w : World) (l : List Part) : Stays (Beside w l) := fun W W' L L' _ h hG => by
  refine ⟨h.sep.kept hG.fr (fun p hp k hk q => h.apart p hp k q hk) (fun k _ q => h.new k q), fun k hk => ?_, fun p hp k hk hk2 => ?_⟩
  · rcases hG.own k hk with q | q
    · exact h.new k q
    · have := h.sep.below.size; omega
  · rcases hG.own k hk with q | q
    · exact h.apart p hp k q hk2
    · have := (h.sep.lt p hp k hk2).2; omega
variable {w W : World} {d g : Nat} {s : St} {t : RSt} {l : List Part}
theorem Sep.toHas {L : Loc} (h : Sep w W (dkP L s :: l)) : Has (Beside w l) W L.d s :=
  ⟨L, rfl, h.head, h.drop, fun _ hk => (h.headLt (p := dkP L s) hk).1, fun p hp k hk => (List.pairwise_cons.1 h.apart).1 p hp k hk⟩
theorem Has.toSep (h : Has (Beside w l) W d s) : ∃ L : Loc, L.d = d ∧ Sep w W (dkP L s :: l) := by
  obtain ⟨L, hd, hD, h⟩ := h
  refine ⟨L, hd, fun p hp => ?_, fun p hp => ?_, fun p hp k hk => ?_, List.pairwise_cons.2 ⟨h.apart, h.sep.apart⟩, h.sep.below⟩
  · rcases List.mem_cons.1 hp with rfl | hp
    · exact dkP_good L s
    · exact h.sep.good p hp
  · rcases List.mem_cons.1 hp with rfl | hp
    · exact hD
    · exact h.sep.say p hp
  · rcases List.mem_cons.1 hp with rfl | hp
    · exact ⟨h.new k hk, hD.lt k hk⟩
    · exact h.sep.lt p hp k hk
/-- Both disks, and parts beside them. -/
structure Both (w W : World) (d g : Nat) (s : St) (t : RSt) (l : List Part) : Prop where
  out : ∃ (L : Loc) (R : RLoc), L.d = d ∧ R.g = g ∧ Sep w W (dkP L s :: rdP R t :: l)
theorem Both.has (h : Both w W d g s t l) : ∃ R : RLoc, R.g = g ∧ Has (Beside w (rdP R t :: l)) W d s := by
  obtain ⟨L, R, rfl, hg, h⟩ := h.out
  exact ⟨R, hg, h.toHas⟩
theorem Both.of {R : RLoc} (hg : R.g = g) (h : Has (Beside w (rdP R t :: l)) W d s) : Both w W d g s t l := by
  obtain ⟨L, hd, h⟩ := h.toSep
  exact ⟨L, R, hd, hg, h⟩
theorem Both.ok (h : Both w W d g s t l) : Ok s := by
  obtain ⟨R, _, h⟩ := h.has
  exact h.ok
theorem Both.below (h : Both w W d g s t l) : Below w.heap.size w W := by
  obtain ⟨L, R, _, _, h⟩ := h.out
  exact h.below
theorem Both.later {W' : World} (h : Both w W d g s t l) (hb : Below W.heap.size W W') : Both w W' d g s t l := by
  obtain ⟨L, R, hd, hg, h⟩ := h.out
  exact ⟨L, R, hd, hg, h.later hb⟩
theorem Both.drew (h : Both w W d g s t l) : Both w W.drew d g s t l := h.later ⟨rfl, rfl, rfl, Nat.le_refl _, fun _ _ => rfl⟩
/-- The document's disk, and how it may turn. -/
theorem Both.rd (h : Both w W d g s t l) : ∃ R : RLoc, RDAt W R.B g R.hv R.wv R.ov t ∧ ∀ (W' : World) (hv' wv' ov' : Value) (t' : RSt), RDAt W' R.B g hv' wv' ov' t' → RTo g R.hv R.wv R.ov hv' wv' ov' W W' → Both w W' d g s t' l := by
  obtain ⟨L, R, hd, rfl, hq⟩ := h.out
  have h2 := hq.swap
  refine ⟨R, h2.head, fun W' hv' wv' ov' t' hD hT => ?_⟩
  have h3 := h2.turn (p' := rdP ⟨R.B, R.g, hv', wv', ov'⟩ t') hT.fr (fun _ _ q => q) (rdP_good _ _) hD fun k hk => ⟨hT.loc k hk, hD.ltR hk⟩
  exact ⟨L, ⟨R.B, R.g, hv', wv', ov'⟩, hd, rfl, h3.swap⟩
/-- How many things there may have been so far. -/
structure Cap (s : St) (m : Nat) : Prop where
  ops : s.ops.length ≤ m
  made : s.made ≤ m
  reads : s.reads ≤ m
  claims : s.claims ≤ m
theorem Cap.room {m : Nat} (h : Cap s m) (hm : m ≤ 7000000) : Room s := ⟨by have := h.ops; omega, by have := h.made; omega, by have := h.reads; omega, by have := h.claims; omega⟩
theorem Cap.wait {m : Nat} (h : Cap s m) : s.wait.length ≤ m := by
  have := h.ops
  unfold St.ops at this
  rw [List.length_append, List.length_map] at this
  omega
theorem Cap.mono {m m' : Nat} (h : Cap s m) (hm : m ≤ m') : Cap s m' := ⟨by have := h.ops; omega, by have := h.made; omega, by have := h.reads; omega, by have := h.claims; omega⟩
/-- The document's disk has room, too. -/
structure RRoom (t : RSt) : Prop where
  seen : 0 ≤ t.seen ∧ t.seen < 9223372036854775807
  count : 0 ≤ t.count ∧ t.count < 9223372036854775807
  claims : 0 ≤ t.claims ∧ t.claims < 9223372036854775807
  left : t.fused = true → 0 ≤ t.left ∧ t.left ≤ 9223372036854775807
  wait : t.wait.length ≤ 7000000
  ops : t.ops.length ≤ 7000000
  held : t.held.length ≤ 1048576
theorem Sim.room {m : Nat} (h : Sim t s) (hk : Ok s) (hc : Cap s m) (hm : m ≤ 7000000) : RRoom t := by
  have h1 := hk.made
  have h2 := hk.reads
  have h3 := hk.claims
  have h4 := hc.made
  have h5 := hc.reads
  have h6 := hc.claims
  have h7 := hc.ops
  have h8 := hc.wait
  refine ⟨by rw [h.seen]; omega, by rw [h.count]; omega, by rw [h.claims]; omega, h.left, by rw [h.wait]; omega, by rw [h.ops]; omega, ?_⟩
  have h9 := rise_len t.held (-1) h.rise h.top (by have := hk.n.1; omega)
  have := hk.n.2
  omega
def rReadB (t : RSt) (k : Int) : Nat → Int := if rRefV t k = 0 then rCur t k else nought
def rReadV (t : RSt) (k : Int) : RSt := if rRefV t k = 0 then { t with seen := t.seen + 1 } else t
def rWriteV (t : RSt) (k : Int) (f : Nat → Int) : RSt := if rRefV t k = 0 then (if rLetsB t then rWriteS t k f else rLets t) else t
def rWriteE (t : RSt) (k : Int) : Int := if rRefV t k = 0 then (if rLetsB t then 0 else 3) else rRefV t k
def rBarV (t : RSt) : RSt := if t.dead then t else (if rLetsB t then rBarS t else rLets t)
def rBarE (t : RSt) : Int := if t.dead then 3 else (if rLetsB t then 0 else 3)
section
theorem both_read (h : Both w W d g s t l) (hr : Room s) (k : Int) : Calls Try.prog 20 #[.pointer (some ⟨d, 0, none⟩), .int .i64 k] W fun e W' => e = .returned (.tuple #[.agg (blk (readB s k)), .int .i64 (refV s k)]) ∧ Both w W' d g (readV s k) t l := by
  obtain ⟨R, hg, h⟩ := h.has
  exact (has_read (beside_stays w _) h hr k).mono fun e W' ⟨h1, h2⟩ => ⟨h1, Both.of hg h2⟩
theorem both_write (h : Both w W d g s t l) (hr : Room s) (k : Int) {f : Nat → Int} (hf : Can f) : Calls Try.prog 33 #[.pointer (some ⟨d, 0, none⟩), .int .i64 k, .agg (blk f)] W fun e W' => e = .returned (.int .i64 (writeE s k)) ∧ Both w W' d g (writeV s k f) t l := by
  obtain ⟨R, hg, h⟩ := h.has
  exact (has_write (beside_stays w _) h hr k hf).mono fun e W' ⟨h1, h2⟩ => ⟨h1, Both.of hg h2⟩
theorem both_barrier (h : Both w W d g s t l) (hr : Room s) : Calls Try.prog 32 #[.pointer (some ⟨d, 0, none⟩)] W fun e W' => e = .returned (.int .i64 (barE s)) ∧ Both w W' d g (barV s) t l := by
  obtain ⟨R, hg, h⟩ := h.has
  exact (has_barrier (beside_stays w _) h hr).mono fun e W' ⟨h1, h2⟩ => ⟨h1, Both.of hg h2⟩
theorem both_fuse (h : Both w W d g s t l) (n : Int) (hn : n ≤ 9223372036854775807) : Calls Try.prog 31 #[.pointer (some ⟨d, 0, none⟩), .int .i64 n] W fun e W' => e = .returned (.tuple #[]) ∧ Both w W' d g (fuseV s n) t l := by
  obtain ⟨R, hg, h⟩ := h.has
  exact (has_fuse (beside_stays w _) h n hn).mono fun e W' ⟨h1, h2⟩ => ⟨h1, Both.of hg h2⟩
theorem both_crash (h : Both w W d g s t l) {kv : Value} {kl : List Bool} (hkv : BoolsAt W kv kl) (hwl : s.wait.length < 68719476736) (hkl : kl.length ≤ 9223372036854775807) : Calls Try.prog 35 #[.pointer (some ⟨d, 0, none⟩), kv] W fun e W' => e = .returned (.int .i64 0) ∧ Both w W' d g (crashS s kl) t l := by
  obtain ⟨R, hg, h⟩ := h.has
  exact (has_crash_le (beside_stays w _) h hkv hwl hkl).mono fun e W' ⟨h1, h2⟩ => ⟨h1, Both.of hg h2⟩
theorem both_claim (h : Both w W d g s t l) (hr : Room s) : Calls Try.prog 36 #[.pointer (some ⟨d, 0, none⟩)] W fun e W' => e = .returned (.int .i64 (claimN s)) ∧ Both w W' d g (claimV s) t l := by
  obtain ⟨R, hg, L, rfl, hD, hp⟩ := h.has
  exact (claim_of hD hr).mono fun e W' ⟨h1, h2, h3⟩ => ⟨h1, Both.of hg (Has.goes (beside_stays w _) rfl hD hp h2 h3)⟩
theorem both_claimed (h : Both w W d g s t l) (n : Int) : Calls Try.prog 37 #[.pointer (some ⟨d, 0, none⟩), .int .i64 n] W fun e W' => e = .returned (.bool (claimedV s n)) ∧ W' = W := by
  obtain ⟨R, hg, L, rfl, hD, hp⟩ := h.has
  exact claimed_of hD n
theorem both_made (h : Both w W d g s t l) : Calls Try.prog 23 #[.pointer (some ⟨d, 0, none⟩)] W fun e W' => e = .returned (.int .i64 s.made) ∧ W' = W := by
  obtain ⟨R, hg, L, rfl, hD, hp⟩ := h.has
  exact made_of hD
theorem both_reads (h : Both w W d g s t l) : Calls Try.prog 24 #[.pointer (some ⟨d, 0, none⟩)] W fun e W' => e = .returned (.int .i64 s.reads) ∧ W' = W := by
  obtain ⟨R, hg, L, rfl, hD, hp⟩ := h.has
  exact reads_of hD
theorem both_len (h : Both w W d g s t l) : Calls Try.prog 18 #[.pointer (some ⟨d, 0, none⟩)] W fun e W' => e = .returned (.int .i64 s.n) ∧ W' = W := by
  obtain ⟨R, hg, L, rfl, hD, hp⟩ := h.has
  exact len_of hD
theorem both_stopped (h : Both w W d g s t l) : Calls Try.prog 34 #[.pointer (some ⟨d, 0, none⟩)] W fun e W' => e = .returned (.bool s.stopped) ∧ W' = W := by
  obtain ⟨R, hg, L, rfl, hD, hp⟩ := h.has
  exact stopped_of hD
theorem both_rread (h : Both w W d g s t l) (hr : RRoom t) (k : Int) : Calls Try.prog 42 #[.pointer (some ⟨g, 0, none⟩), .int .i64 k] W fun e W' => e = .returned (.tuple #[.agg (blk (rReadB t k)), .int .i64 (rRefV t k)]) ∧ Both w W' d g s (rReadV t k) l := by
  obtain ⟨R, hD, hT⟩ := h.rd
  unfold rReadB rReadV
  by_cases hb : rRefV t k = 0
  · rw [if_pos hb, if_pos hb, hb]
    exact (rRead_ok hD hb hr.seen (by have := hr.wait; omega) (by have := hr.held; omega)).mono fun e W' ⟨h1, h2, h3⟩ => ⟨h1, hT _ _ _ _ _ h2 (RTo.ofFr h3)⟩
  · rw [if_neg hb, if_neg hb]
    exact (rRead_bad hD hb).mono fun e W' ⟨h1, h2, h3⟩ => ⟨h1, hT _ _ _ _ _ h2 (RTo.ofFr h3)⟩
theorem both_rwrite (h : Both w W d g s t l) (hr : RRoom t) (k : Int) (f : Nat → Int) : Calls Try.prog 43 #[.pointer (some ⟨g, 0, none⟩), .int .i64 k, .agg (blk f)] W fun e W' => e = .returned (.int .i64 (rWriteE t k)) ∧ Both w W' d g s (rWriteV t k f) l := by
  obtain ⟨R, hD, hT⟩ := h.rd
  unfold rWriteE rWriteV
  by_cases hb : rRefV t k = 0
  · rw [if_pos hb, if_pos hb]
    cases hL : rLetsB t
    · exact (rWrite_dead hD hb hL hr.left hr.count f).mono fun e W' ⟨h1, h2, h3⟩ => ⟨h1, hT _ _ _ _ _ h2 (RTo.ofFr h3)⟩
    · exact (rWrite_ok hD hb hL hr.left hr.count (by have := hr.wait; omega) (by have := hr.ops; omega) f).mono fun e W' ⟨h1, _, _, h2, h3⟩ => ⟨h1, hT _ _ _ _ _ h2 h3⟩
  · rw [if_neg hb, if_neg hb]
    exact (rWrite_bad hD hb f).mono fun e W' ⟨h1, h2, h3⟩ => ⟨h1, hT _ _ _ _ _ h2 (RTo.ofFr (Fr.ofBelow h3))⟩
theorem both_rbarrier (h : Both w W d g s t l) (hr : RRoom t) : Calls Try.prog 44 #[.pointer (some ⟨g, 0, none⟩)] W fun e W' => e = .returned (.int .i64 (rBarE t)) ∧ Both w W' d g s (rBarV t) l := by
  obtain ⟨R, hD, hT⟩ := h.rd
  unfold rBarE rBarV
  cases hd : t.dead
  · cases hL : rLetsB t
    · exact (rBarrier_dead hD hd hL hr.left hr.count).mono fun e W' ⟨h1, h2, h3⟩ => ⟨h1, hT _ _ _ _ _ h2 (RTo.ofFr h3)⟩
    · refine (rBarrier_ok hD hd hL hr.left hr.count (by have := hr.wait; have := hr.held; omega) (by have := hr.ops; omega)).mono fun e W' ⟨h1, hv', ov', h2, h3, h4, h5⟩ => ⟨h1, hT _ _ _ _ _ h2 ⟨h3.mono fun i _ q => ?_, fun b q => ?_⟩⟩
      · rcases q with q | q
        · exact .inl q
        · exact .inr (.inr (.inr q))
      · rcases q with q | q | q | q
        · exact .inl (.inl q)
        · exact (h4 b q).elim (fun r => .inl (.inr (.inl r))) .inr
        · cases q
        · exact (h5 b q).elim (fun r => .inl (.inr (.inr (.inr r)))) .inr
  · exact (rBarrier_stopped hD hd).mono fun e W' ⟨h1, h2⟩ => ⟨h1, by rw [h2]; exact h⟩
theorem both_rcrash (h : Both w W d g s t l) (hr : RRoom t) {pk : Option Addr} {ck : Nat} {kl : List Bool} (hk : 0 < kl.length → ∃ b off, pk = some ⟨b, off, none⟩ ∧ b < w.heap.size ∧ ∀ i x, kl[i]? = some x → W.cell? ⟨b, off + i, none⟩ = some (.bool x)) (hkl : kl.length < 9223372036854775807) :
    Calls Try.prog 77 #[.pointer (some ⟨g, 0, none⟩), .slice pk kl.length ck] W fun e W' => e = .returned (.int .i64 0) ∧ Both w W' d g s (rCrashS t kl) l := by
  have hW := h.below.size
  have hgw : w.heap.size ≤ g := by
    obtain ⟨L, R, hd, rfl, hq⟩ := h.out
    exact (hq.swap.headLt (p := rdP R t) (.inl rfl)).1
  obtain ⟨R, hD, hT⟩ := h.rd
  refine (rCrash_ok hD (fun h0 => ?_) (by have := hr.wait; have := hr.held; omega) hkl).mono fun e W' ⟨h1, hv', h2, h3, h4⟩ => ⟨h1, hT _ _ _ _ _ h2 ⟨h3.mono fun i _ q => .inl q, fun b q => ?_⟩⟩
  · obtain ⟨b, off, k1, k2, k3⟩ := hk h0
    exact ⟨b, off, k1, by omega, by omega, k3⟩
  · rcases q with q | q | q | q
    · exact .inl (.inl q)
    · exact (h4 b q).elim (fun r => .inl (.inr (.inl r))) .inr
    · cases q
    · cases q
theorem both_rfuse (h : Both w W d g s t l) (n : Int) : Calls Try.prog 45 #[.pointer (some ⟨g, 0, none⟩), .int .i64 n] W fun e W' => e = .returned (.tuple #[]) ∧ Both w W' d g s (rFuse t n) l := by
  obtain ⟨R, hD, hT⟩ := h.rd
  exact (rFuse_any hD n).mono fun e W' ⟨h1, h2, h3⟩ => ⟨h1, hT _ _ _ _ _ h2 (RTo.ofFr h3)⟩
theorem both_rclaim (h : Both w W d g s t l) (hr : RRoom t) : Calls Try.prog 47 #[.pointer (some ⟨g, 0, none⟩)] W fun e W' => e = .returned (.int .i64 (rClaimN t)) ∧ Both w W' d g s (rClaim t) l := by
  obtain ⟨R, hD, hT⟩ := h.rd
  exact (rClaim_any hD hr.claims).mono fun e W' ⟨h1, h2, h3⟩ => ⟨h1, hT _ _ _ _ _ h2 (RTo.ofFr h3)⟩
theorem both_rclaimed (h : Both w W d g s t l) (n : Int) : Calls Try.prog 48 #[.pointer (some ⟨g, 0, none⟩), .int .i64 n] W fun e W' => e = .returned (.bool (rClaimed t n)) ∧ W' = W := by
  obtain ⟨R, hD, hT⟩ := h.rd
  exact rClaimed_any hD n
theorem both_rmade (h : Both w W d g s t l) : Calls Try.prog 52 #[.pointer (some ⟨g, 0, none⟩)] W fun e W' => e = .returned (.int .i64 t.count) ∧ W' = W := by
  obtain ⟨R, hD, hT⟩ := h.rd
  exact rMade_any hD
theorem both_rreads (h : Both w W d g s t l) : Calls Try.prog 53 #[.pointer (some ⟨g, 0, none⟩)] W fun e W' => e = .returned (.int .i64 t.seen) ∧ W' = W := by
  obtain ⟨R, hD, hT⟩ := h.rd
  exact rReads_any hD
theorem both_rlen (h : Both w W d g s t l) : Calls Try.prog 54 #[.pointer (some ⟨g, 0, none⟩)] W fun e W' => e = .returned (.int .i64 t.n) ∧ W' = W := by
  obtain ⟨R, hD, hT⟩ := h.rd
  exact rLen_any hD
theorem both_rstopped (h : Both w W d g s t l) : Calls Try.prog 55 #[.pointer (some ⟨g, 0, none⟩)] W fun e W' => e = .returned (.bool t.dead) ∧ W' = W := by
  obtain ⟨R, hD, hT⟩ := h.rd
  exact rStopped_any hD
end
/-- A row that is just a list. -/
theorem own_row {α : Type} {en : α → List Value} {sz : Nat} (hr : ∀ x, (en x).length = sz) {B e b : Nat} {x : List α} {W : World} (hx : x.length ≤ maxLen) (hB : B ≤ b) (h : W.heap[b]? = some (.cells (x.flatMap en).toArray e)) : W.ownsRow B e sz (.slice (some ⟨b, 0, none⟩) x.length x.length) x.length (x.flatMap en) :=
  ⟨fml hr x, .inr ⟨b, x.length, _, rfl, hB, h, Nat.le_refl _, hx, by rw [List.size_toArray, fml hr x], by rw [List.toList_toArray, List.take_of_length_le (by rw [fml hr x]; exact Nat.le_refl _)]⟩⟩
theorem pos_ints (l : List Cel) : iRow (posF l) l.length = ((l.map (·.1)).flatMap enI).toArray := by
  unfold iRow
  congr 1
  apply List.ext_getElem?
  intro i
  have e : (l.map (·.1)).flatMap enI = l.map fun c => Value.int .i64 c.1 := by
    induction l with
    | nil => rfl
    | cons c t ih => simp only [List.map_cons, List.flatMap_cons, ih]; rfl
  rw [e]
  by_cases hi : i < l.length
  · simp [hi, posF]
  · simp [hi]
/-- The program's lists, told. -/
theorem both_pending (h : Both w W d g s t l) (hl : s.wait.length ≤ 7000000) : Calls Try.prog 25 #[.pointer (some ⟨d, 0, none⟩)] W fun e W' => ∃ b c, e = .returned (.slice (some ⟨b, 0, none⟩) (s.wait.map (·.1)).length c) ∧ W'.ownsRow W.heap.size 3 1 (.slice (some ⟨b, 0, none⟩) (s.wait.map (·.1)).length c) (s.wait.map (·.1)).length ((s.wait.map (·.1)).flatMap enI) ∧ Below W.heap.size W W' := by
  obtain ⟨R, hg, L, rfl, hD, hp⟩ := h.has
  refine (pend_of hD (by omega)).mono fun e W' ⟨h1, h2, h3⟩ => ⟨W.heap.size, s.wait.length, ?_, ?_, h3⟩
  · rw [List.length_map]; exact h1
  · rw [pos_ints] at h2
    have := own_row lenI (x := s.wait.map (·.1)) (by rw [List.length_map]; unfold maxLen; omega) (Nat.le_refl _) h2
    rw [List.length_map] at this ⊢
    exact this
theorem both_history (h : Both w W d g s t l) (hl : s.ops.length ≤ 7000000) : Calls Try.prog 26 #[.pointer (some ⟨d, 0, none⟩)] W fun e W' => ∃ b c, e = .returned (.slice (some ⟨b, 0, none⟩) s.ops.length c) ∧ W'.ownsRow W.heap.size 108 1026 (.slice (some ⟨b, 0, none⟩) s.ops.length c) s.ops.length (s.ops.flatMap recCells) ∧ Below W.heap.size W W' := by
  obtain ⟨R, hg, L, rfl, hD, hp⟩ := h.has
  exact (history_of hD (by omega)).mono fun e W' ⟨h1, h2, h3⟩ => ⟨W.heap.size, s.ops.length, h1, own_row recCells_len (by unfold maxLen; omega) (Nat.le_refl _) h2, h3⟩
theorem both_image (h : Both w W d g s t l) (hS : Sim t s) (hl : t.held.length ≤ 7000000) : Calls Try.prog 17 #[.pointer (some ⟨d, 0, none⟩)] W fun e W' => ∃ b c, e = .returned (.agg #[.int .i64 s.n, .slice (some ⟨b, 0, none⟩) t.held.length c]) ∧ W'.ownsRow W.heap.size 85 1025 (.slice (some ⟨b, 0, none⟩) t.held.length c) t.held.length (t.held.flatMap celRow) ∧ Below W.heap.size W W' := by
  obtain ⟨R, hg, L, rfl, hD, hp⟩ := h.has
  refine (image_walk hD).mono fun e W' ⟨b, lx, h1, h2, h3, h4, h5⟩ => ?_
  obtain rfl : lx = t.held := h2.one hS.rise hS.sound hS.held
  exact ⟨b, _, h1, own_row celRow_len (by unfold maxLen; omega) h4 h3, h5⟩
/-- The document's lists, told. -/
theorem both_rpending (h : Both w W d g s t l) (hl : t.wait.length ≤ 7000000) : Calls Try.prog 49 #[.pointer (some ⟨g, 0, none⟩)] W fun e W' => ∃ p c, e = .returned (.slice p (t.wait.map (·.1)).length c) ∧ W'.ownsRow W.heap.size 3 1 (.slice p (t.wait.map (·.1)).length c) (t.wait.map (·.1)).length ((t.wait.map (·.1)).flatMap enI) ∧ Below W.heap.size W W' := by
  obtain ⟨R, hD, hT⟩ := h.rd
  refine (rPending_any hD (by omega)).mono fun e W' ⟨v, h1, h2, h3⟩ => ?_
  obtain ⟨p, c, rfl, _⟩ := own_slice h2
  refine ⟨p, c, ?_, ?_, h3⟩
  · rw [List.length_map]; exact h1
  · rw [List.length_map]; exact h2
theorem both_rhistory (h : Both w W d g s t l) (hl : t.ops.length ≤ 7000000) : Calls Try.prog 50 #[.pointer (some ⟨g, 0, none⟩)] W fun e W' => ∃ p c, e = .returned (.slice p t.ops.length c) ∧ W'.ownsRow W.heap.size 108 1026 (.slice p t.ops.length c) t.ops.length (t.ops.flatMap recCells) ∧ Below W.heap.size W W' := by
  obtain ⟨R, hD, hT⟩ := h.rd
  refine (rHistory_any hD (by omega)).mono fun e W' ⟨v, h1, h2, h3⟩ => ?_
  obtain ⟨p, c, rfl, _⟩ := own_slice h2
  exact ⟨p, c, h1, h2, h3⟩
theorem both_rimage (h : Both w W d g s t l) (hl : t.held.length ≤ 7000000) : Calls Try.prog 51 #[.pointer (some ⟨g, 0, none⟩)] W fun e W' => ∃ p c, e = .returned (.agg #[.int .i64 t.n, .slice p t.held.length c]) ∧ W'.ownsRow W.heap.size 85 1025 (.slice p t.held.length c) t.held.length (t.held.flatMap celRow) ∧ Below W.heap.size W W' := by
  obtain ⟨R, hD, hT⟩ := h.rd
  exact (rImage_any hD (by omega)).mono fun e W' ⟨p, c, h1, h2, h3⟩ => ⟨p, c, h1, h2, h3⟩
end Go.Proofs.Ytembocfghkmieaa
