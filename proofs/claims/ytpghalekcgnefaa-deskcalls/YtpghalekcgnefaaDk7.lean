/- The program's desk: rising lists what it holds, All hands back a function over that list; for a desk that holds fewer than a million inodes. -/
import Derived.Test.YtpghalekcgnefaaDk6
namespace Go.Proofs.Ytpghalekcgnefaa
open Go.RowKit Go.Maps
theorem Fr.grown {a c : World} {r : Option Nat} (h : Fr (fun i => r = some i) a c) : a.grownBy c r := ⟨h.os, h.tape, h.output, h.size, fun i hi hne => h.block i hi fun q => hne q.symm⟩
theorem infoH : (Try.prog.info? 63).map (fun i => (i.zero, i.size, i.bytes)) = some (some (.agg #[.int .i64 0, .int .i64 0]), 2, 16) := by kernel_rfl
theorem info_parts {ty : TypeId} {z : Value} {s b : Nat} (h : (Try.prog.info? ty).map (fun i => (i.zero, i.size, i.bytes)) = some (some z, s, b)) : ∃ i, Try.prog.info? ty = some i ∧ i.zero = some z ∧ i.size = s ∧ i.bytes = b := by
  simp only [Option.map_eq_some_iff, Prod.mk.injEq] at h
  obtain ⟨i, h1, h2, h3, h4⟩ := h
  exact ⟨i, h1, h2, h3, h4⟩
theorem makeH (u : World) (n : Nat) (hn : n ≤ 1000000) : ∃ cur : Array Value, cur.size = n * 2 ∧ (Instr.makeSlice 59 (.int .i64 0) (.int .i64 (n : Int))).run Try.prog u = .ok (.slice (some ⟨u.heap.size, 0, none⟩) 0 n) (u.alloc (.cells cur 63)) := by
  obtain ⟨i, hi, hz, hs, hb⟩ := info_parts infoH
  have h := run_make (P := Try.prog) u 59 63 i _ Try.underlying59 hi hz .i64 .i64 0 n (by omega) (by omega) (by rw [hb]; omega) (by omega)
  rw [Int.toNat_natCast, hs] at h
  refine ⟨_, ?_, h⟩
  simp [madeCells]
section
variable {w : World} {g b : Nat} {m : Int} {L : List (Int × Int)} {c : Nat}
set_option maxRecDepth 20000 in
set_option maxHeartbeats 2000000 in
theorem rising_ok (h : DeskAt w g b m L) (ho : Dok m L c) (hc : c < 1000000) : Calls Try.prog 27 #[.pointer (some ⟨g, 0, none⟩)] w fun e w' => ∃ v, e = .returned v ∧ w'.ownsRow w.heap.size 63 2 v L.length (L.flatMap pc2) ∧ Below w.heap.size w w' := by
  obtain ⟨c0, c1, c2⟩ := h.cells
  have hown := h.map
  have hbl := hown.lt
  have hl : ∀ ty, (Builtin.len_ #[45] ty #[.map (some b)]).run Try.prog w = .ok (.int .i64 (L.length : Nat)) w := fun ty => by
    have := World.ownsMap.len h.map Try.underlying45 ty
    rwa [dM_size] at this
  have hll := ho.lec
  obtain ⟨cur, hcs, hmk⟩ := makeH w L.length (by omega)
  have HR : Hid (Ris L) := ho.ris
  have HLL : Hid (L.length < 1000000) := by show _ < _; omega
  obtain ⟨N, hN⟩ : ∃ N, L.length = N := ⟨_, rfl⟩
  have HN : Hid (L.length = N) := hN
  rw [hN] at hl hmk hcs hown hll
  obtain ⟨i0, hi0, hz0, hz1, hz2⟩ := info_parts infoH
  have hNb : N ≤ 1000000 := by omega
  have c3 : (w.alloc (.cells cur 63)).cell? ⟨g, 2, none⟩ = some (.map (some b)) := ((below_new w _).cell (p := ⟨g, 2, none⟩) h.lt.1).trans c2
  clear h ho hN hll
  go_enter Try.func27, Try.ntmps27
  go_wp2_with (first | (go_at_call 26; refine (none_no c0).mono ?_; rintro e W ⟨rfl, hw⟩; obtain rfl := hw.symm) | (at_range; refine wpList_range_own _ rfl (.tmp 17) 45 rfl 3 3 lawI Try.underlying45 _ b N (dM L) rfl (hown.alloc _) ?_; intro w0 hrg0 hg0 hs0))
  have e1 : (w.alloc (.cells cur 63)).heap.size = w.heap.size + 1 := by simp
  rw [e1] at hrg0 hs0 ⊢
  go_frame
  have HB0 : Hid (Below w.heap.size w w0) := ((Below.refl _ _).alloc (Nat.le_refl _) _).grown hg0 (by simp) (fun j hj => by cases hj)
  have HO0 : Hid (w0.ownsRow w.heap.size 63 2 (.slice (some ⟨w.heap.size, 0, none⟩) 0 N) 0 []) := by
    refine ⟨rfl, .inr ⟨w.heap.size, N, cur, rfl, Nat.le_refl _, ?_, Nat.zero_le _, by unfold maxLen; omega, hcs, by simp⟩⟩
    rw [hg0.block w.heap.size (by simp) (by simp)]
    exact heap_alloc_new w (.cells cur 63)
  clear hg0 hs0 hmk hown e1 hl c0 c1 c2 c3 hcs
  generalize hBB : w.heap.size = B at *
  go_loopw [3] (fun s3 wx => ∃ (left : Lit → Bool) (cnt : Nat) (zs : List (Int × Int)) (gg cap : Nat), wx.ranges Try.prog 3 (plainElem Try.prog 3) b (B + 1) N (dM L) left cnt ∧ Hid (Coll L left zs) ∧ s3 = .slice (some ⟨gg, 0, none⟩) zs.length cap ∧
      Hid (wx.ownsRow B 63 2 (.slice (some ⟨gg, 0, none⟩) zs.length cap) zs.length (zs.flatMap pc2)) ∧ gg ≠ B + 1 ∧ Hid (Below B w wx)) (fun _ wx => wx.rangeLeft b (B + 1))
  case atStart => exact ⟨_, _, [], B, N, hrg0, Coll.start L, rfl, HO0.out, by omega, HB0.out⟩
  case round =>
    obtain ⟨left, cnt, zs, gg, cap, hrg, HC, rfl, HO, hgne, HB⟩ := hrel
    clear HB0 HO0 hrg0
    have HZ : Hid (zs.length < 1000000) := by
      have := HC.out.len
      have := HLL.out
      show _ < _
      omega
    go_wp2_with (at_next; refine wpList_next_ranges_ii _ rfl (.tmp 18) rfl 3 3 .i64 .i64 lawI Try.underlying3 Try.underlying3 b (B + 1) N _ _ _ rfl hrg ?_ ?_)
    · intro hc0 hl0
      have hS := sortH_ok zs HO.out (by have := HZ.out; omega)
      have HS : Hid (∀ d : List (Int × Int), d.Perm zs → (d.Pairwise fun p q => ¬ q.1 < p.1) → d = L) := fun d h1 h2 => HC.out.sorted HR.out hl0 h1 h2
      have hgl := HO.out.lt gg rfl
      clear HC HO hrg hl0 hc0
      go_wp2_with (go_at_call 29; fail)
      refine hS.mono ?_
      rintro e W2 ⟨rfl, ys, hp, hq, ho2, hF2⟩
      have he : ys = L := HS.out ys hp hq
      subst he
      have HO2 : Hid (W2.ownsRow B 63 2 (.slice (some ⟨gg, 0, none⟩) zs.length cap) ys.length (ys.flatMap pc2)) := by rw [hp.length_eq]; exact ho2
      have HB2 : Hid (Below B w W2) := HB.out.trans (hF2.below (fun i hi => by omega) (by have := HB.out.size; omega))
      clear hS hp hq ho2 hF2
      go_wp2
      go_ret
      exact ⟨_, rfl, by rw [hBB]; exact HO2.out, by rw [hBB]; exact HB2.out⟩
    · intro x y w1 cnt1 hwx hwy hlk hat hrg1 hlt1 hg1 hs1 hen
      have HC1 : Hid (Coll L (fun z => left z && !z.sameKey (.int .i64 x)) (zs ++ [(x, y)])) := HC.out.step HR.out hlk hat
      have hgl := (HO.out.lt gg rfl).1
      have hown1 := HO.out.kept hg1 (.inr (by simp only [Value.ownBlock]; exact fun q => hgne (by injection q)))
      have hB1 : Below B w w1 := HB.out.grown hg1 (by have := HB.out.size; omega) (fun j hj => by cases hj; omega)
      have hBs1 : B + 1 < w1.heap.size := hrg1.lt
      obtain ⟨v', w2, hrun, hown2, hbel2, hF2⟩ := own_pushF (st := 59) pc2_len pc2_one Try.underlying59 hi0 hz0 hz1 hz2 rfl (by omega) (by omega) hown1 (by omega) (by have := HZ.out; omega) (x, y) 59
      obtain ⟨g', cap', rfl⟩ : ∃ g' cap', v' = .slice (some ⟨g', 0, none⟩) (zs ++ [(x, y)]).length cap' := by
        rcases hown2.2 with ⟨_, h⟩ | ⟨g', cap', _, h, _⟩
        · simp at h
        · exact ⟨g', cap', h⟩
      have hg'ne : g' ≠ B + 1 := fun q => by
        subst q
        rcases hown2.2 with ⟨q, _⟩ | ⟨g2, _, cu, q, _, hh, _⟩
        · cases q
        · injection q with q1
          injection q1 with q1
          injection q1 with q1
          rw [← q1] at hh
          rw [hF2.block (B + 1) hBs1 (fun q => hgne (by injection q))] at hh
          obtain ⟨_, _, _, _, _, _, _, _, _, hit, _⟩ := hrg1
          rw [hit] at hh
          cases hh
      have HG2 : Hid (w1.grownBy w2 (some gg)) := hF2.grown
      have HRG : Hid (w1.ranges Try.prog 3 (plainElem Try.prog 3) b (B + 1) N (dM L) (fun z => left z && !z.sameKey (.int .i64 x)) cnt1) := hrg1
      have HLE : Hid (wr.rangeLeft b (B + 1) = cnt) := hrg.left_eq
      have HO2 := (show Hid _ from hown2)
      have HB2 : Hid (Below B w w2) := hB1.trans hbel2
      clear hs1 HC HO HB hat hown1 hB1 hown2 hbel2 hF2 hrg1 hrg hg1
      go_wp2_with (at_builtin; refine wpList_app rfl (.tmp 24) (.tmp 28) rfl rfl rfl hrun ?_)
      have hrg2 := HRG.out.kept HG2.out (fun q => by injection q with q; omega) (fun q => by injection q with q; omega)
      refine ⟨⟨_, cnt1, zs ++ [(x, y)], g', cap', hrg2, HC1.out, by simp, HO2.out, hg'ne, HB2.out⟩, ?_⟩
      rw [hrg2.left_eq, HLE.out]
      exact hlt1
/-- All: a function over a list of its own, rising. -/
theorem all_ok (h : DeskAt w g b m L) (ho : Dok m L c) (hc : c < 1000000) : Calls Try.prog 19 #[.pointer (some ⟨g, 0, none⟩)] w fun e w' => ∃ q v, e = .returned (.func (.func 28) #[] #[.pointer (some ⟨q, 0, none⟩)]) ∧ w'.cell? ⟨q, 0, none⟩ = some v ∧ w.heap.size ≤ q ∧ w'.ownsRow w.heap.size 63 2 v L.length (L.flatMap pc2) ∧ Below w.heap.size w w' := by
  have h0 := rising_ok h ho hc
  clear h ho
  go_enter Try.func19, Try.ntmps19
  go_wp2_with (go_at_call 27; fail)
  refine h0.mono ?_
  rintro e V1 ⟨v, rfl, ho, hb⟩
  have hsz := hb.size
  obtain ⟨ap, an, ac, rfl⟩ : ∃ ap an ac, v = .slice ap an ac := by
    rcases own_form ho with ⟨rfl, _⟩ | ⟨_, _, rfl, _⟩ <;> exact ⟨_, _, _, rfl⟩
  have HB : Hid (Below w.heap.size w (V1.alloc (.cells #[.slice ap an ac] 59))) := below_next hb (below_new V1 (.cells #[.slice ap an ac] 59))
  have hr : (V1.alloc (.cells #[.slice ap an ac] 59)).heap[V1.heap.size]? = some (.cells #[.slice ap an ac] 59) := heap_alloc_new _ _
  have HO : Hid ((V1.alloc (.cells #[.slice ap an ac] 59)).ownsRow w.heap.size 63 2 (.slice ap an ac) L.length (L.flatMap pc2)) := own_later ho (below_new _ _)
  clear h0 hb
  go_upto_region 2 with fail
  have C0 : Hid ((V1.alloc (.cells #[.slice ap an ac] 59)).cell? ⟨V1.heap.size, 0, none⟩ = some (.slice ap an ac)) := Joins.cell_of_block hr 0
  clear hr ho
  generalize V1.alloc (.cells #[.slice ap an ac] 59) = V2 at *
  go_wp2
  exact bodyPost_ret (results_tmp rfl _ _ _) rfl ⟨_, _, rfl, C0.out, hsz, HO.out, HB.out⟩
theorem all_none {v : Value} (h : NoDesk w v) : Calls Try.prog 19 #[v] w fun e w' => ∃ q, e = .returned (.func (.func 28) #[] #[.pointer (some ⟨q, 0, none⟩)]) ∧ w'.cell? ⟨q, 0, none⟩ = some (.slice none 0 0) ∧ w.heap.size ≤ q ∧ Below w.heap.size w w' := by
  have h0 := rising_none h
  clear h
  go_enter Try.func19, Try.ntmps19
  go_wp2_with (go_at_call 27; fail)
  refine h0.mono ?_
  rintro e V1 ⟨rfl, hV⟩
  subst hV
  have HB : Hid (Below V1.heap.size V1 (V1.alloc (.cells #[.slice none 0 0] 59))) := below_new V1 (.cells #[.slice none 0 0] 59)
  have hr : (V1.alloc (.cells #[.slice none 0 0] 59)).heap[V1.heap.size]? = some (.cells #[.slice none 0 0] 59) := heap_alloc_new _ _
  clear h0
  go_upto_region 2 with fail
  have C0 : Hid ((V1.alloc (.cells #[.slice none 0 0] 59)).cell? ⟨V1.heap.size, 0, none⟩ = some (.slice none 0 0)) := Joins.cell_of_block hr 0
  clear hr
  generalize V1.alloc (.cells #[.slice none 0 0] 59) = V2 at *
  go_wp2
  exact bodyPost_ret (results_tmp rfl _ _ _) rfl ⟨_, rfl, C0.out, Nat.le_refl _, HB.out⟩
end
end Go.Proofs.Ytpghalekcgnefaa
