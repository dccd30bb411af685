/- Several texts joined, each with its own remark; no condition. -/
import Derived.Test.YtembocfghkmieaaK7
import Derived.Test.YtembocfghkmieaaK6
import Derived.Test.YtembocfghkmieaaK12
/- The document's Load, copies, and lists held against each other; of fewer than a hundred million blocks. -/
namespace Go.Proofs.Ytembocfghkmieaa
open Go.RowKit Go.Maps
set_option maxRecDepth 20000 in
set_option maxHeartbeats 1000000 in
theorem sameHeld_any (s t : List Cel) (p q : Option Addr) (cp cq : Nat) (w : World) (hls : s.length < 9223372036854775807) (_hlt : t.length < 9223372036854775807) (hs : ImgAt w p s) (ht : ImgAt w q t) :
    Calls Try.prog 69 #[.slice p s.length cp, .slice q t.length cq] w fun e w' => e = .returned (.bool (celsB s t)) ∧ Below w.heap.size w w' := by
  by_cases hl : s.length = t.length
  · have HS : Hid (ImgAt w p s) := hs
    have HT : Hid (ImgAt w q t) := ht
    have HR : Hid (celsB s t = celsB (s.drop 0) (t.drop 0)) := rfl
    generalize celsB s t = res at *
    obtain ⟨n, hn⟩ : ∃ n, s.length = n := ⟨_, rfl⟩
    have hn2 : t.length = n := by omega
    rw [hn, hn2]
    rw [hn] at hls
    have HL : Hid (s.length = n ∧ t.length = n) := ⟨hn, hn2⟩
    clear hs ht hl hn hn2
    go_enter Try.func69, Try.ntmps69
    go_wp2
    go_loopw [5] (fun s5 wx => ∃ k : Nat, k ≤ n ∧ s5 = .int .i64 k ∧ Hid (Below w.heap.size w wx) ∧ Hid (res = celsB (s.drop k) (t.drop k))) (fun s5 _ => n - (intOf s5).toNat)
    case atStart => exact ⟨0, by omega, rfl, Below.refl _ _, HR.out⟩
    case round =>
      obtain ⟨k, hk, rfl, HB, HR2⟩ := hrel
      clear HR
      by_cases hk2 : (k : Int) < n
      · obtain ⟨hn, hn2⟩ := HL.out
        have hc : s[k]? = some s[k] := List.getElem?_eq_getElem (by omega)
        have hd : t[k]? = some t[k] := List.getElem?_eq_getElem (by omega)
        have hcd : s.drop k = s[k] :: s.drop (k + 1) := List.drop_eq_getElem_cons (by omega)
        have hdd : t.drop k = t[k] :: t.drop (k + 1) := List.drop_eq_getElem_cons (by omega)
        obtain ⟨b1, o1, rfl, l1, C1⟩ := HS.out (by omega)
        obtain ⟨b2, o2, rfl, l2, C2⟩ := HT.out (by omega)
        generalize s[k] = c at hc hcd
        generalize t[k] = d at hd hdd
        have q1 : CelAt wr b1 (o1 + k * 1025) c := (C1.later HB.out l1) k c hc
        have q2 : CelAt wr b2 (o2 + k * 1025) d := (C2.later HB.out l2) k d hd
        have hR := HR2.out
        rw [hcd, hdd] at hR
        unfold celsB at hR
        clear HR2 C1 C2 hcd hdd hc hd hn hn2
        cases hb : celB c d
        · have hr0 : res = false := by rw [hR, hb]; rfl
          clear hR
          subst hr0
          go_wp2
          refine wp_region_still_lit (by kernel_rfl) (by kernel_rfl) ?_
          repeat still_step
          refine wpStill_load85 rfl (.tmp 19) rfl b1 (o1 + k * 1025) rfl c q1 ?_
          repeat still_step
          refine wpStill_load85 rfl (.tmp 23) rfl b2 (o2 + k * 1025) rfl d q2 ?_
          repeat still_step
          refine wpStill_neq85 rfl (.tmp 20) (.tmp 24) rfl c d false rfl rfl hb ?_
          simp only [Act.put, List.setIfInBounds_toArray, List.set_cons_succ, List.set_cons_zero, Bool.not_false]
          refine wpStill_nil ?_
          go_wp2
          go_ret
          exact ⟨rfl, HB.out.drew⟩
        · have HR3 : Hid (res = celsB (s.drop (k + 1)) (t.drop (k + 1))) := by
            have e : res = celsB (s.drop (k + 1)) (t.drop (k + 1)) := by rw [hR, hb]; rfl
            exact e
          clear hR
          go_wp2
          refine wp_region_still_lit (by kernel_rfl) (by kernel_rfl) ?_
          repeat still_step
          refine wpStill_load85 rfl (.tmp 19) rfl b1 (o1 + k * 1025) rfl c q1 ?_
          repeat still_step
          refine wpStill_load85 rfl (.tmp 23) rfl b2 (o2 + k * 1025) rfl d q2 ?_
          repeat still_step
          refine wpStill_neq85 rfl (.tmp 20) (.tmp 24) rfl c d true rfl rfl hb ?_
          simp only [Act.put, List.setIfInBounds_toArray, List.set_cons_succ, List.set_cons_zero, Bool.not_true]
          refine wpStill_nil ?_
          go_wp2
          exact ⟨⟨k + 1, by omega, by go_num, HB.out.drew, HR3.out⟩, by simp [intOf]; omega⟩
      · obtain rfl : k = n := by omega
        have hr0 : res = true := by
          obtain ⟨hn, hn2⟩ := HL.out
          rw [HR2.out, List.drop_of_length_le (by omega), List.drop_of_length_le (by omega)]
          rfl
        subst hr0
        go_wp2
        go_ret
        exact ⟨rfl, HB.out⟩
  · have e : celsB s t = false := by
      cases h : celsB s t
      · rfl
      · exact absurd (celsB_len h) hl
    rw [e]
    have hlI : ¬ ((s.length : Int) = t.length) := by omega
    clear e hs ht
    go_enter Try.func69, Try.ntmps69
    go_wp2
    go_ret
    exact ⟨rfl, Below.refl _ _⟩
set_option maxRecDepth 20000 in
set_option maxHeartbeats 1000000 in
theorem sameImage_any (n m : Int) (s t : List Cel) (p q : Option Addr) (cp cq : Nat) (w : World) (hls : s.length < 9223372036854775807) (hlt : t.length < 9223372036854775807) (hs : ImgAt w p s) (ht : ImgAt w q t) :
    Calls Try.prog 27 #[.agg #[.int .i64 n, .slice p s.length cp], .agg #[.int .i64 m, .slice q t.length cq]] w fun e w' => e = .returned (.bool ((n == m) && celsB s t)) ∧ Below w.heap.size w w' := by
  have hB := below_next (below_new w (.cells #[.int .i64 n, .slice p s.length cp] 32)) (below_new _ (.cells #[.int .i64 m, .slice q t.length cq] 32))
  have HC := Hid.mk' (sameHeld_any s t p q cp cq _ hls hlt (hs.later hB) (ht.later hB))
  cases hnm : (n == m)
  · go_enter Try.func27, Try.ntmps27
    go_wp2
    go_ret
    exact ⟨rfl, hB⟩
  · go_enter Try.func27, Try.ntmps27
    go_wp2_with (go_at_call 69; fail)
    refine Calls.mono HC.out ?_
    rintro e W1 ⟨rfl, hb1⟩
    have HB := Hid.mk' (below_next hB hb1)
    clear hb1 HC hB
    go_wp2
    go_ret
    exact ⟨by simp, HB.out⟩
set_option maxRecDepth 20000 in
set_option maxHeartbeats 1000000 in
theorem copyHeld_any (l : List Cel) (p : Option Addr) (cap : Nat) (w : World) (hl : l.length ≤ 100000000) (h : ImgAt w p l) :
    Calls Try.prog 63 #[.slice p l.length cap] w fun e w' => ∃ q c, e = .returned (.slice q l.length c) ∧ Below w.heap.size w w' := by
  have HI : Hid (ImgAt w p l) := h
  obtain ⟨N, hN⟩ : ∃ N, l.length = N := ⟨_, rfl⟩
  have HN := Hid.mk' hN
  rw [hN] at hl ⊢
  clear hN h
  go_enter Try.func63, Try.ntmps63
  go_wp2
  go_loopw [3, 4] (fun s3 s4 wx => ∃ k : Nat, k ≤ N ∧ s4 = .int .i64 k ∧ Hid (HL w.heap.size wx s3 (l.take k) ∧ Below w.heap.size w wx)) (fun _ s4 _ => N - (intOf s4).toNat)
  case atStart => exact ⟨0, by omega, rfl, HL.nil _ _, Below.refl _ _⟩
  case round =>
    obtain ⟨k, hk, rfl, HH⟩ := hrel
    by_cases hk2 : (k : Int) < N
    · have hlN := HN.out
      have hc : l[k]? = some (l[k]'(by omega)) := List.getElem?_eq_getElem _
      obtain ⟨b, off, rfl, hlt, hC⟩ := HI.out (by omega)
      generalize l[k]'(by omega) = c at hc
      have q1 : CelAt wr b (off + k * 1025) c := (hC.later HH.out.2 hlt) k c hc
      have htk : (l.take k).length = k := by rw [List.length_take]; omega
      obtain ⟨v', w3, hr, hown', hb3, _⟩ := HH.out.1.push HH.out.2.size (by omega) c 30
      rw [← take_snoc hc] at hown'
      have HO := Hid.mk' hown'
      have HB := Hid.mk' (HH.out.2.trans hb3)
      have HRR := Hid.mk' hr
      have HQ := Hid.mk' q1
      clear hr hown' hb3 q1 hC hc HH htk hlN
      go_wp2_with (first | refine wpList_exec rfl (exec_load85 rfl rfl HQ.out) ?_ | refine wpList_exec rfl (exec_slice85 rfl rfl) ?_ | refine wpList_exec rfl (exec_push rfl rfl rfl HRR.out) ?_)
      exact ⟨⟨k + 1, by omega, by go_num, HO.out, HB.out⟩, by simp [intOf]; omega⟩
    · obtain rfl : k = N := by omega
      have h1 := HH.out.1
      rw [List.take_of_length_le (by have := HN.out; omega)] at h1
      obtain ⟨q, c, hv, _⟩ := h1.img
      rw [HN.out] at hv
      subst hv
      have HB := Hid.mk' HH.out.2
      clear HH h1
      go_wp2
      go_ret
      exact ⟨⟨q, c, rfl⟩, HB.out⟩
def refRow (n : Int) (v : Value) : Array Value := #[.int .i64 n, v, .slice none 0 0, .bool false, .int .i64 0, .bool false, .slice none 0 0, .int .i64 0, .int .i64 0, .int .i64 0, .int .i64 0]
set_option maxRecDepth 20000 in
set_option maxHeartbeats 1000000 in
theorem refLoad_bad (n : Int) (l : List Cel) (p : Option Addr) (cap : Nat) (w : World) (hl : l.length ≤ 100000000) (h : ImgAt w p l) (hm : mayB n l = false) :
    Calls Try.prog 16 #[.agg #[.int .i64 n, .slice p l.length cap]] w fun e w' => e = .returned (.tuple #[.pointer none, .int .i64 4]) ∧ Below w.heap.size w w' := by
  have hB := below_new w (.cells #[.int .i64 n, .slice p l.length cap] 32)
  have hM := refMay_any n l p cap _ (by omega) (h.later hB)
  rw [hm] at hM
  go_enter Try.func16, Try.ntmps16
  go_wp2_with (go_at_call 62; refine hM.mono ?_; rintro e W1 ⟨rfl, hb1⟩)
  go_ret2
  exact ⟨rfl, below_next hB hb1⟩
set_option maxRecDepth 20000 in
set_option maxHeartbeats 1000000 in
theorem refLoad_ok (n : Int) (l : List Cel) (p : Option Addr) (cap : Nat) (w : World) (hl : l.length ≤ 100000000) (h : ImgAt w p l) (hm : mayB n l = true) :
    Calls Try.prog 16 #[.agg #[.int .i64 n, .slice p l.length cap]] w fun e w' => ∃ g, e = .returned (.tuple #[.pointer (some ⟨g, 0, none⟩), .int .i64 0]) ∧ Below w.heap.size w w' := by
  have hB := below_new w (.cells #[.int .i64 n, .slice p l.length cap] 32)
  have hG := heap_alloc_new w (.cells #[.int .i64 n, .slice p l.length cap] 32)
  have hM := refMay_any n l p cap _ (by omega) (h.later hB)
  rw [hm] at hM
  have HI := Hid.mk' h
  have HL' := Hid.mk' hl
  clear h hl hm
  go_enter Try.func16, Try.ntmps16
  go_wp2_with (go_at_call 62; fail)
  refine hM.mono ?_
  rintro e W1 ⟨rfl, hb1⟩
  have hG1 := heap_kept hG hb1
  have hB1 := below_next hB hb1
  have HC := Hid.mk' (copyHeld_any l p cap W1.drew HL'.out (HI.out.later hB1.drew))
  clear hM hG hB hb1 HI HL'
  go_wp2
  refine wp_region_ord (S := fun u => u.heap[w.heap.size]? = some (.cells #[.int .i64 n, .slice p l.length cap] 32)) [(0, true), (1, true), (2, true), (3, true), (4, false), (5, true), (6, false), (7, true), (8, true)]
    (by kernel_rfl) rfl (by kernel_rfl) (fun d _ _ _ _ h => by cases d <;> exact h) hG1 ?_
  simp only [inOrd, List.getElem?_cons_zero, List.getElem?_cons_succ]
  refine wpOrd_yield (v := .pointer (some ⟨w.heap.size, 0, none⟩)) rfl (fun u _ => by go_simp) ?_
  simp only [Act.put, List.setIfInBounds_toArray, List.set_cons_succ, List.set_cons_zero]
  refine wpOrd_yield (v := .int .i64 n) rfl (fun u hu => by have c0 : u.cell? ⟨w.heap.size, 0, none⟩ = some (.int .i64 n) := Joins.cell_of_block hu 0; go_simp) ?_
  simp only [Act.put, List.setIfInBounds_toArray, List.set_cons_succ, List.set_cons_zero]
  refine wpOrd_yield (v := .pointer (some ⟨w.heap.size, 1, none⟩)) rfl (fun u _ => by go_simp) ?_
  simp only [Act.put, List.setIfInBounds_toArray, List.set_cons_succ, List.set_cons_zero]
  refine wpOrd_yield (v := .slice p l.length cap) rfl (fun u hu => by have c0 : u.cell? ⟨w.heap.size, 1, none⟩ = some (.slice p l.length cap) := Joins.cell_of_block hu 1; go_simp) ?_
  simp only [Act.put, List.setIfInBounds_toArray, List.set_cons_succ, List.set_cons_zero]
  refine wpOrd_call rfl 63 _ _ rfl Try.call63 [.slice p l.length cap] rfl ?_
  refine Calls.mono HC.out ?_
  rintro e W2 ⟨q, c, rfl, hb2⟩
  have hG2 : W2.heap[w.heap.size]? = _ := (hb2.block w.heap.size (Array.getElem?_eq_some_iff.1 hG1).1).trans hG1
  have HB2 := Hid.mk' (below_next hB1.drew hb2)
  refine ⟨_, rfl, hG2, ?_⟩
  clear HC hb2 hB1
  simp only [Act.put, List.setIfInBounds_toArray, List.set_cons_succ, List.set_cons_zero]
  refine wpOrd_yield (v := .agg (refRow n (.slice q l.length c))) rfl (fun u _ => by unfold refRow; go_simp) ?_
  simp only [Act.put, List.setIfInBounds_toArray, List.set_cons_succ, List.set_cons_zero]
  refine wpOrd_run (v := .pointer (some ⟨W2.heap.size, 0, none⟩)) (w' := W2.alloc (.cells (refRow n (.slice q l.length c)) 102)) rfl (by unfold refRow; go_simp) (heap_kept hG2 (below_new _ _)) ?_
  simp only [Act.put, List.setIfInBounds_toArray, List.set_cons_succ, List.set_cons_zero]
  refine wpOrd_yield (v := .pointer (some ⟨W2.heap.size, 0, none⟩)) rfl (fun u _ => by go_simp) ?_
  simp only [Act.put, List.setIfInBounds_toArray, List.set_cons_succ, List.set_cons_zero]
  refine wpOrd_yield (v := .int .i64 0) rfl (fun u _ => by go_simp) ?_
  simp only [Act.put, List.setIfInBounds_toArray, List.set_cons_succ, List.set_cons_zero]
  refine wpOrd_nil ?_
  have HB3 := Hid.mk' (below_next HB2.out (below_new W2 (.cells (refRow n (.slice q l.length c)) 102)))
  generalize W2.alloc (.cells (refRow n (.slice q l.length c)) 102) = W3 at HB3 ⊢
  go_wp2
  go_ret2
  exact ⟨_, rfl, HB3.out⟩
end Go.Proofs.Ytembocfghkmieaa
/- The law's own function image: cells that came in, as an image; at most a million of them. -/
namespace Go.Proofs.Ytembocfghkmieaa
open Go.RowKit Go.Maps
theorem HL.later {B : Nat} {W W' : World} {v : Value} {l : List Cel} (h : HL B W v l) (hb : Below W.heap.size W W') : HL B W' v l := ownsRow_kept0 h fun k hk => hb.block k (World.ownsRow.lt h k hk).2
/-- A cell that came in: two cells at a place. -/
structure CinAt (w : World) (b off : Nat) where
  pos : Int
  pa : Option Addr
  pl : Nat
  pc : Nat
  pf : Nat → Int
  hb : b < w.heap.size
  c0 : w.cell? ⟨b, off, none⟩ = some (.int .i64 pos)
  c1 : w.cell? ⟨b, off + 1, none⟩ = some (.slice pa pl pc)
  lies : Lies w (.slice pa pl pc) pl pf
  byte : ∀ i, 0 ≤ pf i ∧ pf i ≤ 255
  hp : -9223372036854775808 ≤ pos ∧ pos ≤ 9223372036854775807
def CinsAt (w : World) (a : Option Addr) (len : Nat) : Prop := (len : Int) ≤ 9223372036854775807 ∧ ∀ r, r < len → ∃ b off, a = some ⟨b, off, none⟩ ∧ Nonempty (CinAt w b (off + r * 2))
/-- The block of some bytes. -/
def cinB (f : Nat → Int) (n : Nat) : Nat → Int := firsts f (min n 1024)
theorem cinB_can {f : Nat → Int} (h : ∀ i, 0 ≤ f i ∧ f i ≤ 255) (n : Nat) : Can (cinB f n) := by
  refine ⟨fun i => ?_, fun i hi => ?_⟩
  · unfold cinB firsts
    split
    · exact h i
    · omega
  · unfold cinB firsts
    rw [if_neg (by omega)]
theorem cinB_blk (f : Nat → Int) (n : Nat) : blk (firsts f n) = blk (cinB f n) := blk_congr fun i hi => by
  unfold cinB firsts
  by_cases h : i < n
  · rw [if_pos h, if_pos (by omega)]
  · rw [if_neg h, if_neg (by omega)]
theorem block_cin {w : World} {v : Value} {n : Nat} {f : Nat → Int} (h : Lies w v n f) : Calls Try.prog 21 #[v] w fun e w' => e = .returned (.agg (blk (cinB f n))) ∧ Below w.heap.size w w' := by
  have q := block_lies h
  rw [cinB_blk] at q
  exact q

/-- A list of cells, each by its index. -/
theorem cins_fn {w : World} {a : Option Addr} {len : Nat} (h : CinsAt w a len) : ∃ (b off : Nat) (q : Nat → Int × (Nat → Int)) (v : Nat → Option Addr × Nat × Nat), (∀ r, Can (q r).2) ∧ ∀ r, r < len → a = some ⟨b, off, none⟩ ∧
    (-9223372036854775808 ≤ (q r).1 ∧ (q r).1 ≤ 9223372036854775807) ∧ ∀ W, Below w.heap.size w W → W.cell? ⟨b, off + r * 2, none⟩ = some (.int .i64 (q r).1) ∧ W.cell? ⟨b, off + r * 2 + 1, none⟩ = some (.slice (v r).1 (v r).2.1 (v r).2.2) ∧
      Calls Try.prog 21 #[.slice (v r).1 (v r).2.1 (v r).2.2] W fun e w' => e = .returned (.agg (blk (q r).2)) ∧ Below W.heap.size W w' := by
  obtain ⟨b, off, hbo⟩ : ∃ b off, 0 < len → a = some ⟨b, off, none⟩ := by
    by_cases h0 : 0 < len
    · obtain ⟨b, off, h1, _⟩ := h.2 0 h0
      exact ⟨b, off, fun _ => h1⟩
    · exact ⟨0, 0, fun q => absurd q h0⟩
  have key : ∀ r, ∃ x : (Int × (Nat → Int)) × (Option Addr × Nat × Nat), Can x.1.2 ∧ (r < len → (-9223372036854775808 ≤ x.1.1 ∧ x.1.1 ≤ 9223372036854775807) ∧ ∀ W, Below w.heap.size w W → W.cell? ⟨b, off + r * 2, none⟩ = some (.int .i64 x.1.1) ∧ W.cell? ⟨b, off + r * 2 + 1, none⟩ = some (.slice x.2.1 x.2.2.1 x.2.2.2) ∧
      Calls Try.prog 21 #[.slice x.2.1 x.2.2.1 x.2.2.2] W fun e w' => e = .returned (.agg (blk x.1.2)) ∧ Below W.heap.size W w') := fun r => by
    by_cases hr : r < len
    · obtain ⟨b', off', h1, ⟨A⟩⟩ := h.2 r hr
      have h2 := (hbo (by omega)).symm.trans h1
      injection h2 with h2
      injection h2 with h3 h4
      subst h3 h4
      exact ⟨((A.pos, cinB A.pf A.pl), (A.pa, A.pl, A.pc)), cinB_can A.byte A.pl, fun _ => ⟨A.hp, fun W hb => ⟨(hb.cell (p := ⟨b, off + r * 2, none⟩) A.hb).trans A.c0, (hb.cell (p := ⟨b, off + r * 2 + 1, none⟩) A.hb).trans A.c1, block_cin (A.lies.later hb)⟩⟩⟩
    · exact ⟨((0, nought), (none, 0, 0)), can_nought, fun q => absurd q hr⟩
  obtain ⟨f, hf⟩ := Classical.skolem.1 key
  exact ⟨b, off, fun r => (f r).1, fun r => (f r).2, fun r => (hf r).1, fun r hr => ⟨hbo (by omega), (hf r).2 hr⟩⟩
section
variable {ops : Array Oper} {rest : List Oper} {o : Oper} {a : Act} {w : World} {Q : Exit → Act → World → Prop}
/-- A whole row is loaded, of any type that is a row. -/
theorem wpList_ldR (ty : TypeId) {d : TypeDesc} (hu : Try.prog.underlying ty = some d) (hd : d.isRow = true) (hw : Region.wanted o (yielded ops a.tmps) = true) (x : Operand) (ho : o.op = .load ty x)
    (g : Nat) (hx : a.eval x = .pointer (some ⟨g, 0, none⟩)) (cs : Array Value) (t : TypeId) (fr : Nat × Nat) (hi : (Try.prog.info? ty).map (·.size) = some cs.size) (hg : w.heap[g]? = some (.cells cs t fr))
    (h : wpList Try.prog ops Q rest (a.put o.dst (.agg cs)) w) : wpList Try.prog ops Q (o :: rest) a w := by
  unfold wpList
  rw [if_pos hw]
  refine .inl ?_
  unfold Oper.wp execOp
  simp only [ho, hx, Instr.loadAt, Instr.sureAddr, Sem.run_bind, Sem.run_pure, Result.andThen_ok, run_loadVar_row w g t ty cs fr d hg hu (by cases d <;> first | rfl | cases hd) hi]
  exact h
theorem wpList_stR (ty : TypeId) (hgd : o.guard = none) (x y : Operand) (ho : o.op = .store ty x y)
    (g : Nat) (cs c0 : Array Value) (t : TypeId) (hi : (Try.prog.info? ty).map (·.size) = some cs.size) (hs : c0.size = cs.size) (h1 : cs.all (·.oneCell') = true)
    (hx : a.eval x = .pointer (some ⟨g, 0, none⟩)) (hy : a.eval y = .agg cs) (hg : w.heap[g]? = some (.cells c0 t))
    (h : wpList Try.prog ops Q rest (a.put o.dst undef) (w.setRow g cs)) : wpList Try.prog ops Q (o :: rest) a w :=
  wpList_plain hgd fun _ hK => by
    unfold Oper.wp execOp
    simp only [ho, hx, hy, Instr.storeAt, Instr.sureAddr, Sem.run_bind, Sem.run_pure, Result.andThen_ok, run_storeVar_row w g t ty c0 cs hg hi hs h1]
    exact hK _ _ h
theorem wpList_stNew (ty : TypeId) (hgd : o.guard = none) (x y : Operand) (ho : o.op = .store ty x y)
    (g : Nat) (cs c0 : Array Value) (t : TypeId) (hi : (Try.prog.info? ty).map (·.size) = some cs.size) (hs : c0.size = cs.size) (h1 : cs.all (·.oneCell') = true)
    (hx : a.eval x = .pointer (some ⟨g, 0, none⟩)) (hgw : g = w.heap.size) (hy : a.eval y = .agg cs)
    (h : wpList Try.prog ops Q rest (a.put o.dst undef) (w.alloc (.cells cs t))) : wpList Try.prog ops Q (o :: rest) a (w.alloc (.cells c0 t)) := by
  subst hgw
  exact wpList_stR ty hgd x y ho w.heap.size cs c0 t hi hs h1 hx hy (heap_alloc_new _ _) (by rw [World.setRow_alloc_new]; exact h)
end
/-- The cells as an image's list. -/
def celsQ (q : Nat → Cel) (n : Nat) : List Cel := (List.range n).map q
theorem celsQ_len (q : Nat → Cel) (n : Nat) : (celsQ q n).length = n := by simp [celsQ]
theorem celsQ_get (q : Nat → Cel) (n i : Nat) (h : i < n) : (celsQ q n)[i]? = some (q i) := by simp [celsQ, h]
theorem celsQ_succ (q : Nat → Cel) (n : Nat) : celsQ q (n + 1) = celsQ q n ++ [q n] := by simp [celsQ, List.range_succ]
/-- What a cell tells at a later world. -/
def CinsQ (w : World) (a : Option Addr) (len b off : Nat) (q : Nat → Cel) (v : Nat → Option Addr × Nat × Nat) : Prop := ∀ r, r < len → a = some ⟨b, off, none⟩ ∧
    (-9223372036854775808 ≤ (q r).1 ∧ (q r).1 ≤ 9223372036854775807) ∧ ∀ W, Below w.heap.size w W → W.cell? ⟨b, off + r * 2, none⟩ = some (.int .i64 (q r).1) ∧ W.cell? ⟨b, off + r * 2 + 1, none⟩ = some (.slice (v r).1 (v r).2.1 (v r).2.2) ∧
      Calls Try.prog 21 #[.slice (v r).1 (v r).2.1 (v r).2.2] W fun e w' => e = .returned (.agg (blk (q r).2)) ∧ Below W.heap.size W w'
set_option maxRecDepth 20000 in
set_option maxHeartbeats 2000000 in
theorem image_any (n : Int) (a : Option Addr) (len cap b off : Nat) (q : Nat → Cel) (v : Nat → Option Addr × Nat × Nat) (w : World) (hl : len ≤ 2000000) (h : CinsQ w a len b off q v) :
    Calls Try.prog 10 #[.int .i64 n, .slice a len cap] w fun e w' => ∃ p c, e = .returned (.agg #[.int .i64 n, .slice p len c]) ∧ ImgAt w' p (celsQ q len) ∧ Below w.heap.size w w' := by
  have HQ := Hid.mk' h
  clear h
  have hB0 : Below w.heap.size w ((w.alloc (.cells #[.int .i64 0, .slice none 0 0] 32)).alloc (.cells #[.int .i64 n, .slice none 0 0] 32)) := below_next (below_new _ _) (below_new _ _)
  have H0 := Hid.mk' hB0
  have H5 := Hid.mk' (heap_alloc_new (w.alloc (.cells #[.int .i64 0, .slice none 0 0] 32)) (.cells #[.int .i64 n, .slice none 0 0] 32))
  have H4 := Hid.mk' (heap_kept (heap_alloc_new w (.cells #[.int .i64 0, .slice none 0 0] 32)) (below_new (w.alloc (.cells #[.int .i64 0, .slice none 0 0] 32)) (.cells #[.int .i64 n, .slice none 0 0] 32)))
  have hsz1 : (w.alloc (.cells #[.int .i64 0, .slice none 0 0] 32)).heap.size = w.heap.size + 1 := by simp
  rw [hsz1] at H5
  clear hB0 hsz1
  go_enter Try.func10, Try.ntmps10
  go_wp2
  go_loopw [6] (fun s6 wx => ∃ (k : Nat) (p : Option Addr) (c : Nat), k ≤ len ∧ s6 = .int .i64 k ∧ Hid (HL (w.heap.size + 2) wx (.slice p k c) (celsQ q k) ∧ Below w.heap.size w wx ∧ wx.heap[w.heap.size]? = some (.cells #[.int .i64 0, .slice none 0 0] 32) ∧ wx.heap[w.heap.size + 1]? = some (.cells #[.int .i64 n, .slice p k c] 32))) (fun s6 _ => len - (intOf s6).toNat)
  case atStart => exact ⟨0, none, 0, by omega, rfl, HL.nil _ _, H0.out, H4.out, H5.out⟩
  case round =>
    obtain ⟨k, p, c, hk, rfl, HH⟩ := hrel
    clear H0 H4 H5
    by_cases hk2 : (k : Int) < len
    · obtain ⟨rfl, _, hW⟩ := HQ.out k (by omega)
      obtain ⟨hL, hB, h4, h5⟩ := HH.out
      have HSz := Hid.mk' (show w.heap.size + 2 ≤ wr.heap.size by have := (Array.getElem?_eq_some_iff.1 h5).1; omega)
      have HC := Hid.mk' (hW wr.drew hB.drew).2.2
      have HRd := Hid.mk' (fun u (hu : Below w.heap.size w u) => And.intro (hW u hu).1 (hW u hu).2.1)
      have HL1 := Hid.mk' hL
      have HB1 := Hid.mk' hB.drew
      have H4 := Hid.mk' h4
      have H5 := Hid.mk' h5
      have HB5 := Hid.mk' (show wr.cell? ⟨w.heap.size + 1, 1, none⟩ = some (.slice p k c) from Joins.cell_of_block h5 1)
      clear hW hL hB h4 h5 HH
      generalize hqk : q k = ck at *
      obtain ⟨y, f⟩ := ck
      generalize hvk : v k = vk at *
      obtain ⟨va, vn, vc⟩ := vk
      have HQK := Hid.mk' hqk
      clear hvk hqk
      go_wp2
      refine wp_region_ph (A := fun u => Below w.heap.size w u) (B := fun u => u.cell? ⟨w.heap.size + 1, 1, none⟩ = some (.slice p k c)) 15 [(0, 0), (1, 1), (2, 0), (3, 0), (4, 0), (5, 0), (6, 0), (7, 0), (8, 0), (9, 0), (10, 0), (11, 0), (12, 2), (13, 0), (14, 2), (15, 2), (16, 0), (17, 2)] (by kernel_rfl) rfl (by kernel_rfl) (fun d _ _ _ _ h => by cases d <;> exact h) HB1.out HB5.out ?_
      simp only [inOrdC, List.getElem?_cons_zero, List.getElem?_cons_succ]
      refine wpPh_yield (v := .pointer (some ⟨w.heap.size + 1, 1, none⟩)) rfl (fun u hu => by go_simp) ?_
      simp only [Act.put, List.setIfInBounds_toArray, List.set_cons_succ, List.set_cons_zero]
      refine wpPh_read (v := .slice p k c) rfl (fun u _ hB => by have hB' : u.cell? ⟨w.heap.size + 1, 1, none⟩ = some (.slice p k c) := hB; go_simp) ?_
      simp only [Act.put, List.setIfInBounds_toArray, List.set_cons_succ, List.set_cons_zero]
      refine wpPh_yield (v := .slice (some ⟨b, off, none⟩) len cap) rfl (fun u _ => exec_mv rfl rfl) ?_
      simp only [Act.put, List.setIfInBounds_toArray, List.set_cons_succ, List.set_cons_zero]
      refine wpPh_yield (v := .int .i64 (k : Int)) rfl (fun u _ => exec_mv rfl rfl) ?_
      simp only [Act.put, List.setIfInBounds_toArray, List.set_cons_succ, List.set_cons_zero]
      refine wpPh_yield (v := .pointer (some ⟨b, off + k * 2, none⟩)) rfl (fun u hu => by go_simp) ?_
      simp only [Act.put, List.setIfInBounds_toArray, List.set_cons_succ, List.set_cons_zero]
      refine wpPh_yield (v := .pointer (some ⟨b, off + k * 2, none⟩)) rfl (fun u hu => by go_simp) ?_
      simp only [Act.put, List.setIfInBounds_toArray, List.set_cons_succ, List.set_cons_zero]
      refine wpPh_yield (v := .int .i64 y) rfl (fun u hu => by have := (HRd.out u hu).1; go_simp) ?_
      simp only [Act.put, List.setIfInBounds_toArray, List.set_cons_succ, List.set_cons_zero]
      refine wpPh_yield (v := .slice (some ⟨b, off, none⟩) len cap) rfl (fun u _ => exec_mv rfl rfl) ?_
      simp only [Act.put, List.setIfInBounds_toArray, List.set_cons_succ, List.set_cons_zero]
      refine wpPh_yield (v := .int .i64 (k : Int)) rfl (fun u _ => exec_mv rfl rfl) ?_
      simp only [Act.put, List.setIfInBounds_toArray, List.set_cons_succ, List.set_cons_zero]
      refine wpPh_yield (v := .pointer (some ⟨b, off + k * 2, none⟩)) rfl (fun u hu => by go_simp) ?_
      simp only [Act.put, List.setIfInBounds_toArray, List.set_cons_succ, List.set_cons_zero]
      refine wpPh_yield (v := .pointer (some ⟨b, off + k * 2 + 1, none⟩)) rfl (fun u hu => by go_simp) ?_
      simp only [Act.put, List.setIfInBounds_toArray, List.set_cons_succ, List.set_cons_zero]
      refine wpPh_yield (v := .slice va vn vc) rfl (fun u hu => by have := (HRd.out u hu).2; go_simp) ?_
      simp only [Act.put, List.setIfInBounds_toArray, List.set_cons_succ, List.set_cons_zero]
      refine wpPh_call rfl 21 _ _ rfl Try.call21 [.slice va vn vc] rfl ?_
      refine Calls.mono HC.out ?_
      rintro e W2 ⟨rfl, hb2⟩
      have h52 : W2.heap[w.heap.size + 1]? = some (.cells #[.int .i64 n, .slice p k c] 32) := (hb2.block _ (Array.getElem?_eq_some_iff.1 H5.out).1).trans H5.out
      have h42 : W2.heap[w.heap.size]? = some (.cells #[.int .i64 0, .slice none 0 0] 32) := (hb2.block _ (Array.getElem?_eq_some_iff.1 H4.out).1).trans H4.out
      have hL2 : HL (w.heap.size + 2) W2 (.slice p k c) (celsQ q k) := HL1.out.later ((Below.refl _ _).drew.trans hb2)
      have hB2 := below_next HB1.out hb2
      refine ⟨_, rfl, ⟨hB2, fun _ => Joins.cell_of_block h52 1⟩, ?_⟩
      simp only [Act.put, List.setIfInBounds_toArray, List.set_cons_succ, List.set_cons_zero]
      refine wpPh_yield (v := .agg (celRow (y, f)).toArray) rfl (fun u _ => exec_build85 rfl rfl rfl) ?_
      simp only [Act.put, List.setIfInBounds_toArray, List.set_cons_succ, List.set_cons_zero]
      obtain ⟨v', W3, hr, hown', hb3, _⟩ := hL2.push (by have := hb2.size; have := HSz.out; have e : wr.drew.heap.size = wr.heap.size := rfl; omega) (by rw [celsQ_len]; omega) (y, f) 30
      have hsn := celsQ_succ q k
      rw [HQK.out] at hsn
      rw [← hsn] at hown'
      obtain ⟨p', c', hv', _⟩ := hown'.img
      rw [celsQ_len] at hv'
      subst hv'
      have hB3 : Below w.heap.size w W3 := hB2.trans (hb3.mono (by omega))
      have h53 : W3.heap[w.heap.size + 1]? = some (.cells #[.int .i64 n, .slice p k c] 32) := (hb3.block _ (by omega)).trans h52
      have h43 : W3.heap[w.heap.size]? = some (.cells #[.int .i64 0, .slice none 0 0] 32) := (hb3.block _ (by omega)).trans h42
      have hBA := below_next hB2 (below_new W2 (.cells (celRow (y, f)).toArray 85))
      have h5A := heap_kept h52 (below_new W2 (.cells (celRow (y, f)).toArray 85))
      refine wpPh_make (v := .slice (some ⟨W2.heap.size, 0, none⟩) 1 1) (w' := W2.alloc (.cells (celRow (y, f)).toArray 85)) rfl (exec_slice85 rfl rfl) ⟨hBA, fun _ => Joins.cell_of_block h5A 1⟩ ?_
      simp only [Act.put, List.setIfInBounds_toArray, List.set_cons_succ, List.set_cons_zero]
      refine wpPh_make (v := .slice p' (k + 1) c') (w' := W3) rfl (exec_push rfl rfl rfl hr) ⟨hB3, fun q => by cases q⟩ ?_
      simp only [Act.put, List.setIfInBounds_toArray, List.set_cons_succ, List.set_cons_zero]
      refine wpPh_yield (v := .pointer (some ⟨w.heap.size + 1, 1, none⟩)) rfl (fun u hu => by go_simp) ?_
      simp only [Act.put, List.setIfInBounds_toArray, List.set_cons_succ, List.set_cons_zero]
      have c51 : W3.cell? ⟨w.heap.size + 1, 1, none⟩ = some (.slice p k c) := Joins.cell_of_block h53 1
      have f51 : W3.frozen? ⟨w.heap.size + 1, 1, none⟩ = false := Joins.unfrozen_of_block h53 1
      have h54 : (W3.setCell ⟨w.heap.size + 1, 1, none⟩ (.slice p' (k + 1) c')).heap[w.heap.size + 1]? = some (.cells #[.int .i64 n, .slice p' (k + 1) c'] 32) := heap_setCell_same W3 (w.heap.size + 1) 1 _ 32 _ h53
      have h44 : (W3.setCell ⟨w.heap.size + 1, 1, none⟩ (.slice p' (k + 1) c')).heap[w.heap.size]? = some (.cells #[.int .i64 0, .slice none 0 0] 32) := (heap_setCell_other W3 _ _ _ (by simp)).trans h43
      have hB4 : Below w.heap.size w (W3.setCell ⟨w.heap.size + 1, 1, none⟩ (.slice p' (k + 1) c')) := hB3.setCell (by simp) _
      have hb4 : Fr (fun i => i = w.heap.size + 1) W3 (W3.setCell ⟨w.heap.size + 1, 1, none⟩ (.slice p' (k + 1) c')) := Fr.setCell W3 _ _ _
      have hL4 : HL (w.heap.size + 2) (W3.setCell ⟨w.heap.size + 1, 1, none⟩ (.slice p' (k + 1) c')) (.slice p' (k + 1) c') (celsQ q (k + 1)) := by
        refine ⟨hown'.1, ?_⟩
        rcases hown'.2 with h | ⟨g, cp, cur, h1, h2, h3, h4⟩
        · exact .inl h
        · exact .inr ⟨g, cp, cur, h1, h2, (hb4.block g (Array.getElem?_eq_some_iff.1 h3).1 (by omega)).trans h3, h4⟩
      refine wpPh_do (w' := W3.setCell ⟨w.heap.size + 1, 1, none⟩ (.slice p' (k + 1) c')) rfl (by go_simp) ⟨hB4, fun q => by cases q⟩ ?_
      have HN := Hid.mk' (And.intro hL4 (And.intro hB4 (And.intro h44 h54)))
      clear hL4 hB4 h44 h54 hb4 c51 f51 h43 h53 hB3 hBA h5A hr hown' hb3 hsn hL2 hB2 h52 h42 HB1 HL1 H4 H5 HB5 HC HRd hb2
      generalize W3.setCell ⟨w.heap.size + 1, 1, none⟩ (.slice p' (k + 1) c') = W4 at HN ⊢
      simp only [wpPh]
      go_wp2
      exact ⟨⟨k + 1, p', c', by omega, by go_num, HN.out⟩, by simp [intOf]; omega⟩
    · obtain rfl : k = len := by omega
      obtain ⟨hL, hB, h4, h5⟩ := HH.out
      have H4 := Hid.mk' h4
      have H5 := Hid.mk' h5
      have HB := Hid.mk' hB
      have HLL := Hid.mk' hL
      have c50 : wr.cell? ⟨w.heap.size + 1, 0, none⟩ = some (.int .i64 n) := Joins.cell_of_block h5 0
      have c51 : wr.cell? ⟨w.heap.size + 1, 1, none⟩ = some (.slice p k c) := Joins.cell_of_block h5 1
      have c40 : wr.cell? ⟨w.heap.size, 0, none⟩ = some (.int .i64 0) := Joins.cell_of_block h4 0
      have c41 : wr.cell? ⟨w.heap.size, 1, none⟩ = some (.slice none 0 0) := Joins.cell_of_block h4 1
      have f40 : wr.frozen? ⟨w.heap.size, 0, none⟩ = false := Joins.unfrozen_of_block h4 0
      have f41 : wr.frozen? ⟨w.heap.size, 1, none⟩ = false := Joins.unfrozen_of_block h4 1
      clear hL hB h4 h5 HH
      have HW : Hid (((wr.setCell ⟨w.heap.size, 0, none⟩ (.int .i64 n)).setCell ⟨w.heap.size, 1, none⟩ (.slice p k c)).heap[w.heap.size]? = some (.cells #[.int .i64 n, .slice p k c] 32)) := heap_setCell_same _ w.heap.size 1 _ 32 _ (heap_setCell_same wr w.heap.size 0 _ 32 _ H4.out)
      have HO : Hid (∀ g, g ≠ w.heap.size → ((wr.setCell ⟨w.heap.size, 0, none⟩ (.int .i64 n)).setCell ⟨w.heap.size, 1, none⟩ (.slice p k c)).heap[g]? = wr.heap[g]?) := fun g hg => (heap_setCell_other _ _ _ _ hg).trans (heap_setCell_other _ _ _ _ hg)
      have HBB : Hid (Below w.heap.size w ((wr.setCell ⟨w.heap.size, 0, none⟩ (.int .i64 n)).setCell ⟨w.heap.size, 1, none⟩ (.slice p k c))) := (HB.out.setCell (Nat.le_refl _) _).setCell (Nat.le_refl _) _
      have HSZ : Hid (wr.heap.size ≤ ((wr.setCell ⟨w.heap.size, 0, none⟩ (.int .i64 n)).setCell ⟨w.heap.size, 1, none⟩ (.slice p k c)).heap.size) := by show _ ≤ _; simp
      go_wp2
      generalize (wr.setCell ⟨w.heap.size, 0, none⟩ (.int .i64 n)).setCell ⟨w.heap.size, 1, none⟩ (.slice p k c) = W5 at *
      refine ret32 rfl w.heap.size #[.int .i64 n, .slice p k c] rfl HW.out rfl rfl ⟨p, ⟨c, rfl⟩, ?_, HBB.out⟩
      obtain ⟨p2, c2, hv, hi, _, hp⟩ := HLL.out.img
      injection hv with e1 e2 e3
      subst e1
      intro h0
      obtain ⟨b1, o1, h1, h2, h3⟩ := hi h0
      refine ⟨b1, o1, h1, Nat.lt_of_lt_of_le h2 HSZ.out, fun j x hx => ?_⟩
      have hne : b1 ≠ w.heap.size := by have := (hp b1 o1 h1).1; omega
      obtain ⟨y1, y2⟩ := h3 j x hx
      have hblk := HO.out b1 hne
      exact ⟨(World.cell?_of_block (a := ⟨b1, o1 + j * 1025, none⟩) hblk).trans y1, fun i v hv => (World.cell?_of_block (a := ⟨b1, o1 + j * 1025 + 1 + i, none⟩) hblk).trans (y2 i v hv)⟩
end Go.Proofs.Ytembocfghkmieaa
/- An image that is loaded: both disks stand for the same; no condition. -/
namespace Go.Proofs.Ytembocfghkmieaa
open Go.RowKit
theorem rises_rise {n : Int} : ∀ (l : List Cel) (a : Int), risesB n a l = true → Rise a l
  | [], _, _ => trivial
  | (i, x) :: t, a, h => by
    unfold risesB at h
    simp at h
    exact ⟨by omega, rises_rise t i h.2⟩
theorem rises_sound {n : Int} {l : List Cel} {a : Int} (ha : -1 ≤ a) (h : risesB n a l = true) (hc : ∀ c ∈ l, Can c.2) : Sound l := fun c hm => by
  have h1 := (rises_bounds l a ha h c hm).2.2
  refine ⟨hc c hm, fun q => ?_⟩
  rw [((hc c hm).blank).2 q] at h1
  cases h1
theorem may_rises {n : Int} {l : List Cel} (h : mayB n l = true) : bndB n = true ∧ risesB n (-1) l = true := by
  unfold mayB at h
  simpa using h
theorem load_get {n : Int} {l : List Cel} (h : mayB n l = true) (hc : ∀ c ∈ l, Can c.2) (k : Int) : ((loadV n l).held k).getD nought = atL l k := by
  unfold loadV
  rw [holdAll_get l (newV n) hc]
  exact lastV_at l (-1) (rises_rise l _ (may_rises h).2)
theorem celsQ_can {q : Nat → Cel} (h : ∀ r, Can (q r).2) (n : Nat) : ∀ c ∈ celsQ q n, Can c.2 := fun c hc => by
  unfold celsQ at hc
  obtain ⟨i, _, rfl⟩ := List.mem_map.1 hc
  exact h i
theorem loadV_same (n : Int) (l : List Cel) : (loadV n l).n = n ∧ (loadV n l).wait = [] ∧ (loadV n l).stopped = false ∧ (loadV n l).reads = 0 ∧ (loadV n l).made = 0 ∧ (loadV n l).claims = 0 ∧ (loadV n l).ops = [] := by
  obtain ⟨h, e⟩ := holdAll_same l (newV n)
  unfold loadV
  rw [e]
  exact ⟨rfl, rfl, rfl, rfl, rfl, rfl, rfl⟩
/-- What an image that may be makes of both disks. -/
theorem sim_load {n : Int} {l : List Cel} (h : mayB n l = true) (hc : ∀ c ∈ l, Can c.2) : Sim (rNew n l) (loadV n l) ∧ Cap (loadV n l) 0 := by
  obtain ⟨k1, k2⟩ := may_rises h
  obtain ⟨e1, e2, e3, e4, e5, e6, e7⟩ := loadV_same n l
  obtain ⟨hh, he⟩ := holdAll_same l (newV n)
  have hf : (loadV n l).fuse = -1 ∧ (loadV n l).claimed = false := by
    unfold loadV
    rw [he]
    exact ⟨rfl, rfl⟩
  refine ⟨⟨e1.symm, rises_rise l (-1) k2, rises_sound (Int.le_refl _) k2 hc, fun c hm => ?_, fun k => (load_get h hc k).symm, e2.symm, by rw [hf.1]; rfl, (fun q => by cases q), e3.symm, e7.symm, e5.symm, e4.symm, e6.symm, by rw [hf.2]; rfl, fun q => by rw [hf.2] at q; cases q⟩, ⟨by rw [e7]; exact Nat.le_refl _, by rw [e5]; exact Int.le_refl _, by rw [e4]; exact Int.le_refl _, by rw [e6]; exact Int.le_refl _⟩⟩
  rw [e1]
  exact ((may_bounds h).2 c hm).2.1
end Go.Proofs.Ytembocfghkmieaa
