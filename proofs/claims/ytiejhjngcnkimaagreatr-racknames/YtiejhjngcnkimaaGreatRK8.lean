/- Several texts joined, each with its own remark; no condition. -/
import Derived.Test.YtiejhjngcnkimaaGreatRK7
import Derived.Maps.AppendAt
import Derived.Maps.OwnOps
import Derived.Maps.OwnSet
import Derived.Deep.LoopGhost
import Derived.Test.YtiejhjngcnkimaaGreatRK6
import Derived.Test.YtiejhjngcnkimaaGreatRK2

/- Lists of numbers in memory, held against each other; no condition. -/
namespace Go.Proofs.YtiejhjngcnkimaaGreatRW.H
open Go.RowKit Go.Maps
def IntsAt (w : World) (p : Option Addr) (zs : List Int) : Prop := 0 < zs.length → ∃ b off, p = some ⟨b, off, none⟩ ∧ b < w.heap.size ∧ ∀ j x, zs[j]? = some x → w.cell? ⟨b, off + j, none⟩ = some (.int .i64 x)
theorem ints_of_row {w : World} {base : Nat} {v : Value} {zs : List Int} (h : w.ownsRow base 3 1 v zs.length (zs.map (Value.int .i64))) : ∃ p c, v = .slice p zs.length c ∧ IntsAt w p zs ∧ zs.length ≤ c ∧ ∀ b off, p = some ⟨b, off, none⟩ → base ≤ b := by
  rcases h.2 with ⟨h1, h2⟩ | ⟨g, cap, cur, h1, hg, hh, hc, _⟩
  · exact ⟨none, 0, by rw [h1, h2], fun q => by omega, by omega, fun _ _ q => by cases q⟩
  · refine ⟨_, cap, h1, fun _ => ⟨g, 0, rfl, (h.lt g (by rw [h1]; rfl)).2, fun j x hx => ?_⟩, hc, fun b off q => by injection q with q; injection q with q1; omega⟩
    have q := h.cells (g := g) (by rw [h1]; rfl) j (.int .i64 x) (by rw [List.getElem?_map, hx]; rfl)
    rw [Go.WideShapes.add_plain] at q
    exact q
theorem IntsAt.later {w W : World} {p : Option Addr} {l : List Int} (h : IntsAt w p l) (hb : Below w.heap.size w W) : IntsAt W p l := fun h0 => by
  obtain ⟨b, off, h1, h2, h3⟩ := h h0
  exact ⟨b, off, h1, Nat.lt_of_lt_of_le h2 hb.size, fun j x hx => (hb.cell (p := ⟨b, off + j, none⟩) h2).trans (h3 j x hx)⟩
theorem belowN {B : Nat} {w W : World} (h : Below B w W) (q : Nat) : Below B w (W.drewN q) := h.trans ⟨rfl, rfl, rfl, Nat.le_refl _, fun _ _ => rfl⟩
end Go.Proofs.YtiejhjngcnkimaaGreatRW.H
/- May a header have these targets: head's own look, with a set of those that were met; on a layout whose log has 32 to 256 blocks. -/
namespace Go.Proofs.YtiejhjngcnkimaaGreatRW.H
open Go.RowKit Go.Maps
abbrev MayP (lo hi m : Int) (ts : List Int) : Prop := (ts.length : Int) ≤ m ∧ (∀ t ∈ ts, lo ≤ t ∧ t < hi) ∧ ts.Nodup
def mayB (lo hi m : Int) (ts : List Int) : Bool := decide (MayP lo hi m ts)
abbrev WfI (ts : List Int) : Prop := ∀ t ∈ ts, (Lit.int .i64 t).wf = true
theorem lawK : Keyed Tryz.prog 3 := int_keyed Tryz.underlying3
theorem zero70 (w : World) : (zeroValue 310).run Tryz.prog w = .ok (.agg #[]) w := by kernel_rfl
def Sd (ts : List Int) : DataW Unit := setOf (.agg []) (ts.map (Lit.int .i64))
theorem any_int (x : Int) : ∀ l : List Int, l.any ((fun y : Lit => y.sameKey (.int .i64 x)) ∘ Lit.int .i64) = l.contains x
  | [] => rfl
  | a :: r => by
    rw [List.any_cons, List.contains_cons, any_int x r]
    congr 1
    show decide (IntKind.i64 = IntKind.i64 ∧ a = x) = (x == a)
    by_cases e : a = x
    · subst e
      simp
    · have e' : ¬ x = a := fun h => e h.symm
      simp [e, e']
theorem has_Sd (ts : List Int) (x : Int) : Maps.has (Sd ts) (.int .i64 x) = ts.contains x := by
  unfold Sd
  rw [has_setOf _ _ _ (fun y hy => by obtain ⟨_, _, rfl⟩ := List.mem_map.1 hy; trivial), List.any_map]
  exact any_int x _
theorem Sd_snoc (ts : List Int) (x : Int) : Sd (ts ++ [x]) = (Sd ts).put (.int .i64 x) (.agg []) := by
  unfold Sd
  rw [List.map_append]
  exact setOf_snoc _ _ _
theorem makeHint (n : Nat) (w : World) : (Instr.makeMap 309 (some (.int .i64 (n : Int)))).run Tryz.prog w = .ok (.map (some w.heap.size)) (w.alloc (.map #[] 0)) := by
  simp [Instr.makeMap, run_underlying Tryz.underlying309, go_sem]
set_option maxRecDepth 20000 in
theorem most_any (b l i a c d e f g : Int) (w : World) (hl : 32 ≤ l ∧ l ≤ 256) :
    Calls Tryz.prog 207 #[.agg (lay9 b l i a c d e f g)] w fun e' w' => e' = .returned (.int .i64 (l - 1)) ∧ Below w.heap.size w w' := by
  unfold lay9
  go_enter Tryz.func207, Tryz.ntmps207
  go_wp2
  go_ret
  refine ⟨?_, below_new _ _⟩
  congr 2
set_option maxRecDepth 20000 in
set_option maxHeartbeats 2000000 in
theorem may_any (b l i a c d e f g : Int) (ts : List Int) (p : Option Addr) (cap : Nat) (w : World) (hl : 32 ≤ l ∧ l ≤ 256) (hlen : ts.length < 9223372036854775807) (hts : IntsAt w p ts) (hwf : WfI ts) :
    Calls Tryz.prog 158 #[.agg (lay9 b l i a c d e f g), .slice p ts.length cap] w fun e' w' => e' = .returned (.bool (mayB c b (l - 1) ts)) ∧ Below w.heap.size w w' := by
  have hc := fun w => most_any b l i a c d e f g w hl
  have hmm := makeHint
  have e1 : (w.alloc (.cells (lay9 b l i a c d e f g) 61)).heap[w.heap.size]? = some (.cells (lay9 b l i a c d e f g) 61) := heap_alloc_new _ _
  have e2 := fun (W1 : World) (h : W1.heap[w.heap.size]? = some (.cells (lay9 b l i a c d e f g) 61)) => lay_cells h
  obtain ⟨n, hn⟩ : ∃ n, ts.length = n := ⟨_, rfl⟩
  have HT : Hid (IntsAt w p ts ∧ WfI ts ∧ ts.length = n) := ⟨hts, hwf, hn⟩
  rw [hn]
  rw [hn] at hlen
  clear hts hwf hn
  obtain ⟨m, hm⟩ : ∃ m, m = l - 1 := ⟨_, rfl⟩
  have hm2 : 27 ≤ m ∧ m ≤ 255 := by omega
  rw [← hm]
  simp only [← hm] at hc
  clear hm hl
  by_cases hbig : (n : Int) > m
  · have er : mayB c b m ts = false := decide_eq_false fun q => by have := q.1; have := HT.out.2.2; omega
    rw [er]
    have g0 : decide (m < (n : Int)) = true := decide_eq_true hbig
    unfold lay9 at *
    go_enter Tryz.func158, Tryz.ntmps158
    go_wp2_with (first | (go_at_call 207; fail))
    refine (hc _).mono ?_
    rintro e' W1 ⟨rfl, hb1⟩
    have HB : Hid (Below w.heap.size w W1) := below_next (below_new _ _) hb1
    clear hb1 hc e1 e2 hmm
    go_wp2
    go_ret
    exact ⟨rfl, HB.out⟩
  · have g0 : decide (m < (n : Int)) = false := decide_eq_false hbig
    generalize hq : mayB c b m ts = res
    have HQ : Hid (mayB c b m ts = res) := hq
    clear hq
    unfold lay9 at *
    go_enter Tryz.func158, Tryz.ntmps158
    go_wp2_with (first | (go_at_call 207; fail))
    refine (hc _).mono ?_
    rintro e' W1 ⟨rfl, hb1⟩
    have HB : Hid (Below w.heap.size w W1 ∧ W1.heap[w.heap.size]? = some (.cells #[.int .i64 b, .int .i64 l, .int .i64 i, .int .i64 a, .int .i64 c, .int .i64 d, .int .i64 e, .int .i64 f, .int .i64 g] 61) ∧ w.heap.size < W1.heap.size) :=
      ⟨below_next (below_new _ _) hb1, heap_kept e1 hb1, by have := hb1.size; simp at this; omega⟩
    clear hb1 hc e1
    go_wp2
    go_loopw [20] (fun s20 wr => ∃ k : Nat, k ≤ n ∧ s20 = .int .i64 k ∧ Hid (wr.ownsMap Tryz.prog 3 unitElem W1.heap.size k (Sd (ts.take k))) ∧ Hid (Below W1.heap.size W1 wr) ∧ Hid ((∀ t ∈ ts.take k, c ≤ t ∧ t < b) ∧ (ts.take k).Nodup))
      (fun s20 _ => n - (intOf s20).toNat)
    case atStart => exact ⟨0, by omega, rfl, World.ownsMap_made _ _ _ _, below_new _ _, by simp; exact trivial⟩
    case round =>
      obtain ⟨k, hk, rfl, Hown, HW, HG⟩ := hrel
      by_cases hk2 : (k : Int) < n
      · obtain ⟨hts, hwf, hn⟩ := HT.out
        have hx : ts[k]? = some ts[k] := List.getElem?_eq_getElem (by omega)
        have htk : ts.take (k + 1) = ts.take k ++ [ts[k]] := by rw [List.take_add_one, hx]; rfl
        have hmem : ts[k] ∈ ts := List.getElem_mem _
        have hxw := hwf _ hmem
        obtain ⟨b1, o1, rfl, l1, C1⟩ := hts (by omega)
        generalize ts[k] = x at hx htk hmem hxw
        have hs1 := HB.out.1.size
        have q1 : wr.cell? ⟨b1, o1 + k, none⟩ = some (.int .i64 x) := (HW.out.cell (p := ⟨b1, o1 + k, none⟩) (by show b1 < W1.heap.size; omega)).trans ((HB.out.1.cell (p := ⟨b1, o1 + k, none⟩) l1).trans (C1 k x hx))
        obtain ⟨c0, c1, c2, c3, c4, c5, c6, c7, c8, hlt⟩ := e2 wr (heap_kept HB.out.2.1 HW.out)
        have hkey : keyOf Tryz.prog 3 (.int .i64 x) = some (.int .i64 x) := keyOf_int_mk Tryz.underlying3 hxw
        have hhas := has_Sd (ts.take k) x
        have hown := Hown.out
        have hr : (x ∈ ts.take k ∨ x < c ∨ b ≤ x) → res = false := fun h => by
          rw [← HQ.out]
          refine decide_eq_false fun q => ?_
          rcases h with h | h | h
          · have q3 := q.2.2
            rw [← List.take_append_drop (k + 1) ts, htk] at q3
            exact (List.nodup_append.1 (List.nodup_append.1 q3).1).2.2 x h x (by simp) rfl
          · have := q.2.1 x hmem; omega
          · have := q.2.1 x hmem; omega
        have hD : Sd (ts.take (k + 1)) = (Sd (ts.take k)).put (.int .i64 x) (.agg []) := by rw [htk]; exact Sd_snoc _ _
        generalize Sd (ts.take k) = D at *
        have HX : Hid (ts.take (k + 1) = ts.take k ++ [x] ∧ Sd (ts.take (k + 1)) = D.put (.int .i64 x) (.agg [])) := ⟨htk, hD⟩
        have HWB : Hid (Below w.heap.size w wr) := HB.out.1.trans (HW.out.mono hs1)
        clear e2 hx htk hmem hxw hwf hts hn C1 hD
        by_cases h1 : (ts.take k).contains x = true
        · have hres := hr (.inl (List.contains_iff_mem.1 h1))
          rw [h1] at hhas
          subst hres
          clear hr h1 HQ
          go_wp2_with (first
            | (at_lookup; refine wpList_lookup_own_unit _ rfl _ _ 309 rfl 3 310 lawK Tryz.underlying309 (zero70 _) W1.heap.size k _ rfl hown _ _ rfl hkey ?_; rw [hhas])
            | go_in)
          go_ret
          exact ⟨rfl, HWB.out.alloc HWB.out.size _⟩
        · have h1 : (ts.take k).contains x = false := by simpa using h1
          rw [h1] at hhas
          by_cases h2 : x < c ∨ b ≤ x
          · have hres := hr (.inr h2)
            subst hres
            clear hr h1 HQ
            rcases h2 with h2 | h2
            · have g2 : decide (x < c) = true := decide_eq_true h2
              clear h2
              go_wp2_with (first
                | (at_lookup; refine wpList_lookup_own_unit _ rfl _ _ 309 rfl 3 310 lawK Tryz.underlying309 (zero70 _) W1.heap.size k _ rfl hown _ _ rfl hkey ?_; rw [hhas])
                | go_in)
              go_ret
              exact ⟨rfl, HWB.out.alloc HWB.out.size _⟩
            · have g3 : decide (b ≤ x) = true := decide_eq_true h2
              clear h2
              go_wp2_with (first
                | (at_lookup; refine wpList_lookup_own_unit _ rfl _ _ 309 rfl 3 310 lawK Tryz.underlying309 (zero70 _) W1.heap.size k _ rfl hown _ _ rfl hkey ?_; rw [hhas])
                | go_in)
              all_goals
                go_ret
                exact ⟨rfl, HWB.out.alloc HWB.out.size _⟩
          · have g2 : decide (x < c) = false := decide_eq_false (by omega)
            have g3 : decide (b ≤ x) = false := decide_eq_false (by omega)
            have HG2 : Hid ((∀ t ∈ ts.take (k + 1), c ≤ t ∧ t < b) ∧ (ts.take (k + 1)).Nodup) := by
              have h1' : x ∉ ts.take k := fun q => by rw [List.contains_iff_mem.2 q] at h1; cases h1
              rw [show ts.take (k + 1) = ts.take k ++ [x] from HX.out.1]
              refine ⟨fun t ht => ?_, List.nodup_append.2 ⟨HG.out.2, by simp, fun y hy z hz e => ?_⟩⟩
              · rcases List.mem_append.1 ht with ht | ht
                · exact HG.out.1 t ht
                · rw [List.mem_singleton.1 ht]; omega
              · rw [List.mem_singleton.1 hz] at e; exact h1' (e ▸ hy)
            clear hr h1 h2
            have hkm : k < maxLen := by unfold maxLen; omega
            go_wp2_with (first
              | (at_lookup; refine wpList_lookup_own_unit _ rfl _ _ 309 rfl 3 310 lawK Tryz.underlying309 (zero70 _) W1.heap.size k _ rfl hown _ _ rfl hkey ?_; rw [hhas])
              | (at_mapUpdate; refine wpList_mapUpdate_own _ rfl _ _ _ 309 rfl 3 310 lawK Tryz.underlying309 (unitElem (H := Unit)) W1.heap.size k _ rfl (hown.alloc _) hkm _ _ _ rfl rfl hkey _ [] unitElem_mk ?_; intro w1 hown1 hgrow1)
              | go_in)
            go_roundw
            case rel =>
              refine ⟨k + 1, by omega, by go_num, ?_, ?_, HG2.out⟩
              · have := HX.out.2
                rw [this]
                exact hown1
              · exact (HW.out.alloc HW.out.size _).grown hgrow1 (by have := HW.out.size; simp; omega) (fun j hj => by cases hj; exact Nat.le_refl _)
            case measure => simp [intOf]; omega
      · obtain rfl : k = n := by omega
        have hres : res = true := by
          rw [← HQ.out]
          have hn := HT.out.2.2
          have hg := HG.out
          rw [List.take_of_length_le (by omega)] at hg
          exact decide_eq_true ⟨by omega, hg.1, hg.2⟩
        subst hres
        have HWB : Hid (Below w.heap.size w wr) := HB.out.1.trans (HW.out.mono HB.out.1.size)
        clear HQ e2
        go_wp2
        go_ret
        exact ⟨rfl, HWB.out⟩
end Go.Proofs.YtiejhjngcnkimaaGreatRW.H

/- The document's own U16, U32: the number of the bytes at a place, or nought; for every block of bytes and every place. -/
namespace Go.Proofs.YtiejhjngcnkimaaGreatRW.H
open Go.RowKit
end Go.Proofs.YtiejhjngcnkimaaGreatRW.H
/- The document's own SetU16, SetU32: the block in which a number is laid; for every block, place and number. -/
namespace Go.Proofs.YtiejhjngcnkimaaGreatRW.H
open Go.RowKit
end Go.Proofs.YtiejhjngcnkimaaGreatRW.H
/- A block as numbers of four bytes, one behind the other; plain. -/
namespace Go.Proofs.YtiejhjngcnkimaaGreatRW.H
open Go.RowKit
def wordF (xs : List Int) : Nat → Int := fun j => xs.getD (j / 4) 0 / 256 ^ (j % 4) % 256
abbrev U32 (x : Int) : Prop := 0 ≤ x ∧ x < 4294967296
abbrev AllU (xs : List Int) : Prop := ∀ x ∈ xs, U32 x
theorem wordF_nil : wordF [] = nought := by
  funext j; unfold wordF nought; simp
theorem wordF_at (xs : List Int) (i r : Nat) (hr : r < 4) : wordF xs (4 * i + r) = xs.getD i 0 / 256 ^ r % 256 := by
  unfold wordF
  rw [show (4 * i + r) / 4 = i by omega, show (4 * i + r) % 4 = r by omega]
theorem wordF_snoc (xs : List Int) (x : Int) (hx : U32 x) (hl : xs.length < 256) : put (wordF xs) ((4 * xs.length : Nat) : Int) 4 x = wordF (xs ++ [x]) := by
  rw [put_in _ _ _ _ (by omega), put4 _ _ _ hx]
  funext j
  obtain ⟨i, r, hr, rfl⟩ : ∃ i r, r < 4 ∧ j = 4 * i + r := ⟨j / 4, j % 4, by omega, by omega⟩
  rw [wordF_at _ _ _ hr]
  have hx0 := hx.1
  have hx1 := hx.2
  by_cases hi : i = xs.length
  · subst hi
    have e : (xs ++ [x]).getD xs.length 0 = x := by simp
    rw [e]
    unfold upd
    have : r = 0 ∨ r = 1 ∨ r = 2 ∨ r = 3 := by omega
    rcases this with rfl | rfl | rfl | rfl
    · rw [if_neg (by omega), if_neg (by omega), if_neg (by omega), if_pos (by omega)]; simp
    · rw [if_neg (by omega), if_neg (by omega), if_pos (by omega)]; simp
    · rw [if_neg (by omega), if_pos (by omega)]; simp
    · rw [if_pos (by omega)]
      show x / 16777216 = x / 16777216 % 256
      omega
  · have e : (xs ++ [x]).getD i 0 = xs.getD i 0 := by
      rw [List.getD_eq_getElem?_getD, List.getD_eq_getElem?_getD]
      by_cases h : i < xs.length
      · rw [List.getElem?_append_left h]
      · rw [List.getElem?_eq_none (by simp; omega), List.getElem?_eq_none (by omega)]
    rw [e]
    unfold upd
    rw [if_neg (by omega), if_neg (by omega), if_neg (by omega), if_neg (by omega)]
    exact wordF_at _ _ _ hr
def tgts (f : Nat → Int) (n : Nat) : List Int := (List.range n).map fun i => numN f (4 * (i + 1)) 4
theorem tgts_len (f : Nat → Int) (n : Nat) : (tgts f n).length = n := by simp [tgts]
theorem tgts_u (f : Nat → Int) (hf : ∀ i, 0 ≤ f i ∧ f i ≤ 255) (n : Nat) : AllU (tgts f n) := fun x hx => by
  obtain ⟨i, _, rfl⟩ := List.mem_map.1 hx
  exact numN_bd f hf 4 _
theorem tgts_get (f : Nat → Int) (n i : Nat) (h : i < n) : (tgts f n)[i]? = some (numN f (4 * (i + 1)) 4) := by simp [tgts, h]
theorem u_wf {x : Int} (h : U32 x) : (Lit.int .i64 x).wf = true := WalkArith.wf_i64 (by omega)
theorem allU_wf {xs : List Int} (h : AllU xs) : WfI xs := fun t ht => u_wf (h t ht)
def headF (ts : List Int) : Nat → Int := wordF ((ts.length : Int) :: ts)
end Go.Proofs.YtiejhjngcnkimaaGreatRW.H
/- Encode of head: the header's block, or none; for every layout and every list of targets. -/
namespace Go.Proofs.YtiejhjngcnkimaaGreatRW.H
open Go.RowKit
theorem load30L (w : World) (g : Nat) (f : Nat → Int) (h : w.heap[g]? = some (.cells (blk f) 85)) : (loadVar 85 ⟨g, 0, none⟩).run Tryz.prog w = .ok (.agg (blk f)) w :=
  run_loadVar_row w g 85 85 (blk f) (0, 0) _ h Tryz.underlying85 rfl (by rw [blk_size]; exact size25)
theorem wpOrd_loadF {ops : Array Oper} {Q : Exit → Act → World → Prop} {S : World → Prop} {r : List (Bool × Oper)} {a : Act} {w : World} {o : Oper} (hw : Region.wanted o (yielded ops a.tmps) = true)
    (x : Operand) (ho : o.op = .load 85 x) (g : Nat) (hx : a.eval x = .pointer (some ⟨g, 0, none⟩)) (f : Nat → Int) (hg : w.heap[g]? = some (.cells (blk f) 85))
    (h : S w ∧ wpOrd Tryz.prog ops Q S r (a.put o.dst (.agg (blk f))) w) : wpOrd Tryz.prog ops Q S ((false, o) :: r) a w := by
  simp only [wpOrd, hw, if_true]
  unfold Oper.wp execOp
  simp only [ho, hx, Instr.loadAt, Instr.sureAddr, Sem.run_bind, Sem.run_pure, Result.andThen_ok, run_loadVar_row w g 85 85 (blk f) (0, 0) _ hg Tryz.underlying85 rfl (by rw [blk_size]; exact size25)]
  exact h
theorem wpOrd_storeB {ops : Array Oper} {Q : Exit → Act → World → Prop} {S : World → Prop} {r : List (Bool × Oper)} {a : Act} {w : World} {o : Oper} (hw : Region.wanted o (yielded ops a.tmps) = true)
    (x y : Operand) (ho : o.op = .store 85 x y) (g : Nat) (f f0 : Nat → Int) (hx : a.eval x = .pointer (some ⟨g, 0, none⟩)) (hy : a.eval y = .agg (blk f)) (hg : w.heap[g]? = some (.cells (blk f0) 85))
    (h : S (w.setRow g (blk f)) ∧ wpOrd Tryz.prog ops Q S r (a.put o.dst undef) (w.setRow g (blk f))) : wpOrd Tryz.prog ops Q S ((false, o) :: r) a w := by
  simp only [wpOrd, hw, if_true]
  unfold Oper.wp execOp
  simp only [ho, hx, hy, Instr.storeAt, Instr.sureAddr, Sem.run_bind, Sem.run_pure, Result.andThen_ok, run_storeVar_row w g 85 85 (blk f0) (blk f) hg (by rw [blk_size]; exact size25) (by rw [blk_size, blk_size]) (blk_one f)]
  exact h
theorem place_any (k : Int) (w : World) (h : 0 ≤ k ∧ k ≤ 300) : Calls Tryz.prog 160 #[.int .i64 k] w fun e w' => e = .returned (.int .i64 (4 * (k + 1))) ∧ w' = w := by
  go_enter Tryz.func160, Tryz.ntmps160
  go_wp2
  go_ret
  exact ⟨by congr 2, rfl⟩
theorem heap3o (w : World) (A B C : Obj) : (((w.alloc A).alloc B).alloc C).heap[w.heap.size]? = some A := by
  rw [heap_alloc_old _ _ (by simp; omega)]; exact heap_alloc2_old _ _ _
theorem cell_one {w : World} {g : Nat} {v : Value} {t : TypeId} (h : w.heap[g]? = some (.cells #[v] t)) : w.cell? ⟨g, 0, none⟩ = some v := by
  rw [cell_of_row w g _ _ t _ h]; rfl
theorem below3 (w : World) (A B C : Obj) : Below w.heap.size w (((w.alloc A).alloc B).alloc C) := bel_al (bel_al (below_new _ _) _) _
end Go.Proofs.YtiejhjngcnkimaaGreatRW.H
/- Encode of head where the header may be; no condition. -/
namespace Go.Proofs.YtiejhjngcnkimaaGreatRW.H
open Go.RowKit
set_option maxRecDepth 20000 in
set_option maxHeartbeats 2000000 in
theorem enc_ok (b l i a c d e f g : Int) (ts : List Int) (p : Option Addr) (cap : Nat) (w : World) (hb : I64 b) (hs : standsB b l i a c d e f g = true) (hl : 32 ≤ l ∧ l ≤ 256) (hts : IntsAt w p ts) (hu : AllU ts) (hn : ts.length ≤ 255)
    (hm : mayB c b (l - 1) ts = true) :
    Calls Tryz.prog 105 #[.agg (lay9 b l i a c d e f g), .agg #[.slice p ts.length cap]] w fun e' w' => e' = .returned (.tuple #[.agg (blk (headF ts)), .int .i64 0]) ∧ Below w.heap.size w w' := by
  have hc := fun w => hstands_any b l i a c d e f g w hb
  rw [hs] at hc
  have hM := fun W (h : IntsAt W p ts) => may_any b l i a c d e f g ts p cap W hl (by omega) h (allU_wf hu)
  rw [hm] at hM
  clear hs hm
  have z25 := zero25
  have hsz : (lay9 b l i a c d e f g).size = 9 := rfl
  obtain ⟨n, hnn⟩ : ∃ n, ts.length = n := ⟨_, rfl⟩
  have HT : Hid (IntsAt w p ts ∧ AllU ts ∧ ts.length = n) := ⟨hts, hu, hnn⟩
  unfold headF
  rw [hnn] at hn hM ⊢
  clear hts hu hnn
  generalize lay9 b l i a c d e f g = L at *
  have HM : Hid (∀ W, IntsAt W p ts → Calls Tryz.prog 158 #[.agg L, .slice p n cap] W fun e' w' => e' = .returned (.bool true) ∧ Below W.heap.size W w') := hM
  clear hM
  have HS0 : Hid (put nought 0 4 (n : Int) = wordF [(n : Int)]) := by
    have := wordF_snoc [] (n : Int) ⟨by omega, by omega⟩ (by simp)
    rw [wordF_nil] at this
    exact this
  go_enter Tryz.func105, Tryz.ntmps105
  go_wp2_with (first | refine wpList_loadL rfl _ rfl _ rfl _ hsz (heap3o _ _ _ _) ?_ | (go_at_call 157; fail))
  refine (hc _).mono ?_
  rintro e' W1 ⟨rfl, hb1⟩
  have h0 := heap_kept (heap3o w _ _ _) hb1
  have h1 := heap_kept (heap3 w _ _ _) hb1
  have h2 := heap_kept (heap3n w _ _ _) hb1
  have HB : Hid (Below w.heap.size w W1) := below_next (below3 _ _ _ _) hb1
  clear hb1 hc
  have h1c := cell_one h1
  go_wp2_with (first | refine wpList_loadL rfl _ rfl _ rfl _ hsz h0 ?_ | (go_at_call 158; fail))
  refine (HM.out _ (HT.out.1.later HB.out)).mono ?_
  rintro e' W2 ⟨rfl, hb2⟩
  have h3 := heap_kept h2 hb2
  have h4 := heap_kept h1 hb2
  have HB2 : Hid (Below w.heap.size w W2) := below_next HB.out hb2
  clear hb2 HM h0 h1 h2 HB h1c
  have h4c := cell_one h4
  have hwr : IntKind.u32.wrap (n : Int) = n := by rw [wrap_u32]; omega
  go_wp2_with (first | (go_at_call 159; fail))
  refine (set32_any nought 0 (n : Int) _ (by omega)).mono ?_
  rintro e' W3 ⟨rfl, hb3⟩
  rw [HS0.out]
  have h5 := heap_kept h3 hb3
  have h6 := heap_kept h4 hb3
  have HB3 : Hid (Below w.heap.size w W3) := below_next HB2.out hb3
  have hlt : w.heap.size + 2 < W3.heap.size := (Array.getElem?_eq_some_iff.1 h5).1
  clear hb3 h3 h4 HB2 h4c
  have h6c := cell_one h6
  have h6d := cell_one (heap_kept h6 (below_new W3 (.cells (blk (wordF [(n : Int)])) 85)))
  go_wp2_with (first | refine wpList_store25_new rfl _ _ rfl _ _ rfl rfl ?_)
  go_loopw [28] (fun s28 wx => ∃ k : Nat, k ≤ n ∧ s28 = .int .i64 k ∧ wx.heap[W3.heap.size]? = some (.cells (blk (wordF ((n : Int) :: ts.take k))) 85) ∧ Below W3.heap.size W3 wx) (fun s28 _ => n - (intOf s28).toNat)
  case atStart => exact ⟨0, by omega, rfl, heap_alloc_new _ _, below_new _ _⟩
  case round =>
    obtain ⟨k, hk, rfl, hg, hbel⟩ := hrel
    have HW : Hid _ := hbel
    clear hbel
    by_cases hk2 : (k : Int) < n
    · obtain ⟨hts, hu, hnn⟩ := HT.out
      have hx : ts[k]? = some ts[k] := List.getElem?_eq_getElem (by omega)
      have htk : ts.take (k + 1) = ts.take k ++ [ts[k]] := by rw [List.take_add_one, hx]; rfl
      have hxu := hu _ (List.getElem_mem (by omega : k < ts.length))
      obtain ⟨b1, o1, rfl, l1, C1⟩ := hts (by omega)
      generalize ts[k] = x at hx htk hxu
      have q1 : wr.cell? ⟨b1, o1 + k, none⟩ = some (.int .i64 x) := (HW.out.cell (p := ⟨b1, o1 + k, none⟩) (by show b1 < W3.heap.size; omega)).trans ((HB3.out.cell (p := ⟨b1, o1 + k, none⟩) l1).trans (C1 k x hx))
      have hst := fun (w : World) => set32_any (wordF ((n : Int) :: ts.take k)) (4 * ((k : Int) + 1)) x w hxu
      have hpl := fun (w : World) => place_any k w (by omega)
      have hsn := wordF_snoc ((n : Int) :: ts.take k) x hxu (by simp; omega)
      rw [show (((n : Int) :: ts.take k).length : Nat) = k + 1 by simp; omega, List.cons_append, ← htk] at hsn
      rw [show 4 * ((k : Int) + 1) = ((4 * (k + 1) : Nat) : Int) by omega, hsn, show ((4 * (k + 1) : Nat) : Int) = 4 * ((k : Int) + 1) by omega] at hst
      have HST : Hid _ := hst
      have HPL : Hid _ := hpl
      have hwx : IntKind.u32.wrap x = x := by rw [wrap_u32]; omega
      generalize wordF ((n : Int) :: ts.take k) = F at *
      generalize hF' : wordF ((n : Int) :: ts.take (k + 1)) = F' at *
      have HF' : Hid _ := hF'
      clear hst hpl hsn hx htk hu hts hnn C1 hF'
      go_wp2
      refine wp_region_fork (S := fun _ => True) [1, 3, 4] 0 2 [(5, false), (6, false)] (by kernel_rfl) rfl (by kernel_rfl) (fun d _ _ _ _ h => by cases d <;> exact h) trivial ?_
      refine wpFork_yield (v := .int .i64 (k : Int)) rfl rfl (fun u _ => by simp [execOp, Act.eval]) ?_
      simp only [Act.put, List.setIfInBounds_toArray, List.set_cons_succ, List.set_cons_zero]
      refine wpFork_yield (v := .int .i64 x) rfl rfl (fun u _ => by simp [execOp, Act.eval]) ?_
      simp only [Act.put, List.setIfInBounds_toArray, List.set_cons_succ, List.set_cons_zero]
      refine wpFork_yield (v := .int .u32 x) rfl rfl (fun u _ => by go_simp) ?_
      simp only [Act.put, List.setIfInBounds_toArray, List.set_cons_succ, List.set_cons_zero]
      have hg0 : wr.drew.heap[W3.heap.size]? = some (.cells (blk F) 85) := hg
      have HBd : Hid (Below W3.heap.size W3 wr.drew) := HW.out.drew
      clear hg HW q1
      generalize wr.drew = wd at *
      refine wpFork_nil rfl rfl ?_ ?_
      · simp only [inOrd, List.getElem?_cons_zero, List.getElem?_cons_succ]
        refine wpOrd_loadF rfl _ rfl _ rfl _ hg0 ⟨trivial, ?_⟩
        simp only [Act.put, List.setIfInBounds_toArray, List.set_cons_succ, List.set_cons_zero]
        refine wpOrd_call rfl 160 _ _ rfl Tryz.call160 [.int .i64 (k : Int)] rfl ?_
        refine (HPL.out _).mono ?_
        rintro e' X ⟨rfl, rfl⟩
        refine ⟨_, rfl, trivial, ?_⟩
        simp only [Act.put, List.setIfInBounds_toArray, List.set_cons_succ, List.set_cons_zero]
        refine wpOrd_call rfl 159 _ _ rfl Tryz.call159 [.agg (blk F), .int .i64 (4 * ((k : Int) + 1)), .int .u32 x] rfl ?_
        refine (HST.out _).mono ?_
        rintro e' X ⟨rfl, hbx⟩
        refine ⟨_, rfl, trivial, ?_⟩
        simp only [Act.put, List.setIfInBounds_toArray, List.set_cons_succ, List.set_cons_zero]
        have hg1 := heap_kept hg0 hbx
        have HB1 : Hid (Below W3.heap.size W3 X) := below_next HBd.out hbx
        refine wpOrd_storeB rfl _ _ rfl W3.heap.size F' _ rfl rfl hg1 ⟨trivial, ?_⟩
        refine wpOrd_nil ?_
        have hg2 := setRow_heap X W3.heap.size (blk F) (blk F') 85 (0, 0) hg1
        have HB2' : Hid (Below W3.heap.size W3 (X.setRow W3.heap.size (blk F'))) := below_setRow HB1.out (Nat.le_refl _) _
        simp only [Act.put]
        generalize X.setRow W3.heap.size (blk F') = Y at hg2 HB2' ⊢
        clear hg1 hg0 HB1 HBd hbx HST HPL
        go_wp2
        exact ⟨⟨k + 1, by omega, by go_num, by rw [HF'.out]; exact hg2, HB2'.out⟩, by simp [intOf]; omega⟩
      · simp only [inOrd, List.getElem?_cons_zero, List.getElem?_cons_succ]
        refine wpOrd_call rfl 160 _ _ rfl Tryz.call160 [.int .i64 (k : Int)] rfl ?_
        refine (HPL.out _).mono ?_
        rintro e' X ⟨rfl, rfl⟩
        refine ⟨_, rfl, trivial, ?_⟩
        simp only [Act.put, List.setIfInBounds_toArray, List.set_cons_succ, List.set_cons_zero]
        refine wpOrd_loadF rfl _ rfl _ rfl _ hg0 ⟨trivial, ?_⟩
        simp only [Act.put, List.setIfInBounds_toArray, List.set_cons_succ, List.set_cons_zero]
        refine wpOrd_call rfl 159 _ _ rfl Tryz.call159 [.agg (blk F), .int .i64 (4 * ((k : Int) + 1)), .int .u32 x] rfl ?_
        refine (HST.out _).mono ?_
        rintro e' X ⟨rfl, hbx⟩
        refine ⟨_, rfl, trivial, ?_⟩
        simp only [Act.put, List.setIfInBounds_toArray, List.set_cons_succ, List.set_cons_zero]
        have hg1 := heap_kept hg0 hbx
        have HB1 : Hid (Below W3.heap.size W3 X) := below_next HBd.out hbx
        refine wpOrd_storeB rfl _ _ rfl W3.heap.size F' _ rfl rfl hg1 ⟨trivial, ?_⟩
        refine wpOrd_nil ?_
        have hg2 := setRow_heap X W3.heap.size (blk F) (blk F') 85 (0, 0) hg1
        have HB2' : Hid (Below W3.heap.size W3 (X.setRow W3.heap.size (blk F'))) := below_setRow HB1.out (Nat.le_refl _) _
        simp only [Act.put]
        generalize X.setRow W3.heap.size (blk F') = Y at hg2 HB2' ⊢
        clear hg1 hg0 HB1 HBd hbx HST HPL
        go_wp2
        exact ⟨⟨k + 1, by omega, by go_num, by rw [HF'.out]; exact hg2, HB2'.out⟩, by simp [intOf]; omega⟩
    · obtain rfl : k = n := by omega
      rw [List.take_of_length_le (by have := HT.out.2.2; omega)] at hg
      have h5' := (HW.out.block _ hlt).trans h5
      generalize hF : wordF ((k : Int) :: ts) = F at *
      have HF : Hid _ := hF
      clear hk HT hF
      go_wp2_with (first | refine wpList_load25 rfl _ rfl _ rfl _ hg ?_ | refine wpList_store25 rfl _ _ rfl _ _ rfl rfl _ h5' ?_)
      exact retCT rfl (w.heap.size + 2) _ rfl (load30L _ _ _ (setRow_heap _ _ _ _ _ _ h5')) rfl ⟨by rw [HF.out]; rfl, below_setRow (below_next HB3.out HW.out) (by omega) _⟩
end Go.Proofs.YtiejhjngcnkimaaGreatRW.H
