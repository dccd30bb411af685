/- Several texts joined, each with its own remark; no condition. -/
import Derived.Test.YtiadlcjdpbkbkaaGreatJ4
import Derived.Maps.AppendAt
import Derived.Maps.OwnOps
import Derived.Maps.OwnSet
import Derived.Deep.LoopGhost
import Derived.Test.YtiadlcjdpbkbkaaGreatJ1
import Derived.Laws.MakeOwn
import Derived.Laws.CopyOwn
import Derived.Laws.AppendOwnNone
import Derived.Laws.OwnMore

/- Lists of numbers in memory, held against each other; no condition. -/
namespace Go.Proofs.YtiadlcjdpbkbkaaGreatD.H
open Go.RowKit Go.Maps
/-- Numbers that lie in memory. -/
def IntsAt (w : World) (p : Option Addr) (zs : List Int) : Prop := 0 < zs.length → ∃ b off, p = some ⟨b, off, none⟩ ∧ b < w.heap.size ∧ ∀ j x, zs[j]? = some x → w.cell? ⟨b, off + j, none⟩ = some (.int .i64 x)
theorem ints_of_row {w : World} {base : Nat} {v : Value} {zs : List Int} (h : w.ownsRow base 3 1 v zs.length (zs.map (Value.int .i64))) : ∃ p c, v = .slice p zs.length c ∧ IntsAt w p zs ∧ zs.length ≤ c ∧ ∀ b off, p = some ⟨b, off, none⟩ → base ≤ b := by
  rcases h.2 with ⟨h1, h2⟩ | ⟨g, cap, cur, h1, hg, hh, hc, _⟩
  · exact ⟨none, 0, by rw [h1, h2], fun q => by omega, by omega, fun _ _ q => by cases q⟩
  · refine ⟨_, cap, h1, fun _ => ⟨g, 0, rfl, (h.lt g (by rw [h1]; rfl)).2, fun j x hx => ?_⟩, hc, fun b off q => by injection q with q; injection q with q1; omega⟩
    have q := h.cells (g := g) (by rw [h1]; rfl) j (.int .i64 x) (by rw [List.getElem?_map, hx]; rfl)
    rw [Go.WideShapes.add_plain] at q
    exact q
theorem IntsAt.later {w W : World} {p : Option Addr} {l : List Int} (h : IntsAt w p l) (hb : Below w.heap.size w W) : IntsAt W p l := fun h0 => by
  obtain ⟨b, off, h1, h2, h3⟩ := h h0
  exact ⟨b, off, h1, Nat.lt_of_lt_of_le h2 hb.size, fun j x hx => (hb.cell (p := ⟨b, off + j, none⟩) h2).trans (h3 j x hx)⟩
theorem belowN {B : Nat} {w W : World} (h : Below B w W) (q : Nat) : Below B w (W.drewN q) := h.trans ⟨rfl, rfl, rfl, Nat.le_refl _, fun _ _ => rfl⟩
end Go.Proofs.YtiadlcjdpbkbkaaGreatD.H
/- May a header have these targets: head's own look, with a set of those that were met; on a layout whose log has 32 to 256 blocks. -/
namespace Go.Proofs.YtiadlcjdpbkbkaaGreatD.H
open Go.RowKit Go.Maps
/-- At most m targets, each from lo on and below hi, none twice. -/
abbrev MayP (lo hi m : Int) (ts : List Int) : Prop := (ts.length : Int) ≤ m ∧ (∀ t ∈ ts, lo ≤ t ∧ t < hi) ∧ ts.Nodup
def mayB (lo hi m : Int) (ts : List Int) : Bool := decide (MayP lo hi m ts)
abbrev WfI (ts : List Int) : Prop := ∀ t ∈ ts, (Lit.int .i64 t).wf = true
theorem lawK : Keyed Tryz.prog 3 := int_keyed Tryz.underlying3
theorem zero70 (w : World) : (zeroValue 114).run Tryz.prog w = .ok (.agg #[]) w := by kernel_rfl
def Sd (ts : List Int) : DataW Unit := setOf (.agg []) (ts.map (Lit.int .i64))
theorem any_int (x : Int) : ∀ l : List Int, l.any ((fun y : Lit => y.sameKey (.int .i64 x)) ∘ Lit.int .i64) = l.contains x
  | [] => rfl
  | a :: r => by
    rw [List.any_cons, List.contains_cons, any_int x r]
    congr 1
    show decide (IntKind.i64 = IntKind.i64 ∧ a = x) = (x == a)
    by_cases e : a = x
    · subst e
      simp
    · have e' : ¬ x = a := fun h => e h.symm
      simp [e, e']
theorem has_Sd (ts : List Int) (x : Int) : Maps.has (Sd ts) (.int .i64 x) = ts.contains x := by
  unfold Sd
  rw [has_setOf _ _ _ (fun y hy => by obtain ⟨_, _, rfl⟩ := List.mem_map.1 hy; trivial), List.any_map]
  exact any_int x _
theorem Sd_snoc (ts : List Int) (x : Int) : Sd (ts ++ [x]) = (Sd ts).put (.int .i64 x) (.agg []) := by
  unfold Sd
  rw [List.map_append]
  exact setOf_snoc _ _ _
theorem makeHint (n : Nat) (w : World) : (Instr.makeMap 113 (some (.int .i64 (n : Int)))).run Tryz.prog w = .ok (.map (some w.heap.size)) (w.alloc (.map #[] 0)) := by
  simp [Instr.makeMap, run_underlying Tryz.underlying113, go_sem]
set_option maxRecDepth 20000 in
theorem most_any (b l i a c d e f g : Int) (w : World) (hl : 32 ≤ l ∧ l ≤ 256) :
    Calls Tryz.prog 67 #[.agg (lay9 b l i a c d e f g)] w fun e' w' => e' = .returned (.int .i64 (l - 1)) ∧ Below w.heap.size w w' := by
  unfold lay9
  go_enter Tryz.func67, Tryz.ntmps67
  go_wp2
  go_ret
  refine ⟨?_, below_new _ _⟩
  congr 2
set_option maxRecDepth 20000 in
set_option maxHeartbeats 2000000 in
theorem may_any (b l i a c d e f g : Int) (ts : List Int) (p : Option Addr) (cap : Nat) (w : World) (hl : 32 ≤ l ∧ l ≤ 256) (hlen : ts.length < 9223372036854775807) (hts : IntsAt w p ts) (hwf : WfI ts) :
    Calls Tryz.prog 46 #[.agg (lay9 b l i a c d e f g), .slice p ts.length cap] w fun e' w' => e' = .returned (.bool (mayB c b (l - 1) ts)) ∧ Below w.heap.size w w' := by
  have hc := fun w => most_any b l i a c d e f g w hl
  have hmm := makeHint
  have e1 : (w.alloc (.cells (lay9 b l i a c d e f g) 43)).heap[w.heap.size]? = some (.cells (lay9 b l i a c d e f g) 43) := heap_alloc_new _ _
  have e2 := fun (W1 : World) (h : W1.heap[w.heap.size]? = some (.cells (lay9 b l i a c d e f g) 43)) => lay_cells h
  obtain ⟨n, hn⟩ : ∃ n, ts.length = n := ⟨_, rfl⟩
  have HT : Hid (IntsAt w p ts ∧ WfI ts ∧ ts.length = n) := ⟨hts, hwf, hn⟩
  rw [hn]
  rw [hn] at hlen
  clear hts hwf hn
  obtain ⟨m, hm⟩ : ∃ m, m = l - 1 := ⟨_, rfl⟩
  have hm2 : 27 ≤ m ∧ m ≤ 255 := by omega
  rw [← hm]
  simp only [← hm] at hc
  clear hm hl
  by_cases hbig : (n : Int) > m
  · have er : mayB c b m ts = false := decide_eq_false fun q => by have := q.1; have := HT.out.2.2; omega
    rw [er]
    have g0 : decide (m < (n : Int)) = true := decide_eq_true hbig
    unfold lay9 at *
    go_enter Tryz.func46, Tryz.ntmps46
    go_wp2_with (first | (go_at_call 67; fail))
    refine (hc _).mono ?_
    rintro e' W1 ⟨rfl, hb1⟩
    have HB : Hid (Below w.heap.size w W1) := below_next (below_new _ _) hb1
    clear hb1 hc e1 e2 hmm
    go_wp2
    go_ret
    exact ⟨rfl, HB.out⟩
  · have g0 : decide (m < (n : Int)) = false := decide_eq_false hbig
    generalize hq : mayB c b m ts = res
    have HQ : Hid (mayB c b m ts = res) := hq
    clear hq
    unfold lay9 at *
    go_enter Tryz.func46, Tryz.ntmps46
    go_wp2_with (first | (go_at_call 67; fail))
    refine (hc _).mono ?_
    rintro e' W1 ⟨rfl, hb1⟩
    have HB : Hid (Below w.heap.size w W1 ∧ W1.heap[w.heap.size]? = some (.cells #[.int .i64 b, .int .i64 l, .int .i64 i, .int .i64 a, .int .i64 c, .int .i64 d, .int .i64 e, .int .i64 f, .int .i64 g] 43) ∧ w.heap.size < W1.heap.size) :=
      ⟨below_next (below_new _ _) hb1, heap_kept e1 hb1, by have := hb1.size; simp at this; omega⟩
    clear hb1 hc e1
    go_wp2
    go_loopw [20] (fun s20 wr => ∃ k : Nat, k ≤ n ∧ s20 = .int .i64 k ∧ Hid (wr.ownsMap Tryz.prog 3 unitElem W1.heap.size k (Sd (ts.take k))) ∧ Hid (Below W1.heap.size W1 wr) ∧ Hid ((∀ t ∈ ts.take k, c ≤ t ∧ t < b) ∧ (ts.take k).Nodup))
      (fun s20 _ => n - (intOf s20).toNat)
    case atStart => exact ⟨0, by omega, rfl, World.ownsMap_made _ _ _ _, below_new _ _, by simp; exact trivial⟩
    case round =>
      obtain ⟨k, hk, rfl, Hown, HW, HG⟩ := hrel
      by_cases hk2 : (k : Int) < n
      · obtain ⟨hts, hwf, hn⟩ := HT.out
        have hx : ts[k]? = some ts[k] := List.getElem?_eq_getElem (by omega)
        have htk : ts.take (k + 1) = ts.take k ++ [ts[k]] := by rw [List.take_add_one, hx]; rfl
        have hmem : ts[k] ∈ ts := List.getElem_mem _
        have hxw := hwf _ hmem
        obtain ⟨b1, o1, rfl, l1, C1⟩ := hts (by omega)
        generalize ts[k] = x at hx htk hmem hxw
        have hs1 := HB.out.1.size
        have q1 : wr.cell? ⟨b1, o1 + k, none⟩ = some (.int .i64 x) := (HW.out.cell (p := ⟨b1, o1 + k, none⟩) (by show b1 < W1.heap.size; omega)).trans ((HB.out.1.cell (p := ⟨b1, o1 + k, none⟩) l1).trans (C1 k x hx))
        obtain ⟨c0, c1, c2, c3, c4, c5, c6, c7, c8, hlt⟩ := e2 wr (heap_kept HB.out.2.1 HW.out)
        have hkey : keyOf Tryz.prog 3 (.int .i64 x) = some (.int .i64 x) := keyOf_int_mk Tryz.underlying3 hxw
        have hhas := has_Sd (ts.take k) x
        have hown := Hown.out
        have hr : (x ∈ ts.take k ∨ x < c ∨ b ≤ x) → res = false := fun h => by
          rw [← HQ.out]
          refine decide_eq_false fun q => ?_
          rcases h with h | h | h
          · have q3 := q.2.2
            rw [← List.take_append_drop (k + 1) ts, htk] at q3
            exact (List.nodup_append.1 (List.nodup_append.1 q3).1).2.2 x h x (by simp) rfl
          · have := q.2.1 x hmem; omega
          · have := q.2.1 x hmem; omega
        have hD : Sd (ts.take (k + 1)) = (Sd (ts.take k)).put (.int .i64 x) (.agg []) := by rw [htk]; exact Sd_snoc _ _
        generalize Sd (ts.take k) = D at *
        have HX : Hid (ts.take (k + 1) = ts.take k ++ [x] ∧ Sd (ts.take (k + 1)) = D.put (.int .i64 x) (.agg [])) := ⟨htk, hD⟩
        have HWB : Hid (Below w.heap.size w wr) := HB.out.1.trans (HW.out.mono hs1)
        clear e2 hx htk hmem hxw hwf hts hn C1 hD
        by_cases h1 : (ts.take k).contains x = true
        · have hres := hr (.inl (List.contains_iff_mem.1 h1))
          rw [h1] at hhas
          subst hres
          clear hr h1 HQ
          go_wp2_with (first
            | (at_lookup; refine wpList_lookup_own_unit _ rfl _ _ 113 rfl 3 114 lawK Tryz.underlying113 (zero70 _) W1.heap.size k _ rfl hown _ _ rfl hkey ?_; rw [hhas])
            | go_in)
          go_ret
          exact ⟨rfl, HWB.out.alloc HWB.out.size _⟩
        · have h1 : (ts.take k).contains x = false := by simpa using h1
          rw [h1] at hhas
          by_cases h2 : x < c ∨ b ≤ x
          · have hres := hr (.inr h2)
            subst hres
            clear hr h1 HQ
            rcases h2 with h2 | h2
            · have g2 : decide (x < c) = true := decide_eq_true h2
              clear h2
              go_wp2_with (first
                | (at_lookup; refine wpList_lookup_own_unit _ rfl _ _ 113 rfl 3 114 lawK Tryz.underlying113 (zero70 _) W1.heap.size k _ rfl hown _ _ rfl hkey ?_; rw [hhas])
                | go_in)
              go_ret
              exact ⟨rfl, HWB.out.alloc HWB.out.size _⟩
            · have g3 : decide (b ≤ x) = true := decide_eq_true h2
              clear h2
              go_wp2_with (first
                | (at_lookup; refine wpList_lookup_own_unit _ rfl _ _ 113 rfl 3 114 lawK Tryz.underlying113 (zero70 _) W1.heap.size k _ rfl hown _ _ rfl hkey ?_; rw [hhas])
                | go_in)
              all_goals
                go_ret
                exact ⟨rfl, HWB.out.alloc HWB.out.size _⟩
          · have g2 : decide (x < c) = false := decide_eq_false (by omega)
            have g3 : decide (b ≤ x) = false := decide_eq_false (by omega)
            have HG2 : Hid ((∀ t ∈ ts.take (k + 1), c ≤ t ∧ t < b) ∧ (ts.take (k + 1)).Nodup) := by
              have h1' : x ∉ ts.take k := fun q => by rw [List.contains_iff_mem.2 q] at h1; cases h1
              rw [show ts.take (k + 1) = ts.take k ++ [x] from HX.out.1]
              refine ⟨fun t ht => ?_, List.nodup_append.2 ⟨HG.out.2, by simp, fun y hy z hz e => ?_⟩⟩
              · rcases List.mem_append.1 ht with ht | ht
                · exact HG.out.1 t ht
                · rw [List.mem_singleton.1 ht]; omega
              · rw [List.mem_singleton.1 hz] at e; exact h1' (e ▸ hy)
            clear hr h1 h2
            have hkm : k < maxLen := by unfold maxLen; omega
            go_wp2_with (first
              | (at_lookup; refine wpList_lookup_own_unit _ rfl _ _ 113 rfl 3 114 lawK Tryz.underlying113 (zero70 _) W1.heap.size k _ rfl hown _ _ rfl hkey ?_; rw [hhas])
              | (at_mapUpdate; refine wpList_mapUpdate_own _ rfl _ _ _ 113 rfl 3 114 lawK Tryz.underlying113 (unitElem (H := Unit)) W1.heap.size k _ rfl (hown.alloc _) hkm _ _ _ rfl rfl hkey _ [] unitElem_mk ?_; intro w1 hown1 hgrow1)
              | go_in)
            go_roundw
            case rel =>
              refine ⟨k + 1, by omega, by go_num, ?_, ?_, HG2.out⟩
              · have := HX.out.2
                rw [this]
                exact hown1
              · exact (HW.out.alloc HW.out.size _).grown hgrow1 (by have := HW.out.size; simp; omega) (fun j hj => by cases hj; exact Nat.le_refl _)
            case measure => simp [intOf]; omega
      · obtain rfl : k = n := by omega
        have hres : res = true := by
          rw [← HQ.out]
          have hn := HT.out.2.2
          have hg := HG.out
          rw [List.take_of_length_le (by omega)] at hg
          exact decide_eq_true ⟨by omega, hg.1, hg.2⟩
        subst hres
        have HWB : Hid (Below w.heap.size w wr) := HB.out.1.trans (HW.out.mono HB.out.1.size)
        clear HQ e2
        go_wp2
        go_ret
        exact ⟨rfl, HWB.out⟩
end Go.Proofs.YtiadlcjdpbkbkaaGreatD.H

/- The document's own U16, U32: the number of the bytes at a place, or nought; for every block of bytes and every place. -/
namespace Go.Proofs.YtiadlcjdpbkbkaaGreatD.H
open Go.RowKit

theorem numN_bd3 (f : Nat → Int) (hf : ∀ i, 0 ≤ f i ∧ f i ≤ 255) (m k : Nat) (h : m ≤ 3) : 0 ≤ numN f k m ∧ numN f k m < 16777216 := by
  have hb := numN_bd f hf m k
  have hm : m = 0 ∨ m = 1 ∨ m = 2 ∨ m = 3 := by omega
  rcases hm with rfl | rfl | rfl | rfl <;> simp at hb <;> omega
theorem numN_step (f : Nat → Int) (k n j : Nat) (hj : j + 1 ≤ n) : numN f (k + j) (n - j) = f (k + j) + 256 * numN f (k + (j + 1)) (n - (j + 1)) := by
  rw [show n - j = (n - (j + 1)) + 1 by omega, numN, Nat.add_assoc]

end Go.Proofs.YtiadlcjdpbkbkaaGreatD.H
/- The document's own SetU16, SetU32: the block in which a number is laid; for every block, place and number. -/
namespace Go.Proofs.YtiadlcjdpbkbkaaGreatD.H
open Go.RowKit

theorem putN_step (g : Nat → Int) (k n i : Nat) (u : Int) (hi : i + 1 ≤ n) : putN g (k + i) u (n - i) = putN (upd g (k + i) (u % 256)) (k + (i + 1)) (u / 256) (n - (i + 1)) := by
  rw [show n - i = (n - (i + 1)) + 1 by omega, putN, Nat.add_assoc]

theorem later1 {w W : World} {o o1 : Obj} (hb : Below ((w.alloc o).alloc o1).heap.size ((w.alloc o).alloc o1) W) : W.heap[w.heap.size + 1]? = some o1 :=
  (hb.block (w.heap.size + 1) (by simp)).trans (heap_alloc2_new _ _ _)
theorem later2 {w W : World} {o o1 : Obj} (hb : Below ((w.alloc o).alloc o1).heap.size ((w.alloc o).alloc o1) W) (g : Nat) (hg : w.heap.size ≤ g) (cs : Array Value) : Below w.heap.size w (W.setRow g cs) :=
  below_setRow ((((Below.refl _ _).alloc (Nat.le_refl _) _).alloc (by simp) _).trans (hb.mono (by simp; omega))) hg cs
end Go.Proofs.YtiadlcjdpbkbkaaGreatD.H
/- A block as numbers of four bytes, one behind the other; plain. -/
namespace Go.Proofs.YtiadlcjdpbkbkaaGreatD.H
open Go.RowKit
/-- The block that begins with these numbers, noughts behind them. -/
def wordF (xs : List Int) : Nat → Int := fun j => xs.getD (j / 4) 0 / 256 ^ (j % 4) % 256
abbrev U32 (x : Int) : Prop := 0 ≤ x ∧ x < 4294967296
abbrev AllU (xs : List Int) : Prop := ∀ x ∈ xs, U32 x
theorem getD_u {xs : List Int} (h : AllU xs) (i : Nat) : U32 (xs.getD i 0) := by
  rw [List.getD_eq_getElem?_getD]
  by_cases hi : i < xs.length
  · rw [List.getElem?_eq_getElem hi]; exact h _ (List.getElem_mem _)
  · rw [List.getElem?_eq_none (by omega)]; exact ⟨by decide, by decide⟩
theorem wordF_byte (xs : List Int) (j : Nat) : 0 ≤ wordF xs j ∧ wordF xs j ≤ 255 := by
  unfold wordF; omega
theorem wordF_nil : wordF [] = nought := by
  funext j; unfold wordF nought; simp
theorem wordF_at (xs : List Int) (i r : Nat) (hr : r < 4) : wordF xs (4 * i + r) = xs.getD i 0 / 256 ^ r % 256 := by
  unfold wordF
  rw [show (4 * i + r) / 4 = i by omega, show (4 * i + r) % 4 = r by omega]
theorem wordF_snoc (xs : List Int) (x : Int) (hx : U32 x) (hl : xs.length < 256) : put (wordF xs) ((4 * xs.length : Nat) : Int) 4 x = wordF (xs ++ [x]) := by
  rw [put_in _ _ _ _ (by omega), put4 _ _ _ hx]
  funext j
  obtain ⟨i, r, hr, rfl⟩ : ∃ i r, r < 4 ∧ j = 4 * i + r := ⟨j / 4, j % 4, by omega, by omega⟩
  rw [wordF_at _ _ _ hr]
  have hx0 := hx.1
  have hx1 := hx.2
  by_cases hi : i = xs.length
  · subst hi
    have e : (xs ++ [x]).getD xs.length 0 = x := by simp
    rw [e]
    unfold upd
    have : r = 0 ∨ r = 1 ∨ r = 2 ∨ r = 3 := by omega
    rcases this with rfl | rfl | rfl | rfl
    · rw [if_neg (by omega), if_neg (by omega), if_neg (by omega), if_pos (by omega)]; simp
    · rw [if_neg (by omega), if_neg (by omega), if_pos (by omega)]; simp
    · rw [if_neg (by omega), if_pos (by omega)]; simp
    · rw [if_pos (by omega)]
      show x / 16777216 = x / 16777216 % 256
      omega
  · have e : (xs ++ [x]).getD i 0 = xs.getD i 0 := by
      rw [List.getD_eq_getElem?_getD, List.getD_eq_getElem?_getD]
      by_cases h : i < xs.length
      · rw [List.getElem?_append_left h]
      · rw [List.getElem?_eq_none (by simp; omega), List.getElem?_eq_none (by omega)]
    rw [e]
    unfold upd
    rw [if_neg (by omega), if_neg (by omega), if_neg (by omega), if_neg (by omega)]
    exact wordF_at _ _ _ hr
theorem wordF_read (xs : List Int) (h : AllU xs) (i : Nat) : numN (wordF xs) (4 * i) 4 = xs.getD i 0 := by
  rw [num4, show 4 * i = 4 * i + 0 by omega, wordF_at _ _ 0 (by omega), show 4 * i + 0 + 1 = 4 * i + 1 by omega, show 4 * i + 0 + 2 = 4 * i + 2 by omega, show 4 * i + 0 + 3 = 4 * i + 3 by omega, wordF_at _ _ 1 (by omega), wordF_at _ _ 2 (by omega), wordF_at _ _ 3 (by omega)]
  have := getD_u h i
  generalize xs.getD i 0 = x at *
  obtain ⟨h0, h1⟩ := this
  show x / 1 % 256 + 256 * (x / 256 % 256) + 65536 * (x / 65536 % 256) + 16777216 * (x / 16777216 % 256) = x
  omega
/-- The targets that a block says. -/
def tgts (f : Nat → Int) (n : Nat) : List Int := (List.range n).map fun i => numN f (4 * (i + 1)) 4
theorem tgts_len (f : Nat → Int) (n : Nat) : (tgts f n).length = n := by simp [tgts]
theorem tgts_u (f : Nat → Int) (hf : ∀ i, 0 ≤ f i ∧ f i ≤ 255) (n : Nat) : AllU (tgts f n) := fun x hx => by
  obtain ⟨i, _, rfl⟩ := List.mem_map.1 hx
  exact numN_bd f hf 4 _
theorem tgts_get (f : Nat → Int) (n i : Nat) (h : i < n) : (tgts f n)[i]? = some (numN f (4 * (i + 1)) 4) := by simp [tgts, h]
theorem u_wf {x : Int} (h : U32 x) : (Lit.int .i64 x).wf = true := WalkArith.wf_i64 (by omega)
theorem allU_wf {xs : List Int} (h : AllU xs) : WfI xs := fun t ht => u_wf (h t ht)
/-- The header's block. -/
def headF (ts : List Int) : Nat → Int := wordF ((ts.length : Int) :: ts)
theorem head_tgts (ts zs : List Int) (h : AllU ts) (hz : AllU zs) (hl : (ts.length : Int) < 4294967296) : tgts (wordF ((ts.length : Int) :: (ts ++ zs))) ts.length = ts := by
  refine List.ext_getElem? fun i => ?_
  by_cases hi : i < ts.length
  · rw [tgts_get _ _ _ hi, wordF_read _ (fun x hx => by
      rcases List.mem_cons.1 hx with rfl | hx
      · exact ⟨by omega, hl⟩
      · rcases List.mem_append.1 hx with hx | hx
        · exact h x hx
        · exact hz x hx)]
    rw [List.getD_eq_getElem?_getD, List.getElem?_cons_succ, List.getElem?_append_left hi, List.getElem?_eq_getElem hi]
    rfl
  · rw [List.getElem?_eq_none (by rw [tgts_len]; omega), List.getElem?_eq_none (by omega)]
end Go.Proofs.YtiadlcjdpbkbkaaGreatD.H
/- Encode of head: the header's block, or none; for every layout and every list of targets. -/
namespace Go.Proofs.YtiadlcjdpbkbkaaGreatD.H
open Go.RowKit
theorem load30L (w : World) (g : Nat) (f : Nat → Int) (h : w.heap[g]? = some (.cells (blk f) 47)) : (loadVar 47 ⟨g, 0, none⟩).run Tryz.prog w = .ok (.agg (blk f)) w :=
  run_loadVar_row w g 47 47 (blk f) (0, 0) _ h Tryz.underlying47 rfl (by rw [blk_size]; exact size25)
theorem wpOrd_loadB {ops : Array Oper} {Q : Exit → Act → World → Prop} {S : World → Prop} {r : List (Bool × Oper)} {a : Act} {w : World} {o : Oper} (hw : Region.wanted o (yielded ops a.tmps) = true)
    (x : Operand) (ho : o.op = .load 47 x) (g : Nat) (hx : a.eval x = .pointer (some ⟨g, 0, none⟩)) (f : Nat → Int) (hg : ∀ u, S u → u.heap[g]? = some (.cells (blk f) 47))
    (h : wpOrd Tryz.prog ops Q S r (a.put o.dst (.agg (blk f))) w) : wpOrd Tryz.prog ops Q S ((true, o) :: r) a w := by
  refine wpOrd_yield hw (fun u hu => ?_) h
  unfold execOp
  simp only [ho, hx, Instr.loadAt, Instr.sureAddr, Sem.run_bind, Sem.run_pure, Result.andThen_ok, run_loadVar_row u g 47 47 (blk f) (0, 0) _ (hg u hu) Tryz.underlying47 rfl (by rw [blk_size]; exact size25)]
theorem wpOrd_loadF {ops : Array Oper} {Q : Exit → Act → World → Prop} {S : World → Prop} {r : List (Bool × Oper)} {a : Act} {w : World} {o : Oper} (hw : Region.wanted o (yielded ops a.tmps) = true)
    (x : Operand) (ho : o.op = .load 47 x) (g : Nat) (hx : a.eval x = .pointer (some ⟨g, 0, none⟩)) (f : Nat → Int) (hg : w.heap[g]? = some (.cells (blk f) 47))
    (h : S w ∧ wpOrd Tryz.prog ops Q S r (a.put o.dst (.agg (blk f))) w) : wpOrd Tryz.prog ops Q S ((false, o) :: r) a w := by
  simp only [wpOrd, hw, if_true]
  unfold Oper.wp execOp
  simp only [ho, hx, Instr.loadAt, Instr.sureAddr, Sem.run_bind, Sem.run_pure, Result.andThen_ok, run_loadVar_row w g 47 47 (blk f) (0, 0) _ hg Tryz.underlying47 rfl (by rw [blk_size]; exact size25)]
  exact h
theorem wpOrd_storeB {ops : Array Oper} {Q : Exit → Act → World → Prop} {S : World → Prop} {r : List (Bool × Oper)} {a : Act} {w : World} {o : Oper} (hw : Region.wanted o (yielded ops a.tmps) = true)
    (x y : Operand) (ho : o.op = .store 47 x y) (g : Nat) (f f0 : Nat → Int) (hx : a.eval x = .pointer (some ⟨g, 0, none⟩)) (hy : a.eval y = .agg (blk f)) (hg : w.heap[g]? = some (.cells (blk f0) 47))
    (h : S (w.setRow g (blk f)) ∧ wpOrd Tryz.prog ops Q S r (a.put o.dst undef) (w.setRow g (blk f))) : wpOrd Tryz.prog ops Q S ((false, o) :: r) a w := by
  simp only [wpOrd, hw, if_true]
  unfold Oper.wp execOp
  simp only [ho, hx, hy, Instr.storeAt, Instr.sureAddr, Sem.run_bind, Sem.run_pure, Result.andThen_ok, run_storeVar_row w g 47 47 (blk f0) (blk f) hg (by rw [blk_size]; exact size25) (by rw [blk_size, blk_size]) (blk_one f)]
  exact h
theorem place_any (k : Int) (w : World) (h : 0 ≤ k ∧ k ≤ 300) : Calls Tryz.prog 48 #[.int .i64 k] w fun e w' => e = .returned (.int .i64 (4 * (k + 1))) ∧ w' = w := by
  go_enter Tryz.func48, Tryz.ntmps48
  go_wp2
  go_ret
  exact ⟨by congr 2, rfl⟩
theorem heap3o (w : World) (A B C : Obj) : (((w.alloc A).alloc B).alloc C).heap[w.heap.size]? = some A := by
  rw [heap_alloc_old _ _ (by simp; omega)]; exact heap_alloc2_old _ _ _
theorem cell_one {w : World} {g : Nat} {v : Value} {t : TypeId} (h : w.heap[g]? = some (.cells #[v] t)) : w.cell? ⟨g, 0, none⟩ = some v := by
  rw [cell_of_row w g _ _ t _ h]; rfl
theorem below3 (w : World) (A B C : Obj) : Below w.heap.size w (((w.alloc A).alloc B).alloc C) := bel_al (bel_al (below_new _ _) _) _
set_option maxRecDepth 20000 in
set_option maxHeartbeats 400000 in
theorem enc_not (b l i a c d e f g : Int) (v : Value) (w : World) (hb : I64 b) (hs : standsB b l i a c d e f g = false) :
    Calls Tryz.prog 22 #[.agg (lay9 b l i a c d e f g), .agg #[v]] w fun e' w' => e' = .returned (.tuple #[.agg (blk nought), .int .i64 2]) ∧ Below w.heap.size w w' := by
  have hc := fun w => hstands_any b l i a c d e f g w hb
  rw [hs] at hc
  clear hs
  have z25 := zero25
  have hsz : (lay9 b l i a c d e f g).size = 9 := rfl
  generalize lay9 b l i a c d e f g = L at *
  go_enter Tryz.func22, Tryz.ntmps22
  go_wp2_with (first | refine wpList_loadL rfl _ rfl _ rfl _ hsz (heap3o _ _ _ _) ?_ | (go_at_call 45; fail))
  refine (hc _).mono ?_
  rintro e' W1 ⟨rfl, hb1⟩
  have h2 := heap_kept (heap3n w _ _ _) hb1
  have HB : Hid (Below w.heap.size w W1) := below_next (below3 _ _ _ _) hb1
  clear hb1 hc
  go_wp2_with (first | refine wpList_store25 rfl _ _ rfl _ _ rfl rfl _ h2 ?_)
  refine retCT rfl (w.heap.size + 2) _ rfl (load30L _ _ _ (setRow_heap _ _ _ _ _ _ h2)) rfl ⟨rfl, below_setRow HB.out (by omega) _⟩
set_option maxRecDepth 20000 in
set_option maxHeartbeats 400000 in
theorem enc_bad (b l i a c d e f g : Int) (ts : List Int) (p : Option Addr) (cap : Nat) (w : World) (hb : I64 b) (hs : standsB b l i a c d e f g = true) (hl : 32 ≤ l ∧ l ≤ 256) (hlen : ts.length < 9223372036854775807) (hts : IntsAt w p ts) (hwf : WfI ts)
    (hm : mayB c b (l - 1) ts = false) :
    Calls Tryz.prog 22 #[.agg (lay9 b l i a c d e f g), .agg #[.slice p ts.length cap]] w fun e' w' => e' = .returned (.tuple #[.agg (blk nought), .int .i64 4]) ∧ Below w.heap.size w w' := by
  have hc := fun w => hstands_any b l i a c d e f g w hb
  rw [hs] at hc
  have hM := fun W (h : IntsAt W p ts) => may_any b l i a c d e f g ts p cap W hl hlen h hwf
  rw [hm] at hM
  clear hs hm
  have z25 := zero25
  have hsz : (lay9 b l i a c d e f g).size = 9 := rfl
  have HT : Hid (IntsAt w p ts) := hts
  clear hts hwf
  generalize lay9 b l i a c d e f g = L at *
  have HM : Hid (∀ W, IntsAt W p ts → Calls Tryz.prog 46 #[.agg L, .slice p ts.length cap] W fun e' w' => e' = .returned (.bool false) ∧ Below W.heap.size W w') := hM
  clear hM
  generalize ts.length = n at *
  go_enter Tryz.func22, Tryz.ntmps22
  go_wp2_with (first | refine wpList_loadL rfl _ rfl _ rfl _ hsz (heap3o _ _ _ _) ?_ | (go_at_call 45; fail))
  refine (hc _).mono ?_
  rintro e' W1 ⟨rfl, hb1⟩
  have h0 := heap_kept (heap3o w _ _ _) hb1
  have h1 := cell_one (heap_kept (heap3 w _ _ _) hb1)
  have h2 := heap_kept (heap3n w _ _ _) hb1
  have HB : Hid (Below w.heap.size w W1) := below_next (below3 _ _ _ _) hb1
  clear hb1 hc
  go_wp2_with (first | refine wpList_loadL rfl _ rfl _ rfl _ hsz h0 ?_ | (go_at_call 46; fail))
  refine (HM.out _ (HT.out.later HB.out)).mono ?_
  rintro e' W2 ⟨rfl, hb2⟩
  have h3 := heap_kept h2 hb2
  have HB2 : Hid (Below w.heap.size w W2) := below_next HB.out hb2
  clear hb2 HM h0 h1 h2 HB
  go_wp2_with (first | refine wpList_store25 rfl _ _ rfl _ _ rfl rfl _ h3 ?_)
  refine retCT rfl (w.heap.size + 2) _ rfl (load30L _ _ _ (setRow_heap _ _ _ _ _ _ h3)) rfl ⟨rfl, below_setRow HB2.out (by omega) _⟩
end Go.Proofs.YtiadlcjdpbkbkaaGreatD.H
/- Encode of head where the header may be; no condition. -/
namespace Go.Proofs.YtiadlcjdpbkbkaaGreatD.H
open Go.RowKit
theorem MayP.u {lo hi m : Int} {ts : List Int} (h : MayP lo hi m ts) (h0 : 0 ≤ lo) (h1 : hi ≤ 4294967296) : AllU ts := fun x hx => by
  have := h.2.1 x hx
  exact ⟨by omega, by omega⟩
set_option maxRecDepth 20000 in
set_option maxHeartbeats 2000000 in
theorem enc_ok (b l i a c d e f g : Int) (ts : List Int) (p : Option Addr) (cap : Nat) (w : World) (hb : I64 b) (hs : standsB b l i a c d e f g = true) (hl : 32 ≤ l ∧ l ≤ 256) (hts : IntsAt w p ts) (hu : AllU ts) (hn : ts.length ≤ 255)
    (hm : mayB c b (l - 1) ts = true) :
    Calls Tryz.prog 22 #[.agg (lay9 b l i a c d e f g), .agg #[.slice p ts.length cap]] w fun e' w' => e' = .returned (.tuple #[.agg (blk (headF ts)), .int .i64 0]) ∧ Below w.heap.size w w' := by
  have hc := fun w => hstands_any b l i a c d e f g w hb
  rw [hs] at hc
  have hM := fun W (h : IntsAt W p ts) => may_any b l i a c d e f g ts p cap W hl (by omega) h (allU_wf hu)
  rw [hm] at hM
  clear hs hm
  have z25 := zero25
  have hsz : (lay9 b l i a c d e f g).size = 9 := rfl
  obtain ⟨n, hnn⟩ : ∃ n, ts.length = n := ⟨_, rfl⟩
  have HT : Hid (IntsAt w p ts ∧ AllU ts ∧ ts.length = n) := ⟨hts, hu, hnn⟩
  unfold headF
  rw [hnn] at hn hM ⊢
  clear hts hu hnn
  generalize lay9 b l i a c d e f g = L at *
  have HM : Hid (∀ W, IntsAt W p ts → Calls Tryz.prog 46 #[.agg L, .slice p n cap] W fun e' w' => e' = .returned (.bool true) ∧ Below W.heap.size W w') := hM
  clear hM
  have HS0 : Hid (put nought 0 4 (n : Int) = wordF [(n : Int)]) := by
    have := wordF_snoc [] (n : Int) ⟨by omega, by omega⟩ (by simp)
    rw [wordF_nil] at this
    exact this
  go_enter Tryz.func22, Tryz.ntmps22
  go_wp2_with (first | refine wpList_loadL rfl _ rfl _ rfl _ hsz (heap3o _ _ _ _) ?_ | (go_at_call 45; fail))
  refine (hc _).mono ?_
  rintro e' W1 ⟨rfl, hb1⟩
  have h0 := heap_kept (heap3o w _ _ _) hb1
  have h1 := heap_kept (heap3 w _ _ _) hb1
  have h2 := heap_kept (heap3n w _ _ _) hb1
  have HB : Hid (Below w.heap.size w W1) := below_next (below3 _ _ _ _) hb1
  clear hb1 hc
  have h1c := cell_one h1
  go_wp2_with (first | refine wpList_loadL rfl _ rfl _ rfl _ hsz h0 ?_ | (go_at_call 46; fail))
  refine (HM.out _ (HT.out.1.later HB.out)).mono ?_
  rintro e' W2 ⟨rfl, hb2⟩
  have h3 := heap_kept h2 hb2
  have h4 := heap_kept h1 hb2
  have HB2 : Hid (Below w.heap.size w W2) := below_next HB.out hb2
  clear hb2 HM h0 h1 h2 HB h1c
  have h4c := cell_one h4
  have hwr : IntKind.u32.wrap (n : Int) = n := by rw [wrap_u32]; omega
  go_wp2_with (first | (go_at_call 47; fail))
  refine (set32_any nought 0 (n : Int) _ (by omega)).mono ?_
  rintro e' W3 ⟨rfl, hb3⟩
  rw [HS0.out]
  have h5 := heap_kept h3 hb3
  have h6 := heap_kept h4 hb3
  have HB3 : Hid (Below w.heap.size w W3) := below_next HB2.out hb3
  have hlt : w.heap.size + 2 < W3.heap.size := (Array.getElem?_eq_some_iff.1 h5).1
  clear hb3 h3 h4 HB2 h4c
  have h6c := cell_one h6
  have h6d := cell_one (heap_kept h6 (below_new W3 (.cells (blk (wordF [(n : Int)])) 47)))
  go_wp2_with (first | refine wpList_store25_new rfl _ _ rfl _ _ rfl rfl ?_)
  go_loopw [28] (fun s28 wx => ∃ k : Nat, k ≤ n ∧ s28 = .int .i64 k ∧ wx.heap[W3.heap.size]? = some (.cells (blk (wordF ((n : Int) :: ts.take k))) 47) ∧ Below W3.heap.size W3 wx) (fun s28 _ => n - (intOf s28).toNat)
  case atStart => exact ⟨0, by omega, rfl, heap_alloc_new _ _, below_new _ _⟩
  case round =>
    obtain ⟨k, hk, rfl, hg, hbel⟩ := hrel
    have HW : Hid _ := hbel
    clear hbel
    by_cases hk2 : (k : Int) < n
    · obtain ⟨hts, hu, hnn⟩ := HT.out
      have hx : ts[k]? = some ts[k] := List.getElem?_eq_getElem (by omega)
      have htk : ts.take (k + 1) = ts.take k ++ [ts[k]] := by rw [List.take_add_one, hx]; rfl
      have hxu := hu _ (List.getElem_mem (by omega : k < ts.length))
      obtain ⟨b1, o1, rfl, l1, C1⟩ := hts (by omega)
      generalize ts[k] = x at hx htk hxu
      have q1 : wr.cell? ⟨b1, o1 + k, none⟩ = some (.int .i64 x) := (HW.out.cell (p := ⟨b1, o1 + k, none⟩) (by show b1 < W3.heap.size; omega)).trans ((HB3.out.cell (p := ⟨b1, o1 + k, none⟩) l1).trans (C1 k x hx))
      have hst := fun (w : World) => set32_any (wordF ((n : Int) :: ts.take k)) (4 * ((k : Int) + 1)) x w hxu
      have hpl := fun (w : World) => place_any k w (by omega)
      have hsn := wordF_snoc ((n : Int) :: ts.take k) x hxu (by simp; omega)
      rw [show (((n : Int) :: ts.take k).length : Nat) = k + 1 by simp; omega, List.cons_append, ← htk] at hsn
      rw [show 4 * ((k : Int) + 1) = ((4 * (k + 1) : Nat) : Int) by omega, hsn, show ((4 * (k + 1) : Nat) : Int) = 4 * ((k : Int) + 1) by omega] at hst
      have HST : Hid _ := hst
      have HPL : Hid _ := hpl
      have hwx : IntKind.u32.wrap x = x := by rw [wrap_u32]; omega
      generalize wordF ((n : Int) :: ts.take k) = F at *
      generalize hF' : wordF ((n : Int) :: ts.take (k + 1)) = F' at *
      have HF' : Hid _ := hF'
      clear hst hpl hsn hx htk hu hts hnn C1 hF'
      go_wp2
      refine wp_region_fork (S := fun _ => True) [1, 3, 4] 0 2 [(5, false), (6, false)] (by kernel_rfl) rfl (by kernel_rfl) (fun d _ _ _ _ h => by cases d <;> exact h) trivial ?_
      refine wpFork_yield (v := .int .i64 (k : Int)) rfl rfl (fun u _ => by simp [execOp, Act.eval]) ?_
      simp only [Act.put, List.setIfInBounds_toArray, List.set_cons_succ, List.set_cons_zero]
      refine wpFork_yield (v := .int .i64 x) rfl rfl (fun u _ => by simp [execOp, Act.eval]) ?_
      simp only [Act.put, List.setIfInBounds_toArray, List.set_cons_succ, List.set_cons_zero]
      refine wpFork_yield (v := .int .u32 x) rfl rfl (fun u _ => by go_simp) ?_
      simp only [Act.put, List.setIfInBounds_toArray, List.set_cons_succ, List.set_cons_zero]
      have hg0 : wr.drew.heap[W3.heap.size]? = some (.cells (blk F) 47) := hg
      have HBd : Hid (Below W3.heap.size W3 wr.drew) := HW.out.drew
      clear hg HW q1
      generalize wr.drew = wd at *
      refine wpFork_nil rfl rfl ?_ ?_
      · simp only [inOrd, List.getElem?_cons_zero, List.getElem?_cons_succ]
        refine wpOrd_loadF rfl _ rfl _ rfl _ hg0 ⟨trivial, ?_⟩
        simp only [Act.put, List.setIfInBounds_toArray, List.set_cons_succ, List.set_cons_zero]
        refine wpOrd_call rfl 48 _ _ rfl Tryz.call48 [.int .i64 (k : Int)] rfl ?_
        refine (HPL.out _).mono ?_
        rintro e' X ⟨rfl, rfl⟩
        refine ⟨_, rfl, trivial, ?_⟩
        simp only [Act.put, List.setIfInBounds_toArray, List.set_cons_succ, List.set_cons_zero]
        refine wpOrd_call rfl 47 _ _ rfl Tryz.call47 [.agg (blk F), .int .i64 (4 * ((k : Int) + 1)), .int .u32 x] rfl ?_
        refine (HST.out _).mono ?_
        rintro e' X ⟨rfl, hbx⟩
        refine ⟨_, rfl, trivial, ?_⟩
        simp only [Act.put, List.setIfInBounds_toArray, List.set_cons_succ, List.set_cons_zero]
        have hg1 := heap_kept hg0 hbx
        have HB1 : Hid (Below W3.heap.size W3 X) := below_next HBd.out hbx
        refine wpOrd_storeB rfl _ _ rfl W3.heap.size F' _ rfl rfl hg1 ⟨trivial, ?_⟩
        refine wpOrd_nil ?_
        have hg2 := setRow_heap X W3.heap.size (blk F) (blk F') 47 (0, 0) hg1
        have HB2' : Hid (Below W3.heap.size W3 (X.setRow W3.heap.size (blk F'))) := below_setRow HB1.out (Nat.le_refl _) _
        simp only [Act.put]
        generalize X.setRow W3.heap.size (blk F') = Y at hg2 HB2' ⊢
        clear hg1 hg0 HB1 HBd hbx HST HPL
        go_wp2
        exact ⟨⟨k + 1, by omega, by go_num, by rw [HF'.out]; exact hg2, HB2'.out⟩, by simp [intOf]; omega⟩
      · simp only [inOrd, List.getElem?_cons_zero, List.getElem?_cons_succ]
        refine wpOrd_call rfl 48 _ _ rfl Tryz.call48 [.int .i64 (k : Int)] rfl ?_
        refine (HPL.out _).mono ?_
        rintro e' X ⟨rfl, rfl⟩
        refine ⟨_, rfl, trivial, ?_⟩
        simp only [Act.put, List.setIfInBounds_toArray, List.set_cons_succ, List.set_cons_zero]
        refine wpOrd_loadF rfl _ rfl _ rfl _ hg0 ⟨trivial, ?_⟩
        simp only [Act.put, List.setIfInBounds_toArray, List.set_cons_succ, List.set_cons_zero]
        refine wpOrd_call rfl 47 _ _ rfl Tryz.call47 [.agg (blk F), .int .i64 (4 * ((k : Int) + 1)), .int .u32 x] rfl ?_
        refine (HST.out _).mono ?_
        rintro e' X ⟨rfl, hbx⟩
        refine ⟨_, rfl, trivial, ?_⟩
        simp only [Act.put, List.setIfInBounds_toArray, List.set_cons_succ, List.set_cons_zero]
        have hg1 := heap_kept hg0 hbx
        have HB1 : Hid (Below W3.heap.size W3 X) := below_next HBd.out hbx
        refine wpOrd_storeB rfl _ _ rfl W3.heap.size F' _ rfl rfl hg1 ⟨trivial, ?_⟩
        refine wpOrd_nil ?_
        have hg2 := setRow_heap X W3.heap.size (blk F) (blk F') 47 (0, 0) hg1
        have HB2' : Hid (Below W3.heap.size W3 (X.setRow W3.heap.size (blk F'))) := below_setRow HB1.out (Nat.le_refl _) _
        simp only [Act.put]
        generalize X.setRow W3.heap.size (blk F') = Y at hg2 HB2' ⊢
        clear hg1 hg0 HB1 HBd hbx HST HPL
        go_wp2
        exact ⟨⟨k + 1, by omega, by go_num, by rw [HF'.out]; exact hg2, HB2'.out⟩, by simp [intOf]; omega⟩
    · obtain rfl : k = n := by omega
      rw [List.take_of_length_le (by have := HT.out.2.2; omega)] at hg
      have h5' := (HW.out.block _ hlt).trans h5
      generalize hF : wordF ((k : Int) :: ts) = F at *
      have HF : Hid _ := hF
      clear hk HT hF
      go_wp2_with (first | refine wpList_load25 rfl _ rfl _ rfl _ hg ?_ | refine wpList_store25 rfl _ _ rfl _ _ rfl rfl _ h5' ?_)
      exact retCT rfl (w.heap.size + 2) _ rfl (load30L _ _ _ (setRow_heap _ _ _ _ _ _ h5')) rfl ⟨by rw [HF.out]; rfl, below_setRow (below_next HB3.out HW.out) (by omega) _⟩
end Go.Proofs.YtiadlcjdpbkbkaaGreatD.H

/- The targets that a block says, in memory of their own; at most 255 of them. -/
namespace Go.Proofs.YtiadlcjdpbkbkaaGreatD.H
open Go.RowKit
theorem info3 : (Tryz.prog.info? 3).map (fun i => (i.zero, i.size, i.bytes)) = some (some (.int .i64 0), 1, 8) := by kernel_rfl
/-- m numbers as cells. -/
def rowI (f : Nat → Int) (m : Nat) : Array Value := ((List.range m).map fun i => Value.int .i64 (f i)).toArray
theorem rowI_size (f : Nat → Int) (m : Nat) : (rowI f m).size = m := by simp [rowI]
theorem rowI_get (f : Nat → Int) (m i : Nat) (h : i < m) : (rowI f m)[i]? = some (.int .i64 (f i)) := by simp [rowI, h]
theorem rowI_ext {f : Nat → Int} {m : Nat} {cs : Array Value} (hs : cs.size = m) (h : ∀ i, i < m → cs[i]? = some (.int .i64 (f i))) : cs = rowI f m := by
  apply Array.ext_getElem?
  intro i
  by_cases hi : i < m
  · rw [h i hi, rowI_get f m i hi]
  · rw [Array.getElem?_eq_none (by omega), Array.getElem?_eq_none (by rw [rowI_size]; omega)]
theorem rowI_congr {f g : Nat → Int} {m : Nat} (h : ∀ i, i < m → f i = g i) : rowI f m = rowI g m :=
  rowI_ext (rowI_size f m) fun i hi => by rw [rowI_get f m i hi, h i hi]
theorem rowI_set (f : Nat → Int) (m i : Nat) (x : Int) : (rowI f m).setIfInBounds i (.int .i64 x) = rowI (upd f i x) m := by
  refine rowI_ext (by rw [Array.size_setIfInBounds, rowI_size]) fun j hj => ?_
  rw [Array.getElem?_setIfInBounds]
  by_cases e : i = j
  · subst e; simp [rowI_size, hj, upd]
  · have e' : ¬ j = i := fun q => e q.symm
    simp [e, e', rowI_get _ _ _ hj, upd]
theorem made_rowI (m : Nat) : madeCells #[Value.int .i64 0] m = rowI nought m :=
  rowI_ext (by simp [madeCells]) fun i hi => by simp [madeCells, hi, nought, Nat.mod_one]
theorem cell_rowI {w : World} {g m : Nat} {f : Nat → Int} {t : TypeId} (h : w.heap[g]? = some (.cells (rowI f m) t)) (i : Nat) (hi : i < m) : w.cell? ⟨g, i, none⟩ = some (.int .i64 (f i)) := by
  rw [cell_of_row w g i _ t _ h]; exact rowI_get f m i hi
theorem wpOrd_store3c {ops : Array Oper} {Q : Exit → Act → World → Prop} {S : World → Prop} {r : List (Bool × Oper)} {a : Act} {w : World} {o : Oper} (hw : Region.wanted o (yielded ops a.tmps) = true) (x y : Operand) (ho : o.op = .store 3 x y)
    (g i : Nat) (v : Int) (v0 : Value) (hx : a.eval x = .pointer (some ⟨g, i, none⟩)) (hy : a.eval y = .int .i64 v) (hc : w.cell? ⟨g, i, none⟩ = some v0) (hf : w.frozen? ⟨g, i, none⟩ = false)
    (h : S (w.setCell ⟨g, i, none⟩ (.int .i64 v)) ∧ wpOrd Tryz.prog ops Q S r (a.put o.dst undef) (w.setCell ⟨g, i, none⟩ (.int .i64 v))) : wpOrd Tryz.prog ops Q S ((false, o) :: r) a w := by
  simp only [wpOrd, hw, if_true]
  unfold Oper.wp execOp
  simp only [ho, hx, hy]
  simp [go_sem, hc, hf]
  exact h
/-- The targets behind k rounds. -/
def saidK (f : Nat → Int) (k : Nat) : Nat → Int := fun i => if i < k then numN f (4 * (i + 1)) 4 else 0
theorem saidK_next (f : Nat → Int) (k : Nat) : upd (saidK f k) k (numN f (4 * (k + 1)) 4) = saidK f (k + 1) := by
  funext i
  unfold upd saidK
  by_cases h : i = k
  · subst h; rw [if_pos rfl, if_pos (by omega)]
  · rw [if_neg h]
    by_cases h2 : i < k
    · rw [if_pos h2, if_pos (by omega)]
    · rw [if_neg h2, if_neg (by omega)]
theorem saidK_zero (f : Nat → Int) : saidK f 0 = nought := by funext i; unfold saidK nought; rw [if_neg (by omega)]
def listRow (l : List Int) : Array Value := (l.map (Value.int .i64)).toArray
theorem saidK_all (f : Nat → Int) (n : Nat) : rowI (saidK f n) n = listRow (tgts f n) := by
  refine (rowI_ext (by simp [listRow, tgts_len]) fun i hi => ?_).symm
  unfold listRow
  rw [List.getElem?_toArray, List.getElem?_map, tgts_get _ _ _ hi]
  unfold saidK
  rw [if_pos hi]
  rfl
theorem setCell_rowI {w : World} {g m : Nat} {f : Nat → Int} {t : TypeId} (h : w.heap[g]? = some (.cells (rowI f m) t)) (i : Nat) (x : Int) : (w.setCell ⟨g, i, none⟩ (.int .i64 x)).heap[g]? = some (.cells (rowI (upd f i x) m) t) := by
  rw [heap_setCell_same _ _ _ _ _ _ h, rowI_set]
theorem frozen_row {w : World} {g : Nat} {cs : Array Value} {t : TypeId} (h : w.heap[g]? = some (.cells cs t)) (i : Nat) : w.frozen? ⟨g, i, none⟩ = false := by simp [World.frozen?, h]
set_option maxRecDepth 20000 in
set_option maxHeartbeats 2000000 in
theorem said_any (f : Nat → Int) (n : Nat) (w : World) (hf : ∀ i, 0 ≤ f i ∧ f i ≤ 255) (hn : n ≤ 255) :
    Calls Tryz.prog 107 #[.agg (blk f), .int .i64 n] w fun e w' => e = .returned (.slice (some ⟨w.heap.size + 1, 0, none⟩) n n) ∧ w'.heap[w.heap.size + 1]? = some (.cells (listRow (tgts f n)) 3) ∧ Below w.heap.size w w' := by
  obtain ⟨i0, hi0, hz0, hz1, hz2⟩ := info_parts info3
  have hmk : ∀ u : World, (Instr.makeSlice 50 (.int .i64 (n : Int)) (.int .i64 (n : Int))).run Tryz.prog u = .ok (.slice (some ⟨u.heap.size, 0, none⟩) n n) (u.alloc (.cells (rowI nought n) 3)) := fun u => by
    have h := run_make (P := Tryz.prog) u 50 3 i0 (.int .i64 0) Tryz.underlying50 hi0 hz0 .i64 .i64 (n : Int) (n : Int) (by omega) (Int.le_refl _) (by rw [hz2]; omega) (by omega)
    rw [Int.toNat_natCast] at h
    simpa [hz1, Value.cells, made_rowI] using h
  clear hi0 hz0 hz1 hz2
  have HF : Hid (∀ i, 0 ≤ f i ∧ f i ≤ 255) := hf
  clear hf
  go_enter Tryz.func107, Tryz.ntmps107
  go_wp2
  go_loopw [11] (fun s11 wx => ∃ k : Nat, k ≤ n ∧ s11 = .int .i64 k ∧ wx.heap[w.heap.size + 1]? = some (.cells (rowI (saidK f k) n) 3) ∧ wx.heap[w.heap.size]? = some (.cells (blk f) 47) ∧ Below w.heap.size w wx) (fun s11 _ => n - (intOf s11).toNat)
  case atStart => exact ⟨0, by omega, rfl, by rw [saidK_zero]; exact heap_alloc2_new _ _ _, heap_alloc2_old _ _ _, bel_al (below_new _ _) _⟩
  case round =>
    obtain ⟨k, hk, rfl, hg, hg2, hbel⟩ := hrel
    have HW : Hid _ := hbel
    clear hbel hmk
    by_cases hk2 : (k : Int) < n
    · have hst := fun (w : World) => u32_any f (4 * ((k : Int) + 1)) w HF.out
      have hpl := fun (w : World) => place_any k w (by omega)
      have hbd := numN_bd f HF.out 4 (4 * (k + 1))
      rw [show num f (4 * ((k : Int) + 1)) 4 = numN f (4 * (k + 1)) 4 by rw [show 4 * ((k : Int) + 1) = ((4 * (k + 1) : Nat) : Int) by omega, num_in _ _ _ (by omega)]] at hst
      have hnx := saidK_next f k
      generalize numN f (4 * (k + 1)) 4 = x at *
      generalize saidK f k = K at *
      have HST : Hid _ := hst
      have HPL : Hid _ := hpl
      have HN : Hid (upd K k x = saidK f (k + 1)) := hnx
      have hx0 := hbd.1
      have hx1 : x < 4294967296 := hbd.2
      have hwx : IntKind.i64.wrap x = x := by rw [IntKind.wrap_i64]; omega
      clear hst hpl hnx hbd HF
      go_wp2
      refine wp_region_fork (S := fun _ => True) [0, 1, 3] 2 4 [(5, false), (6, true), (7, true), (8, false)] (by kernel_rfl) rfl (by kernel_rfl) (fun d _ _ _ _ h => by cases d <;> exact h) trivial ?_
      refine wpFork_yield (v := .slice (some ⟨w.heap.size + 1, 0, none⟩) n n) rfl rfl (fun u _ => by simp [execOp, Act.eval]) ?_
      simp only [Act.put, List.setIfInBounds_toArray, List.set_cons_succ, List.set_cons_zero]
      refine wpFork_yield (v := .int .i64 (k : Int)) rfl rfl (fun u _ => by simp [execOp, Act.eval]) ?_
      simp only [Act.put, List.setIfInBounds_toArray, List.set_cons_succ, List.set_cons_zero]
      refine wpFork_yield (v := .int .i64 (k : Int)) rfl rfl (fun u _ => by simp [execOp, Act.eval]) ?_
      simp only [Act.put, List.setIfInBounds_toArray, List.set_cons_succ, List.set_cons_zero]
      have hg0 : wr.drew.heap[w.heap.size + 1]? = some (.cells (rowI K n) 3) := hg
      have hg20 : wr.drew.heap[w.heap.size]? = some (.cells (blk f) 47) := hg2
      have HBd : Hid (Below w.heap.size w wr.drew) := HW.out.drew
      clear hg hg2 HW
      generalize wr.drew = wd at *
      refine wpFork_nil rfl rfl ?_ ?_
      all_goals simp only [inOrd, List.getElem?_cons_zero, List.getElem?_cons_succ]
      · refine wpOrd_loadF rfl _ rfl _ rfl _ hg20 ⟨trivial, ?_⟩
        simp only [Act.put, List.setIfInBounds_toArray, List.set_cons_succ, List.set_cons_zero]
        refine wpOrd_call rfl 48 _ _ rfl Tryz.call48 [.int .i64 (k : Int)] rfl ?_
        refine (HPL.out _).mono ?_
        rintro e' X ⟨rfl, rfl⟩
        refine ⟨_, rfl, trivial, ?_⟩
        simp only [Act.put, List.setIfInBounds_toArray, List.set_cons_succ, List.set_cons_zero]
        refine wpOrd_call rfl 106 _ _ rfl Tryz.call106 [.agg (blk f), .int .i64 (4 * ((k : Int) + 1))] rfl ?_
        refine (HST.out _).mono ?_
        rintro e' X ⟨rfl, hbx⟩
        refine ⟨_, rfl, trivial, ?_⟩
        simp only [Act.put, List.setIfInBounds_toArray, List.set_cons_succ, List.set_cons_zero]
        refine wpOrd_yield (v := .int .i64 x) rfl (fun u _ => by go_simp) ?_
        simp only [Act.put, List.setIfInBounds_toArray, List.set_cons_succ, List.set_cons_zero]
        refine wpOrd_yield (v := .pointer (some ⟨w.heap.size + 1, k, none⟩)) rfl (fun u _ => by go_simp) ?_
        simp only [Act.put, List.setIfInBounds_toArray, List.set_cons_succ, List.set_cons_zero]
        have h1 := heap_kept hg0 hbx
        have h2 := heap_kept hg20 hbx
        have HB1 : Hid (Below w.heap.size w X) := below_next HBd.out hbx
        refine wpOrd_store3c rfl _ _ rfl _ _ _ _ rfl rfl (cell_rowI h1 k (by omega)) (frozen_row h1 k) ⟨trivial, ?_⟩
        refine wpOrd_nil ?_
        have h3 := setCell_rowI h1 k x
        have h4 : (X.setCell ⟨w.heap.size + 1, k, none⟩ (.int .i64 x)).heap[w.heap.size]? = some (.cells (blk f) 47) := (heap_setCell_other _ _ _ _ (by simp)).trans h2
        have HB2 : Hid (Below w.heap.size w (X.setCell ⟨w.heap.size + 1, k, none⟩ (.int .i64 x))) := HB1.out.setCell (p := ⟨w.heap.size + 1, k, none⟩) (by show w.heap.size ≤ w.heap.size + 1; omega) _
        rw [HN.out] at h3
        simp only [Act.put]
        generalize X.setCell ⟨w.heap.size + 1, k, none⟩ (.int .i64 x) = Y at h3 h4 HB2 ⊢
        clear h1 h2 hg0 hg20 HB1 HBd hbx HST HPL
        go_wp2
        exact ⟨⟨k + 1, by omega, by go_num, h3, h4, HB2.out⟩, by simp [intOf]; omega⟩
      · refine wpOrd_call rfl 48 _ _ rfl Tryz.call48 [.int .i64 (k : Int)] rfl ?_
        refine (HPL.out _).mono ?_
        rintro e' X ⟨rfl, rfl⟩
        refine ⟨_, rfl, trivial, ?_⟩
        simp only [Act.put, List.setIfInBounds_toArray, List.set_cons_succ, List.set_cons_zero]
        refine wpOrd_loadF rfl _ rfl _ rfl _ hg20 ⟨trivial, ?_⟩
        simp only [Act.put, List.setIfInBounds_toArray, List.set_cons_succ, List.set_cons_zero]
        refine wpOrd_call rfl 106 _ _ rfl Tryz.call106 [.agg (blk f), .int .i64 (4 * ((k : Int) + 1))] rfl ?_
        refine (HST.out _).mono ?_
        rintro e' X ⟨rfl, hbx⟩
        refine ⟨_, rfl, trivial, ?_⟩
        simp only [Act.put, List.setIfInBounds_toArray, List.set_cons_succ, List.set_cons_zero]
        refine wpOrd_yield (v := .int .i64 x) rfl (fun u _ => by go_simp) ?_
        simp only [Act.put, List.setIfInBounds_toArray, List.set_cons_succ, List.set_cons_zero]
        refine wpOrd_yield (v := .pointer (some ⟨w.heap.size + 1, k, none⟩)) rfl (fun u _ => by go_simp) ?_
        simp only [Act.put, List.setIfInBounds_toArray, List.set_cons_succ, List.set_cons_zero]
        have h1 := heap_kept hg0 hbx
        have h2 := heap_kept hg20 hbx
        have HB1 : Hid (Below w.heap.size w X) := below_next HBd.out hbx
        refine wpOrd_store3c rfl _ _ rfl _ _ _ _ rfl rfl (cell_rowI h1 k (by omega)) (frozen_row h1 k) ⟨trivial, ?_⟩
        refine wpOrd_nil ?_
        have h3 := setCell_rowI h1 k x
        have h4 : (X.setCell ⟨w.heap.size + 1, k, none⟩ (.int .i64 x)).heap[w.heap.size]? = some (.cells (blk f) 47) := (heap_setCell_other _ _ _ _ (by simp)).trans h2
        have HB2 : Hid (Below w.heap.size w (X.setCell ⟨w.heap.size + 1, k, none⟩ (.int .i64 x))) := HB1.out.setCell (p := ⟨w.heap.size + 1, k, none⟩) (by show w.heap.size ≤ w.heap.size + 1; omega) _
        rw [HN.out] at h3
        simp only [Act.put]
        generalize X.setCell ⟨w.heap.size + 1, k, none⟩ (.int .i64 x) = Y at h3 h4 HB2 ⊢
        clear h1 h2 hg0 hg20 HB1 HBd hbx HST HPL
        go_wp2
        exact ⟨⟨k + 1, by omega, by go_num, h3, h4, HB2.out⟩, by simp [intOf]; omega⟩
    · obtain rfl : k = n := by omega
      rw [saidK_all] at hg
      clear hk HF
      go_wp2
      go_ret
      exact ⟨rfl, hg, HW.out⟩
end Go.Proofs.YtiadlcjdpbkbkaaGreatD.H
/- Decode of head: the header that a block says, or none; for every layout and every block. -/
namespace Go.Proofs.YtiadlcjdpbkbkaaGreatD.H
open Go.RowKit
theorem size35H : (Tryz.prog.info? 52).map (·.size) = some 1 := by kernel_rfl
theorem under35 : Tryz.prog.underlying 52 = some (.struct (Tryz.prog.fieldsOf 52)) := by kernel_rfl
theorem load35H (w : World) (g : Nat) (v : Value) (h : w.heap[g]? = some (.cells #[v] 52)) : (loadVar 52 ⟨g, 0, none⟩).run Tryz.prog w = .ok (.agg #[v]) w :=
  run_loadVar_row w g 52 52 #[v] (0, 0) _ h under35 rfl size35H
section
variable {ops : Array Oper} {rest : List Oper} {o : Oper} {a : Act} {w : World} {Q : Exit → Act → World → Prop}
theorem wpList_load35H (hgd : o.guard = none) (x : Operand) (ho : o.op = .load 52 x) (g : Nat) (hx : a.eval x = .pointer (some ⟨g, 0, none⟩)) (v : Value) (hg : w.heap[g]? = some (.cells #[v] 52))
    (h : wpList Tryz.prog ops Q rest (a.put o.dst (.agg #[v])) w) : wpList Tryz.prog ops Q (o :: rest) a w :=
  wpList_load_row hgd 52 x ho g hx 52 #[v] (0, 0) _ hg under35 rfl size35H h
theorem wpList_store35H (hgd : o.guard = none) (x y : Operand) (ho : o.op = .store 52 x y) (g : Nat) (v v0 : Value) (hv : v.oneCell' = true) (hx : a.eval x = .pointer (some ⟨g, 0, none⟩)) (hy : a.eval y = .agg #[v]) (hg : w.heap[g]? = some (.cells #[v0] 52))
    (h : wpList Tryz.prog ops Q rest (a.put o.dst undef) (w.setRow g #[v])) : wpList Tryz.prog ops Q (o :: rest) a w := by
  refine wpList_plain hgd fun _ hK => ?_
  unfold Oper.wp execOp
  simp only [ho, hx, hy, Instr.storeAt, Instr.sureAddr, Sem.run_bind, Sem.run_pure, Result.andThen_ok, run_storeVar_row w g 52 52 #[v0] #[v] hg size35H rfl (by simp [hv])]
  exact hK _ _ h
end
set_option maxRecDepth 20000 in
set_option maxHeartbeats 400000 in
theorem dec_not (b l i a c d e f g : Int) (F : Nat → Int) (w : World) (hb : I64 b) (hs : standsB b l i a c d e f g = false) :
    Calls Tryz.prog 93 #[.agg (lay9 b l i a c d e f g), .agg (blk F)] w fun e' w' => e' = .returned (.tuple #[.agg #[.slice none 0 0], .int .i64 2]) ∧ Below w.heap.size w w' := by
  have hc := fun w => hstands_any b l i a c d e f g w hb
  rw [hs] at hc
  clear hs
  have hsz : (lay9 b l i a c d e f g).size = 9 := rfl
  generalize lay9 b l i a c d e f g = L at *
  go_enter Tryz.func93, Tryz.ntmps93
  go_wp2_with (first | refine wpList_loadL rfl _ rfl _ rfl _ hsz (heap3o _ _ _ _) ?_ | (go_at_call 45; fail))
  refine (hc _).mono ?_
  rintro e' W1 ⟨rfl, hb1⟩
  have h2 := heap_kept (heap3n w _ _ _) hb1
  have HB : Hid (Below w.heap.size w W1) := below_next (below3 _ _ _ _) hb1
  clear hb1 hc
  go_wp2_with (first | refine wpList_store35H rfl _ _ rfl _ _ _ rfl rfl rfl h2 ?_)
  refine retCT rfl (w.heap.size + 2) _ rfl (load35H _ _ _ (setRow_heap _ _ _ _ _ _ h2)) rfl ⟨rfl, below_setRow HB.out (by omega) _⟩
set_option maxRecDepth 20000 in
set_option maxHeartbeats 400000 in
theorem dec_more (b l i a c d e f g : Int) (F : Nat → Int) (w : World) (hb : I64 b) (hs : standsB b l i a c d e f g = true) (hl : 32 ≤ l ∧ l ≤ 256) (hF : ∀ i, 0 ≤ F i ∧ F i ≤ 255) (hn : l - 1 < numN F 0 4) :
    Calls Tryz.prog 93 #[.agg (lay9 b l i a c d e f g), .agg (blk F)] w fun e' w' => e' = .returned (.tuple #[.agg #[.slice none 0 0], .int .i64 4]) ∧ Below w.heap.size w w' := by
  have hc := fun w => hstands_any b l i a c d e f g w hb
  rw [hs] at hc
  have hM := fun w => most_any b l i a c d e f g w hl
  have hU := fun w => u32_any F 0 w hF
  rw [show num F 0 4 = numN F 0 4 from num_in F 0 4 (by omega)] at hU
  clear hs hF
  have hsz : (lay9 b l i a c d e f g).size = 9 := rfl
  generalize lay9 b l i a c d e f g = L at *
  generalize numN F 0 4 = n at *
  have hm : 27 ≤ l - 1 ∧ l - 1 ≤ 255 := by omega
  generalize l - 1 = m at *
  have g0 : decide (m < n) = true := decide_eq_true hn
  have hwr : IntKind.u32.wrap m = m := by rw [wrap_u32]; omega
  go_enter Tryz.func93, Tryz.ntmps93
  go_wp2_with (first | refine wpList_loadL rfl _ rfl _ rfl _ hsz (heap3o _ _ _ _) ?_ | (go_at_call 45; fail))
  refine (hc _).mono ?_
  rintro e' W1 ⟨rfl, hb1⟩
  have h0 := heap_kept (heap3o w _ _ _) hb1
  have h1 := heap_kept (heap3 w _ _ _) hb1
  have h2 := heap_kept (heap3n w _ _ _) hb1
  have HB : Hid (Below w.heap.size w W1) := below_next (below3 _ _ _ _) hb1
  clear hb1 hc
  go_wp2_with (first | refine wpList_load25 rfl _ rfl _ rfl _ h1 ?_ | (go_at_call 106; fail))
  refine (hU _).mono ?_
  rintro e' W2 ⟨rfl, hb2⟩
  have h3 := heap_kept h2 hb2
  have h4 := heap_kept h0 hb2
  have HB2 : Hid (Below w.heap.size w W2) := below_next HB.out hb2
  clear hb2 hU h0 h1 h2 HB
  go_wp2_with (first | refine wpList_loadL rfl _ rfl _ rfl _ hsz h4 ?_ | (go_at_call 67; fail))
  refine (hM _).mono ?_
  rintro e' W3 ⟨rfl, hb3⟩
  have h5 := heap_kept h3 hb3
  have HB3 : Hid (Below w.heap.size w W3) := below_next HB2.out hb3
  clear hb3 hM h3 h4 HB2
  go_wp2_with (first | refine wpList_store35H rfl _ _ rfl _ _ _ rfl rfl rfl h5 ?_)
  refine retCT rfl (w.heap.size + 2) _ rfl (load35H _ _ _ (setRow_heap _ _ _ _ _ _ h5)) rfl ⟨rfl, below_setRow HB3.out (by omega) _⟩
theorem listRow_at {W : World} {q : Nat} {T : List Int} (h : W.heap[q]? = some (.cells (listRow T) 3)) : IntsAt W (some ⟨q, 0, none⟩) T := fun _ =>
  ⟨q, 0, rfl, (Array.getElem?_eq_some_iff.1 h).1, fun j x hx => by
    rw [cell_of_row W q _ _ 3 _ h]
    unfold listRow
    rw [List.getElem?_toArray, List.getElem?_map, Nat.zero_add, hx]
    rfl⟩
set_option maxRecDepth 20000 in
set_option maxHeartbeats 1000000 in
theorem dec_bad (b l i a c d e f g : Int) (F : Nat → Int) (n : Nat) (w : World) (hb : I64 b) (hs : standsB b l i a c d e f g = true) (hl : 32 ≤ l ∧ l ≤ 256) (hF : ∀ i, 0 ≤ F i ∧ F i ≤ 255) (hN : numN F 0 4 = n) (hn : (n : Int) ≤ l - 1)
    (hm : mayB c b (l - 1) (tgts F n) = false) :
    Calls Tryz.prog 93 #[.agg (lay9 b l i a c d e f g), .agg (blk F)] w fun e' w' => e' = .returned (.tuple #[.agg #[.slice none 0 0], .int .i64 4]) ∧ Below w.heap.size w w' := by
  have hc := fun w => hstands_any b l i a c d e f g w hb
  rw [hs] at hc
  have hM := fun w => most_any b l i a c d e f g w hl
  have hU := fun w => u32_any F 0 w hF
  rw [show num F 0 4 = numN F 0 4 from num_in F 0 4 (by omega), hN] at hU
  have hS := fun w => said_any F n w hF (by omega)
  have hA := fun W (p : Option Addr) (h : IntsAt W p (tgts F n)) => may_any b l i a c d e f g (tgts F n) p n W hl (by rw [tgts_len]; omega) h (allU_wf (tgts_u F hF n))
  rw [hm, tgts_len] at hA
  have HI : Hid (∀ (W : World) (q : Nat), W.heap[q]? = some (.cells (listRow (tgts F n)) 3) → IntsAt W (some ⟨q, 0, none⟩) (tgts F n)) := fun W q h => listRow_at h
  clear hs hF hm hN
  have hsz : (lay9 b l i a c d e f g).size = 9 := rfl
  generalize tgts F n = T at *
  generalize lay9 b l i a c d e f g = L at *
  have hm : 27 ≤ l - 1 ∧ l - 1 ≤ 255 := by omega
  generalize l - 1 = m at *
  have g0 : decide (m < (n : Int)) = false := decide_eq_false (by omega)
  have hwr : IntKind.u32.wrap m = m := by rw [wrap_u32]; omega
  have hwn : IntKind.i64.wrap (n : Int) = n := by rw [IntKind.wrap_i64]; omega
  go_enter Tryz.func93, Tryz.ntmps93
  go_wp2_with (first | refine wpList_loadL rfl _ rfl _ rfl _ hsz (heap3o _ _ _ _) ?_ | (go_at_call 45; fail))
  refine (hc _).mono ?_
  rintro e' W1 ⟨rfl, hb1⟩
  have h0 := heap_kept (heap3o w _ _ _) hb1
  have h1 := heap_kept (heap3 w _ _ _) hb1
  have h2 := heap_kept (heap3n w _ _ _) hb1
  have HB : Hid (Below w.heap.size w W1) := below_next (below3 _ _ _ _) hb1
  clear hb1 hc
  go_wp2_with (first | refine wpList_load25 rfl _ rfl _ rfl _ h1 ?_ | (go_at_call 106; fail))
  refine (hU _).mono ?_
  rintro e' W2 ⟨rfl, hb2⟩
  have h3 := heap_kept h2 hb2
  have h4 := heap_kept h0 hb2
  have h4b := heap_kept h1 hb2
  have HB2 : Hid (Below w.heap.size w W2) := below_next HB.out hb2
  clear hb2 hU h0 h1 h2 HB
  go_wp2_with (first | refine wpList_loadL rfl _ rfl _ rfl _ hsz h4 ?_ | (go_at_call 67; fail))
  refine (hM _).mono ?_
  rintro e' W3 ⟨rfl, hb3⟩
  have h5 := heap_kept h3 hb3
  have h6 := heap_kept h4 hb3
  have h6b := heap_kept h4b hb3
  have HB3 : Hid (Below w.heap.size w W3) := below_next HB2.out hb3
  clear hb3 hM h3 h4 h4b HB2
  go_wp2_with (first | refine wpList_load25 rfl _ rfl _ rfl _ h6b ?_ | (go_at_call 107; fail))
  refine (hS _).mono ?_
  rintro e' W4 ⟨rfl, hrow, hb4⟩
  have h7 := heap_kept h5 hb4
  have h8 := heap_kept h6 hb4
  have hq : w.heap.size ≤ W3.heap.size + 1 := by have := HB3.out.size; omega
  generalize W3.heap.size + 1 = q at *
  have HB4 : Hid (Below w.heap.size w W4) := below_next HB3.out hb4
  clear hb4 hS h5 h6 h6b HB3
  go_wp2_with (first | refine wpList_loadL rfl _ rfl _ rfl _ hsz h8 ?_ | (go_at_call 46; fail))
  refine (hA _ _ (HI.out _ _ hrow)).mono ?_
  rintro e' W5 ⟨rfl, hb5⟩
  have h9 := heap_kept h7 hb5
  have hrow2 := heap_kept hrow hb5
  have HB5 : Hid (Below w.heap.size w W5) := below_next HB4.out hb5
  have hqn : q ≠ w.heap.size + 2 := fun e => by
    rw [e, h9] at hrow2
    simp at hrow2
  clear hb5 hA h7 h8 hrow HB4
  go_wp2_with (first | refine wpList_store35H rfl _ _ rfl _ _ _ rfl rfl rfl h9 ?_)
  refine retCT rfl (w.heap.size + 2) _ rfl (load35H _ _ _ (setRow_heap _ _ _ _ _ _ h9)) rfl ⟨rfl, below_setRow HB5.out (by omega) _⟩
set_option maxRecDepth 20000 in
set_option maxHeartbeats 1000000 in
theorem dec_ok (b l i a c d e f g : Int) (F : Nat → Int) (n : Nat) (w : World) (hb : I64 b) (hs : standsB b l i a c d e f g = true) (hl : 32 ≤ l ∧ l ≤ 256) (hF : ∀ i, 0 ≤ F i ∧ F i ≤ 255) (hN : numN F 0 4 = n) (hn : (n : Int) ≤ l - 1)
    (hm : mayB c b (l - 1) (tgts F n) = true) :
    Calls Tryz.prog 93 #[.agg (lay9 b l i a c d e f g), .agg (blk F)] w fun e' w' => ∃ q, e' = .returned (.tuple #[.agg #[.slice (some ⟨q, 0, none⟩) n n], .int .i64 0]) ∧ w.heap.size ≤ q ∧ w'.heap[q]? = some (.cells (listRow (tgts F n)) 3) ∧ Below w.heap.size w w' := by
  have hc := fun w => hstands_any b l i a c d e f g w hb
  rw [hs] at hc
  have hM := fun w => most_any b l i a c d e f g w hl
  have hU := fun w => u32_any F 0 w hF
  rw [show num F 0 4 = numN F 0 4 from num_in F 0 4 (by omega), hN] at hU
  have hS := fun w => said_any F n w hF (by omega)
  have hA := fun W (p : Option Addr) (h : IntsAt W p (tgts F n)) => may_any b l i a c d e f g (tgts F n) p n W hl (by rw [tgts_len]; omega) h (allU_wf (tgts_u F hF n))
  rw [hm, tgts_len] at hA
  have HI : Hid (∀ (W : World) (q : Nat), W.heap[q]? = some (.cells (listRow (tgts F n)) 3) → IntsAt W (some ⟨q, 0, none⟩) (tgts F n)) := fun W q h => listRow_at h
  clear hs hF hm hN
  have hsz : (lay9 b l i a c d e f g).size = 9 := rfl
  generalize tgts F n = T at *
  generalize lay9 b l i a c d e f g = L at *
  have hm : 27 ≤ l - 1 ∧ l - 1 ≤ 255 := by omega
  generalize l - 1 = m at *
  have g0 : decide (m < (n : Int)) = false := decide_eq_false (by omega)
  have hwr : IntKind.u32.wrap m = m := by rw [wrap_u32]; omega
  have hwn : IntKind.i64.wrap (n : Int) = n := by rw [IntKind.wrap_i64]; omega
  go_enter Tryz.func93, Tryz.ntmps93
  go_wp2_with (first | refine wpList_loadL rfl _ rfl _ rfl _ hsz (heap3o _ _ _ _) ?_ | (go_at_call 45; fail))
  refine (hc _).mono ?_
  rintro e' W1 ⟨rfl, hb1⟩
  have h0 := heap_kept (heap3o w _ _ _) hb1
  have h1 := heap_kept (heap3 w _ _ _) hb1
  have h2 := heap_kept (heap3n w _ _ _) hb1
  have HB : Hid (Below w.heap.size w W1) := below_next (below3 _ _ _ _) hb1
  clear hb1 hc
  go_wp2_with (first | refine wpList_load25 rfl _ rfl _ rfl _ h1 ?_ | (go_at_call 106; fail))
  refine (hU _).mono ?_
  rintro e' W2 ⟨rfl, hb2⟩
  have h3 := heap_kept h2 hb2
  have h4 := heap_kept h0 hb2
  have h4b := heap_kept h1 hb2
  have HB2 : Hid (Below w.heap.size w W2) := below_next HB.out hb2
  clear hb2 hU h0 h1 h2 HB
  go_wp2_with (first | refine wpList_loadL rfl _ rfl _ rfl _ hsz h4 ?_ | (go_at_call 67; fail))
  refine (hM _).mono ?_
  rintro e' W3 ⟨rfl, hb3⟩
  have h5 := heap_kept h3 hb3
  have h6 := heap_kept h4 hb3
  have h6b := heap_kept h4b hb3
  have HB3 : Hid (Below w.heap.size w W3) := below_next HB2.out hb3
  clear hb3 hM h3 h4 h4b HB2
  go_wp2_with (first | refine wpList_load25 rfl _ rfl _ rfl _ h6b ?_ | (go_at_call 107; fail))
  refine (hS _).mono ?_
  rintro e' W4 ⟨rfl, hrow, hb4⟩
  have h7 := heap_kept h5 hb4
  have h8 := heap_kept h6 hb4
  have hq : w.heap.size ≤ W3.heap.size + 1 := by have := HB3.out.size; omega
  generalize W3.heap.size + 1 = q at *
  have HB4 : Hid (Below w.heap.size w W4) := below_next HB3.out hb4
  clear hb4 hS h5 h6 h6b HB3
  go_wp2_with (first | refine wpList_loadL rfl _ rfl _ rfl _ hsz h8 ?_ | (go_at_call 46; fail))
  refine (hA _ _ (HI.out _ _ hrow)).mono ?_
  rintro e' W5 ⟨rfl, hb5⟩
  have h9 := heap_kept h7 hb5
  have hrow2 := heap_kept hrow hb5
  have HB5 : Hid (Below w.heap.size w W5) := below_next HB4.out hb5
  have hqn : q ≠ w.heap.size + 2 := fun e => by
    rw [e, h9] at hrow2
    simp at hrow2
  clear hb5 hA h7 h8 hrow HB4
  go_wp2_with (first | refine wpList_store35H rfl _ _ rfl _ _ _ rfl rfl rfl h9 ?_)
  refine retCT rfl (w.heap.size + 2) _ rfl (load35H _ _ _ (setRow_heap _ _ _ _ _ _ h9)) rfl ⟨q, rfl, hq, (setRow_other _ _ _ _ hqn).trans hrow2, below_setRow HB5.out (by omega) _⟩
end Go.Proofs.YtiadlcjdpbkbkaaGreatD.H
/- What chapter 7's examples say; closed. -/
namespace Go.Proofs.YtiadlcjdpbkbkaaGreatD.H
open Go.RowKit
section
variable {ops : Array Oper} {rest : List Oper} {o : Oper} {a : Act} {w : World} {Q : Exit → Act → World → Prop}
variable {dst : Option Tmp} {x y : Operand} {ty : TypeId} {pos : String} {aft : Array Edge} {gd : Option (Nat × Bool)}
theorem isLoad (t : TypeId) (h : wpList Tryz.prog ops Q (⟨dst, .load t x, ty, pos, aft, gd⟩ :: rest) a w) : wpList Tryz.prog ops Q (⟨dst, .load t x, ty, pos, aft, gd⟩ :: rest) a w := h
theorem isStore (t : TypeId) (h : wpList Tryz.prog ops Q (⟨dst, .store t x y, ty, pos, aft, gd⟩ :: rest) a w) : wpList Tryz.prog ops Q (⟨dst, .store t x y, ty, pos, aft, gd⟩ :: rest) a w := h
theorem isBuild (t : TypeId) {ps : Array (Nat × Operand)} (h : wpList Tryz.prog ops Q (⟨dst, .build t ps, ty, pos, aft, gd⟩ :: rest) a w) : wpList Tryz.prog ops Q (⟨dst, .build t ps, ty, pos, aft, gd⟩ :: rest) a w := h
theorem isEq (t t' : TypeId) {bo : BinOp} (h : wpList Tryz.prog ops Q (⟨dst, .binOp bo t x y t', ty, pos, aft, gd⟩ :: rest) a w) : wpList Tryz.prog ops Q (⟨dst, .binOp bo t x y t', ty, pos, aft, gd⟩ :: rest) a w := h
end
theorem wpList_load30w {ops : Array Oper} {rest : List Oper} {o : Oper} {a : Act} {w : World} {Q : Exit → Act → World → Prop} (hw : Region.wanted o (yielded ops a.tmps) = true) (x : Operand) (ho : o.op = .load 47 x)
    (g : Nat) (hx : a.eval x = .pointer (some ⟨g, 0, none⟩)) (f : Nat → Int) (hg : w.heap[g]? = some (.cells (blk f) 47))
    (h : wpList Tryz.prog ops Q rest (a.put o.dst (.agg (blk f))) w) : wpList Tryz.prog ops Q (o :: rest) a w := by
  unfold wpList
  rw [if_pos hw]
  refine .inl ?_
  unfold Oper.wp execOp
  simp only [ho, hx, Instr.loadAt, Instr.sureAddr, Sem.run_bind, Sem.run_pure, Result.andThen_ok, run_loadVar_row w g 47 47 (blk f) (0, 0) _ hg Tryz.underlying47 rfl (by rw [blk_size]; exact size25)]
  exact h
/-- A layout laid into a new cell. -/
theorem wpList_storeL_new {ops : Array Oper} {rest : List Oper} {o : Oper} {a : Act} {w : World} {Q : Exit → Act → World → Prop} (hgd : o.guard = none) (x y : Operand) (ho : o.op = .store 43 x y)
    (cs c0 : Array Value) (hs : cs.size = 9) (hs0 : c0.size = 9) (h1 : cs.all (·.oneCell') = true) (g : Nat) (hg : g = w.heap.size) (hx : a.eval x = .pointer (some ⟨g, 0, none⟩)) (hy : a.eval y = .agg cs)
    (h : wpList Tryz.prog ops Q rest (a.put o.dst undef) (w.alloc (.cells cs 43))) : wpList Tryz.prog ops Q (o :: rest) a (w.alloc (.cells c0 43)) := by
  subst hg
  refine wpList_plain hgd fun _ hK => ?_
  have hz : (Tryz.prog.info? 43).map (·.size) = some cs.size := by rw [hs]; exact size25L
  have e := run_storeVar_row (P := Tryz.prog) (w.alloc (.cells c0 43)) w.heap.size 43 43 c0 cs (heap_alloc_new _ _) hz (by rw [hs, hs0]) h1
  rw [World.setRow_alloc_new] at e
  unfold Oper.wp execOp
  simp only [ho, hx, hy, Instr.storeAt, Instr.sureAddr, Sem.run_bind, Sem.run_pure, Result.andThen_ok, e]
  exact hK _ _ h
theorem lay_one (b l i a c d e f g : Int) : (lay9 b l i a c d e f g).all (·.oneCell') = true := by simp [lay9, Value.oneCell']
/-- The layout of the document's examples. -/
theorem new_at (T : List Int) (R : Array Value) (hR : listRow T = R) (W : World) (g : Nat) (hg : W.heap.size = g) : IntsAt (W.alloc (.cells R 3)) (some ⟨g, 0, none⟩) T := by
  subst hR hg
  exact listRow_at (heap_alloc_new _ _)
end Go.Proofs.YtiadlcjdpbkbkaaGreatD.H
/- Lists of numbers that the call makes, appended to; blocks compared; a block laid in a drawn region. -/
namespace Go.Proofs.YtiadlcjdpbkbkaaGreatD.H
open Go.RowKit
section
variable {ops : Array Oper} {rest : List Oper} {o : Oper} {a : Act} {w : World} {Q : Exit → Act → World → Prop}
theorem eq30 (f g : Nat → Int) (b : Bool) (hb : sameB f g = b) (u : World) : (binOp .eql 47 (.agg (blk f)) (.agg (blk g))).run Tryz.prog u = .ok (.bool b) u := by
  have h := eq25 f g u
  rw [hb] at h
  generalize blk f = F at *
  generalize blk g = G at *
  simp only [binOp, Op.equal, Op.maxDepth, Sem.run_bind, h, Result.andThen_ok, Sem.run_pure]
theorem eqg30 (x y : Operand) (F G : Array Value) (u : World) : (eqGuard .eql 47 x y (.agg F) (.agg G)).run Tryz.prog u = .ok () u := by
  unfold eqGuard
  simp
theorem neq30 (f g : Nat → Int) (b : Bool) (hb : sameB f g = b) (u : World) : (binOp .neq 47 (.agg (blk f)) (.agg (blk g))).run Tryz.prog u = .ok (.bool (!b)) u := by
  have h := eq25 f g u
  rw [hb] at h
  generalize blk f = F at *
  generalize blk g = G at *
  simp only [binOp, Op.equal, Op.maxDepth, Sem.run_bind, h, Result.andThen_ok, Sem.run_pure]
theorem neqg30 (x y : Operand) (F G : Array Value) (u : World) : (eqGuard .neq 47 x y (.agg F) (.agg G)).run Tryz.prog u = .ok () u := by
  unfold eqGuard
  simp
theorem wpList_eq30 (hw : Region.wanted o (yielded ops a.tmps) = true) (x y : Operand) (ho : o.op = .binOp .eql 47 x y 47) (f g : Nat → Int) (b : Bool) (hx : a.eval x = .agg (blk f)) (hy : a.eval y = .agg (blk g)) (hb : sameB f g = b)
    (h : wpList Tryz.prog ops Q rest (a.put o.dst (.bool b)) w) : wpList Tryz.prog ops Q (o :: rest) a w := by
  unfold wpList
  rw [if_pos hw]
  refine .inl ?_
  have e := eq30 f g b hb w
  unfold Oper.wp execOp
  simp only [ho, hx, hy, Sem.run_bind, eqg30, e, Result.andThen_ok, Sem.run_pure]
  exact h
theorem wpList_neq30 (hw : Region.wanted o (yielded ops a.tmps) = true) (x y : Operand) (ho : o.op = .binOp .neq 47 x y 47) (f g : Nat → Int) (b : Bool) (hx : a.eval x = .agg (blk f)) (hy : a.eval y = .agg (blk g)) (hb : sameB f g = b)
    (h : wpList Tryz.prog ops Q rest (a.put o.dst (.bool (!b))) w) : wpList Tryz.prog ops Q (o :: rest) a w := by
  unfold wpList
  rw [if_pos hw]
  refine .inl ?_
  have e := neq30 f g b hb w
  unfold Oper.wp execOp
  simp only [ho, hx, hy, Sem.run_bind, neqg30, e, Result.andThen_ok, Sem.run_pure]
  exact h
theorem build30 (u : World) : (Instr.build 47 #[]).run Tryz.prog u = .ok (.agg (blk nought)) u := by
  have z25 := zero25
  simp [Instr.build, z25, run_underlying Tryz.underlying47, Tryz.sizeOf5, Instr.fill, Value.cells]
theorem wpList_build30w (hw : Region.wanted o (yielded ops a.tmps) = true) (ho : o.op = .build 47 #[])
    (h : wpList Tryz.prog ops Q rest (a.put o.dst (.agg (blk nought))) w) : wpList Tryz.prog ops Q (o :: rest) a w := by
  unfold wpList
  rw [if_pos hw]
  refine .inl ?_
  have hb := build30 w
  generalize blk nought = Z at *
  have e : (execOp a.eval o).run Tryz.prog w = .ok (.value (.agg Z)) w := by
    unfold execOp
    simp only [ho, Array.map_empty, Sem.run_bind]
    simp only [hb, Result.andThen_ok, Sem.run_pure]
  unfold Oper.wp
  rw [e]
  exact h
theorem act_done {S : World → Prop} {K : Act → World → Prop} {w' : World} (hw : Region.wanted o (yielded ops a.tmps) = true) (hr : (execOp a.eval o).run Tryz.prog w = .ok .skip w') (hS : S w') (h : K (a.put o.dst undef) w') : wpAct Tryz.prog ops Q S o K a w := by
  unfold wpAct
  rw [if_pos hw]
  unfold Oper.wp
  rw [hr]
  exact ⟨hS, h⟩
theorem exec_allocB (ho : o.op = .alloc 47) : (execOp a.eval o).run Tryz.prog w = .ok (.value (.pointer (some ⟨w.heap.size, 0, none⟩))) (w.alloc (.cells (blk nought) 47)) := by
  have z := zero25
  unfold execOp
  generalize blk nought = Z at *
  simp [ho, go_sem, z]
theorem exec_storeB {x y : Operand} (ho : o.op = .store 47 x y) (g : Nat) (f f0 : Nat → Int) (hx : a.eval x = .pointer (some ⟨g, 0, none⟩)) (hy : a.eval y = .agg (blk f)) (hg : w.heap[g]? = some (.cells (blk f0) 47)) :
    (execOp a.eval o).run Tryz.prog w = .ok .skip (w.setRow g (blk f)) := by
  unfold execOp
  simp only [ho, hx, hy, Instr.storeAt, Instr.sureAddr, Sem.run_bind, Sem.run_pure, Result.andThen_ok, run_storeVar_row w g 47 47 (blk f0) (blk f) hg (by rw [blk_size]; exact size25) (by rw [blk_size, blk_size]) (blk_one f)]
theorem exec_loadB {x : Operand} (ho : o.op = .load 47 x) (g : Nat) (f : Nat → Int) (hx : a.eval x = .pointer (some ⟨g, 0, none⟩)) (hg : w.heap[g]? = some (.cells (blk f) 47)) : (execOp a.eval o).run Tryz.prog w = .ok (.value (.agg (blk f))) w := by
  unfold execOp
  simp only [ho, hx, Instr.loadAt, Instr.sureAddr, Sem.run_bind, Sem.run_pure, Result.andThen_ok, load30L w g f hg]
theorem exec_loadL {x : Operand} {g : Nat} {cs : Array Value} (ho : o.op = .load 43 x) (hx : a.eval x = .pointer (some ⟨g, 0, none⟩)) (hs : cs.size = 9) (hg : w.heap[g]? = some (.cells cs 43)) : (execOp a.eval o).run Tryz.prog w = .ok (.value (.agg cs)) w := by
  unfold execOp
  simp only [ho, hx, Instr.loadAt, Instr.sureAddr, Sem.run_bind, Sem.run_pure, Result.andThen_ok, load25L w g cs hg hs]
theorem drew_below (w : World) : Below w.heap.size w w.drew := (Below.refl _ _).drew
theorem last_new (X : World) (o : Obj) (n : Nat) (h : X.heap.size = n) : (X.alloc o).heap[n]? = some o := by subst h; exact heap_alloc_new _ _
/-- The slice v owns the numbers zs, in a block from base on. -/
def OwnZ (w : World) (base : Nat) (v : Value) (zs : List Int) : Prop := w.ownsRow base 3 1 v zs.length (zs.map (Value.int .i64))
theorem OwnZ.nil (w : World) (base : Nat) : OwnZ w base (.slice none 0 0) [] := World.ownsRow_nil w base 3 1
theorem OwnZ.later {w w' : World} {base : Nat} {v : Value} {xs : List Int} (h : OwnZ w base v xs) (hb : Below w.heap.size w w') : OwnZ w' base v xs := by
  refine ⟨h.1, ?_⟩
  rcases h.2 with hn | ⟨g, cap, cur, rfl, hB, hg, rest⟩
  · exact .inl hn
  · exact .inr ⟨g, cap, cur, rfl, hB, heap_kept hg hb, rest⟩
theorem OwnZ.ints {w : World} {base : Nat} {v : Value} {zs : List Int} (h : OwnZ w base v zs) : ∃ p c, v = .slice p zs.length c ∧ IntsAt w p zs ∧ zs.length ≤ c ∧ ∀ b off, p = some ⟨b, off, none⟩ → base ≤ b := ints_of_row h
theorem wpList_pushZ {W : World} (hgd : o.guard = none) (s x : Operand)
    (ho : o.op = .call { callee := .builtin .append, args := #[s, x], argTypes := #[50, 50] }) (base : Nat) (v : Value) (xs : List Int) (y : Int) (hs : a.eval s = v)
    (hx : a.eval x = .slice (some ⟨W.heap.size, 0, none⟩) 1 1) (hown : OwnZ W base v xs) (hn : xs.length ≤ 1048576) (hbase : base ≤ W.heap.size)
    (h : ∀ v' w', OwnZ w' base v' (xs ++ [y]) → (W.alloc (.cells #[.int .i64 y] 3)).grownBy w' v.ownBlock → Below base W w' → wpList Tryz.prog ops Q rest (a.put o.dst v') w') :
    wpList Tryz.prog ops Q (o :: rest) a (W.alloc (.cells #[.int .i64 y] 3)) := by
  obtain ⟨i0, hi0, hz0, hz1, hz2⟩ := info_parts info3
  refine wpList_append_own _ hgd s x 50 ho base 3 i0 (.int .i64 0) 1 8 Tryz.underlying50 hi0 hz0 hz1 hz2 rfl (by decide) v xs.length (xs.map (Value.int .i64)) hs (World.ownsRow.alloc hown _) ⟨W.heap.size, 0, none⟩ 1 1 [.int .i64 y] hx rfl (cell_one_new _ _ _)
    (fun u hu => by simp at hu; subst hu; rfl) (by unfold maxLen; omega) (by omega) (by simp; omega) ?_
  intro v' w' hown' hg _
  refine h v' w' ?_ hg (((Below.refl _ _).alloc hbase _).grown hg (by simp; omega) fun k hk => (World.ownsRow.lt hown k hk).1)
  unfold OwnZ
  rw [List.length_append, List.map_append]
  exact hown'
end
/-- A block below, or beside the list's own, lies as it lay. -/
theorem pushed_kept {W w' : World} {o o' : Obj} {v : Value} {g : Nat} (hg : (W.alloc o).grownBy w' v.ownBlock) (hv : ∀ k, v.ownBlock = some k → k ≠ g) (h : W.heap[g]? = some o') : w'.heap[g]? = some o' := by
  have hlt := (Array.getElem?_eq_some_iff.1 h).1
  rw [hg.block g (by simp; omega) (by
    cases e : v.ownBlock with
    | none => simp
    | some k => simp; exact fun q => hv k e q.symm)]
  rw [heap_alloc_old W o hlt]
  exact h
end Go.Proofs.YtiadlcjdpbkbkaaGreatD.H
/- Decode of head on a layout that is: what it answers of any block. -/
namespace Go.Proofs.YtiadlcjdpbkbkaaGreatD.H
open Go.RowKit
/-- What Decode answers: the targets and the error. -/
def decL (lo hi m : Int) (F : Nat → Int) : List Int := if numN F 0 4 ≤ m ∧ mayB lo hi m (tgts F (numN F 0 4).toNat) = true then tgts F (numN F 0 4).toNat else []
def decN (lo hi m : Int) (F : Nat → Int) : Int := if numN F 0 4 ≤ m ∧ mayB lo hi m (tgts F (numN F 0 4).toNat) = true then 0 else 4
theorem dec_may {lo hi m : Int} {F : Nat → Int} : (decN lo hi m F = 4 ∧ decL lo hi m F = []) ∨ (decN lo hi m F = 0 ∧ MayP lo hi m (decL lo hi m F)) := by
  unfold decN decL
  by_cases h : numN F 0 4 ≤ m ∧ mayB lo hi m (tgts F (numN F 0 4).toNat) = true
  · rw [if_pos h, if_pos h]
    exact .inr ⟨rfl, of_decide_eq_true h.2⟩
  · rw [if_neg h, if_neg h]
    exact .inl ⟨rfl, rfl⟩
theorem decL_u {lo hi m : Int} {F : Nat → Int} (hF : ∀ i, 0 ≤ F i ∧ F i ≤ 255) : AllU (decL lo hi m F) := by
  unfold decL
  split
  · exact tgts_u F hF _
  · exact fun x hx => by cases hx
theorem dec_all (b l i a c d e f g : Int) (F : Nat → Int) (w : World) (hb : I64 b) (hs : standsB b l i a c d e f g = true) (hl : 32 ≤ l ∧ l ≤ 256) (hF : ∀ i, 0 ≤ F i ∧ F i ≤ 255) :
    Calls Tryz.prog 93 #[.agg (lay9 b l i a c d e f g), .agg (blk F)] w fun e' w' => ∃ p, e' = .returned (.tuple #[.agg #[.slice p (decL c b (l - 1) F).length (decL c b (l - 1) F).length], .int .i64 (decN c b (l - 1) F)]) ∧
      (p = none ∧ decL c b (l - 1) F = [] ∨ ∃ q, p = some ⟨q, 0, none⟩ ∧ w.heap.size ≤ q ∧ w'.heap[q]? = some (.cells (listRow (decL c b (l - 1) F)) 3)) ∧ Below w.heap.size w w' := by
  have h0 := numN_bd F hF 4 0
  by_cases h1 : numN F 0 4 ≤ l - 1
  · have hN : numN F 0 4 = ((numN F 0 4).toNat : Int) := by omega
    by_cases h2 : mayB c b (l - 1) (tgts F (numN F 0 4).toNat) = true
    · unfold decL decN
      rw [if_pos ⟨h1, h2⟩, if_pos ⟨h1, h2⟩, tgts_len]
      refine (dec_ok b l i a c d e f g F _ w hb hs hl hF hN (by omega) h2).mono ?_
      rintro e' W ⟨q, rfl, hq, hr, hB⟩
      exact ⟨_, rfl, .inr ⟨q, rfl, hq, hr⟩, hB⟩
    · unfold decL decN
      rw [if_neg (fun q => h2 q.2), if_neg (fun q => h2 q.2)]
      refine (dec_bad b l i a c d e f g F _ w hb hs hl hF hN (by omega) (by simpa using h2)).mono ?_
      rintro e' W ⟨rfl, hB⟩
      exact ⟨none, rfl, .inl ⟨rfl, rfl⟩, hB⟩
  · unfold decL decN
    rw [if_neg (fun q => h1 q.1), if_neg (fun q => h1 q.1)]
    refine (dec_more b l i a c d e f g F w hb hs hl hF (by omega)).mono ?_
    rintro e' W ⟨rfl, hB⟩
    exact ⟨none, rfl, .inl ⟨rfl, rfl⟩, hB⟩
theorem dec_ints {W : World} {B : Nat} {p : Option Addr} {T : List Int} (h : p = none ∧ T = [] ∨ ∃ q, p = some ⟨q, 0, none⟩ ∧ B ≤ q ∧ W.heap[q]? = some (.cells (listRow T) 3)) : IntsAt W p T := by
  rcases h with ⟨rfl, rfl⟩ | ⟨q, rfl, _, h⟩
  · exact fun h => by simp at h
  · exact listRow_at h
section
variable {ops : Array Oper} {o : Oper} {a : Act} {w : World}
theorem zero35 (w : World) : (zeroValue 52).run Tryz.prog w = .ok (.agg #[.slice none 0 0]) w := by kernel_rfl
theorem exec_allocH (ho : o.op = .alloc 52) : (execOp a.eval o).run Tryz.prog w = .ok (.value (.pointer (some ⟨w.heap.size, 0, none⟩))) (w.alloc (.cells #[.slice none 0 0] 52)) := by
  have z := zero35
  unfold execOp
  simp [ho, go_sem, z]
theorem exec_storeH {x y : Operand} (ho : o.op = .store 52 x y) (g : Nat) (v v0 : Value) (hv : v.oneCell' = true) (hx : a.eval x = .pointer (some ⟨g, 0, none⟩)) (hy : a.eval y = .agg #[v]) (hg : w.heap[g]? = some (.cells #[v0] 52)) :
    (execOp a.eval o).run Tryz.prog w = .ok .skip (w.setRow g #[v]) := by
  unfold execOp
  simp only [ho, hx, hy, Instr.storeAt, Instr.sureAddr, Sem.run_bind, Sem.run_pure, Result.andThen_ok, run_storeVar_row w g 52 52 #[v0] #[v] hg size35H rfl (by simp [hv])]
end
end Go.Proofs.YtiadlcjdpbkbkaaGreatD.H
