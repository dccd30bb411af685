/- What the document says that indices cost; no condition but fewer indices than memory has. -/
import Derived.Test.YtcimehjcajdfiaaCnt
namespace Go.Proofs.Ytcimehjcajdfiaa
open Go.RowKit Go.Maps
/-- A row of n numbers, f of each place. -/
def iRow (f : Nat → Int) (n : Nat) : Array Value := ((List.range n).map fun i => Value.int .i64 (f i)).toArray
def updI (f : Nat → Int) (i : Nat) (x : Int) : Nat → Int := fun j => if j = i then x else f j
theorem iRow_size (f : Nat → Int) (n : Nat) : (iRow f n).size = n := by simp [iRow]
theorem iRow_get (f : Nat → Int) (n i : Nat) (h : i < n) : (iRow f n)[i]? = some (.int .i64 (f i)) := by simp [iRow, h]
theorem iRow_ext {cs : Array Value} {f : Nat → Int} {n : Nat} (hs : cs.size = n) (h : ∀ i, i < n → cs[i]? = some (.int .i64 (f i))) : cs = iRow f n := by
  apply Array.ext_getElem?
  intro j
  by_cases hj : j < n
  · rw [h j hj, iRow_get _ _ _ hj]
  · rw [Array.getElem?_eq_none (by omega), Array.getElem?_eq_none (by rw [iRow_size]; omega)]
theorem iRow_congr {f g : Nat → Int} {n : Nat} (h : ∀ i, i < n → f i = g i) : iRow f n = iRow g n :=
  iRow_ext (iRow_size f n) fun i hi => by rw [iRow_get _ _ _ hi, h i hi]
theorem iRow_set (f : Nat → Int) (n i : Nat) (x : Int) : (iRow f n).setIfInBounds i (.int .i64 x) = iRow (updI f i x) n := by
  refine iRow_ext (by rw [Array.size_setIfInBounds, iRow_size]) fun j hj => ?_
  rw [Array.getElem?_setIfInBounds]
  by_cases e : i = j
  · subst e; simp [iRow_size, hj, updI]
  · have e' : ¬ j = i := fun q => e q.symm
    simp [e, e', iRow_get _ _ _ hj, updI]
theorem made_ints (n : Nat) : madeCells #[.int .i64 0] n = iRow (fun _ => 0) n :=
  iRow_ext (by simp [madeCells]) fun j hj => by simp [madeCells, hj, Nat.mod_one]
theorem run_make32 (u : World) (n : Nat) (hn : n * 8 ≤ 281474976710656) :
    (Instr.makeSlice 32 (.int .i64 (n : Int)) (.int .i64 (n : Int))).run Try.prog u = .ok (.slice (some ⟨u.heap.size, 0, none⟩) n n) (u.alloc (.cells (iRow (fun _ => 0) n) 3)) := by
  obtain ⟨i0, hi0, hz0, hz1, hz2⟩ := info_parts info3
  have h := run_make (P := Try.prog) u 32 3 i0 (.int .i64 0) Try.underlying32 hi0 hz0 .i64 .i64 n n (by omega) (Int.le_refl _) (by rw [hz2]; omega) (by omega)
  rw [Int.toNat_natCast, hz1] at h
  rw [h]
  simp [Value.cells, made_ints]
theorem setCell_iRow {w : World} {g m : Nat} {f : Nat → Int} {t : TypeId} (h : w.heap[g]? = some (.cells (iRow f m) t)) (i : Nat) (x : Int) : (w.setCell ⟨g, i, none⟩ (.int .i64 x)).heap[g]? = some (.cells (iRow (updI f i x) m) t) := by
  rw [heap_setCell_same _ _ _ _ _ _ h, iRow_set]
theorem frozen_row {w : World} {g : Nat} {cs : Array Value} {t : TypeId} (h : w.heap[g]? = some (.cells cs t)) (i : Nat) : w.frozen? ⟨g, i, none⟩ = false := by simp [World.frozen?, h]
theorem wpList_st3 {ops : Array Oper} {rest : List Oper} {o : Oper} {a : Act} {w : World} {Q : Exit → Act → World → Prop} (hgd : o.guard = none) (x y : Operand) (ho : o.op = .store 3 x y) (g i : Nat) (v : Int) (old : Value) (hx : a.eval x = .pointer (some ⟨g, i, none⟩)) (hy : a.eval y = .int .i64 v) (hc : w.cell? ⟨g, i, none⟩ = some old) (hf : w.frozen? ⟨g, i, none⟩ = false)
    (h : wpList Try.prog ops Q rest (a.put o.dst undef) (w.setCell ⟨g, i, none⟩ (.int .i64 v))) : wpList Try.prog ops Q (o :: rest) a w :=
  wpList_plain hgd fun _ hK => by
    unfold Oper.wp execOp
    simp only [ho, hx, hy]
    simp [go_sem, hc, hf]
    exact hK _ _ h
def bit (K : List Int) (j : Nat) : Int := if inK K j then 1 else 0
theorem bit_yes {K : List Int} {j : Nat} (h : inK K j = true) : bit K j = 1 := by unfold bit; rw [h]; rfl
theorem bit_no {K : List Int} {j : Nat} (h : inK K j = false) : bit K j = 0 := by unfold bit; rw [h]; rfl
theorem inK_app (K ts : List Int) (j : Nat) : inK (K ++ ts) j = (inK K j || ts.contains (j : Int)) := by
  rw [Bool.eq_iff_iff, Bool.or_eq_true, inK_iff, inK_iff, List.mem_append, List.contains_iff_mem]
theorem bit_app_out {K ts : List Int} {j : Nat} (h : (j : Int) ∉ ts) : bit (K ++ ts) j = bit K j := by
  unfold bit
  rw [inK_app, show ts.contains (j : Int) = false by rw [Bool.eq_false_iff]; exact fun q => h (List.contains_iff_mem.1 q), Bool.or_false]
theorem bit_app_in {K ts : List Int} {j : Nat} (h : (j : Int) ∈ ts) : bit (K ++ ts) j = 1 := bit_yes ((inK_iff _ _).2 (List.mem_append_right _ h))
/-- Blocks that were there all: nothing is new. -/
theorem bit_app_sub {K ts : List Int} (h : ∀ x ∈ ts, x ∈ K) (j : Nat) : inK (K ++ ts) j = inK K j := by
  rw [Bool.eq_iff_iff, inK_iff, inK_iff, List.mem_append]
  constructor
  · rintro (q | q)
    · exact q
    · exact h _ q
  · exact .inl
/-- The document's books behind some indices whose blocks are K. -/
structure Bk (g : Nat) (K : List Int) (s d n : Int) (w : World) : Prop where
  hs : s = bit K 65802
  hd : d = bit K 65803
  hn : n = cn (inK K) 65802
  met : w.heap[g]? = some (.cells (iRow (bit K) 65802) 3)
  low : w.heap[g + 1]? = some (.cells (iRow (fun j => bit K (65804 + j)) 256) 3)
theorem Bk.same {g : Nat} {K ts : List Int} {s d n : Int} {w : World} (h : Bk g K s d n w) (hts : ∀ x ∈ ts, x ∈ K) : Bk g (K ++ ts) s d n w := by
  have e : inK (K ++ ts) = inK K := funext fun j => bit_app_sub hts j
  have e2 : bit (K ++ ts) = bit K := funext fun j => by unfold bit; rw [e]
  exact ⟨by rw [e2]; exact h.hs, by rw [e2]; exact h.hd, by rw [e]; exact h.hn, by rw [e2]; exact h.met, by rw [e2]; exact h.low⟩
theorem Bk.later {g : Nat} {K : List Int} {s d n : Int} {w w' : World} (h : Bk g K s d n w) (hb : Below w.heap.size w w') : Bk g K s d n w' :=
  ⟨h.hs, h.hd, h.hn, heap_kept h.met hb, heap_kept h.low hb⟩
theorem cn_new {K ts : List Int} {j : Nat} (hj : j < 65802) (hk : inK K j = false) (hin : (j : Int) ∈ ts) (hout : ∀ i : Nat, i < 65802 → i ≠ j → (i : Int) ∉ ts) : cn (inK (K ++ ts)) 65802 = cn (inK K) 65802 + 1 := by
  have h1 : cn (inK (K ++ ts)) 65802 = cn (fun i => inK K i || i == j) 65802 := cn_congr _ fun i hi => by
    rw [inK_app]
    by_cases e : i = j
    · subst e
      rw [List.contains_iff_mem.2 hin]
      simp
    · rw [show ts.contains (i : Int) = false by rw [Bool.eq_false_iff]; exact fun q => hout i hi e (List.contains_iff_mem.1 q)]
      simp [e]
  rw [h1, cn_one j (p := inK K) (q := fun i => inK K i || i == j) (fun i hi => by simp [hi]) (by simp) hk 65802, if_pos hj]
theorem met_new {K ts : List Int} {j : Nat} (hin : (j : Int) ∈ ts) (hout : ∀ i : Nat, i < 65802 → i ≠ j → (i : Int) ∉ ts) : iRow (updI (bit K) j 1) 65802 = iRow (bit (K ++ ts)) 65802 := iRow_congr fun i hi => by
  unfold updI
  by_cases e : i = j
  · subst e
    rw [if_pos rfl, bit_app_in hin]
  · rw [if_neg e, bit_app_out (hout i hi e)]
theorem Bk.direct {g : Nat} {K : List Int} {s d n : Int} {w : World} (h : Bk g K s d n w) {j : Nat} (hj : j < 10) (hk : inK K j = false) : Bk g (K ++ [(j : Int)]) s d (n + 1) (w.setCell ⟨g, j, none⟩ (.int .i64 1)) := by
  have hin : (j : Int) ∈ [(j : Int)] := by simp
  have hout : ∀ i : Nat, i ≠ j → (i : Int) ∉ [(j : Int)] := fun i e q => e (by simp at q; omega)
  refine ⟨by rw [bit_app_out (hout _ (by omega))]; exact h.hs, by rw [bit_app_out (hout _ (by omega))]; exact h.hd, by rw [cn_new (by omega) hk hin (fun i _ => hout i), h.hn]; simp, by rw [setCell_iRow h.met, met_new hin (fun i _ => hout i)], ?_⟩
  rw [Below.heap_setCell w _ _ _ (show g + 1 ≠ g by omega), h.low, iRow_congr (g := fun i => bit (K ++ [(j : Int)]) (65804 + i))]
  exact fun i _ => (bit_app_out (hout _ (by omega))).symm
theorem Bk.single {g : Nat} {K : List Int} {s d n : Int} {w : World} (h : Bk g K s d n w) {j : Nat} (hj : j < 266) (hk : inK K j = false) : Bk g (K ++ [(j : Int), 65802]) 1 d (n + 1) (w.setCell ⟨g, j, none⟩ (.int .i64 1)) := by
  have hin : (j : Int) ∈ [(j : Int), 65802] := by simp
  have hout : ∀ i : Nat, i ≠ j → i ≠ 65802 → (i : Int) ∉ [(j : Int), 65802] := fun i e e2 q => by simp at q; omega
  refine ⟨(bit_app_in (j := 65802) (by simp)).symm, by rw [bit_app_out (hout _ (by omega) (by omega))]; exact h.hd, by rw [cn_new (by omega) hk hin (fun i hi e => hout i e (by omega)), h.hn]; simp, by rw [setCell_iRow h.met, met_new hin (fun i hi e => hout i e (by omega))], ?_⟩
  rw [Below.heap_setCell w _ _ _ (show g + 1 ≠ g by omega), h.low, iRow_congr (g := fun i => bit (K ++ [(j : Int), 65802]) (65804 + i))]
  exact fun i _ => (bit_app_out (hout _ (by omega) (by omega))).symm
theorem Bk.double {g : Nat} {K : List Int} {s d n : Int} {w : World} (h : Bk g K s d n w) {j q : Nat} (hj : j < 65802) (hq : q < 256) (hk : inK K j = false) : Bk g (K ++ [(j : Int), 65803, 65804 + (q : Int)]) s 1 (n + 1) ((w.setCell ⟨g, j, none⟩ (.int .i64 1)).setCell ⟨g + 1, q, none⟩ (.int .i64 1)) := by
  have hin : (j : Int) ∈ [(j : Int), 65803, 65804 + (q : Int)] := by simp
  have hout : ∀ i : Nat, i ≠ j → i ≠ 65803 → i ≠ 65804 + q → (i : Int) ∉ [(j : Int), 65803, 65804 + (q : Int)] := fun i e e2 e3 r => by simp at r; omega
  refine ⟨by rw [bit_app_out (hout _ (by omega) (by omega) (by omega))]; exact h.hs, (bit_app_in (j := 65803) (by simp)).symm, by rw [cn_new hj hk hin (fun i hi e => hout i e (by omega) (by omega)), h.hn]; simp, ?_, ?_⟩
  · rw [Below.heap_setCell _ _ _ _ (show g ≠ g + 1 by omega), setCell_iRow h.met, met_new hin (fun i hi e => hout i e (by omega) (by omega))]
  · have hl : (w.setCell ⟨g, j, none⟩ (.int .i64 1)).heap[g + 1]? = some (.cells (iRow (fun j => bit K (65804 + j)) 256) 3) := by rw [Below.heap_setCell w _ _ _ (show g + 1 ≠ g by omega)]; exact h.low
    rw [setCell_iRow hl, iRow_congr (g := fun i => bit (K ++ [(j : Int), 65803, 65804 + (q : Int)]) (65804 + i))]
    intro i _
    unfold updI
    by_cases e : i = q
    · subst e
      rw [if_pos rfl, bit_app_in (by simp)]
    · rw [if_neg e, bit_app_out (hout _ (by omega) (by omega) (by omega))]
theorem Bk.start (w : World) : Bk w.heap.size [] 0 0 0 ((w.alloc (.cells (iRow (fun _ => 0) 65802) 3)).alloc (.cells (iRow (fun _ => 0) 256) 3)) := by
  have e : ∀ n, cn (inK []) n = 0 := fun n => by
    induction n with
    | zero => rfl
    | succ n ih => rw [cn, ih]; rfl
  have eb : ∀ j, bit [] j = 0 := fun j => rfl
  refine ⟨rfl, rfl, by rw [e]; rfl, ?_, ?_⟩
  · rw [iRow_congr (g := fun _ => 0) (fun i _ => eb i), heap_alloc_old _ _ (by simp)]
    exact heap_alloc_new _ _
  · rw [iRow_congr (g := fun _ => 0) (fun i _ => eb (65804 + i))]
    have := heap_alloc_new (w.alloc (.cells (iRow (fun _ => 0) 65802) 3)) (.cells (iRow (fun _ => 0) 256) 3)
    simpa using this
/-- What the books come to. -/
theorem cnt_parts (K : List Int) : cnt K = cn (inK K) 65802 + (cn (fun j => inK K (65802 + j)) 2 + cn (fun j => inK K (65804 + j)) 256) := by
  have h1 := cn_add (inK K) 65802 258
  have h2 := cn_add (fun j => inK K (65802 + j)) 2 256
  have h3 : cn (fun j => inK K (65802 + (2 + j))) 256 = cn (fun j => inK K (65804 + j)) 256 := cn_congr _ fun j _ => by rw [← Nat.add_assoc]
  rw [h3] at h2
  rw [← h2]
  exact h1
theorem cn_two (p : Nat → Bool) : ((cn p 2 : Nat) : Int) = (if p 0 then 1 else 0) + (if p 1 then 1 else 0) := by
  simp only [cn]
  cases p 0 <;> cases p 1 <;> rfl
theorem bits_two (K : List Int) : ((cn (fun j => inK K (65802 + j)) 2 : Nat) : Int) = bit K 65802 + bit K 65803 := cn_two _
end Go.Proofs.Ytcimehjcajdfiaa
