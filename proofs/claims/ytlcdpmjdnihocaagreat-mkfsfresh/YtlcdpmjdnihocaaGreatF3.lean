/- Several texts joined, each with its own remark; no condition. -/
import Derived.Test.YtlcdpmjdnihocaaGreatF2
import Derived.Test.YtlcdpmjdnihocaaGreatF1
/- What a disk and the law's own book of it have to do with each other, write by write; no condition. -/
namespace Go.Proofs.YtlcdpmjdnihocaaGreatD
open Go.RowKit

theorem holdV_get (s : St) (k : Int) {f : Nat → Int} (hf : Can f) (j : Int) : ((holdV s k f).held j).getD nought = if j = k then f else (s.held j).getD nought := by
  show (if j = k then (if blankB f then none else some f) else s.held j).getD nought = _
  by_cases e : j = k
  · rw [if_pos e, if_pos e]
    cases hb : blankB f
    · rfl
    · rw [hf.blank.1 hb]; rfl
  · rw [if_neg e, if_neg e]
theorem letV_live {s : St} (hl : lets s = true) : (letV s).stopped = s.stopped ∧ (letV s).made = s.made + 1 ∧ (letV s).reads = s.reads ∧ (letV s).claims = s.claims ∧ (letV s).fuse = (if s.fuse = -1 then -1 else s.fuse - 1) := by
  have h0 : s.fuse ≠ 0 := by unfold lets at hl; simpa using hl
  unfold letV
  rw [if_neg h0]
  exact ⟨rfl, rfl, rfl, rfl, rfl⟩
end Go.Proofs.YtlcdpmjdnihocaaGreatD
/- Parts of memory that lie apart: one of them turns, the others stay; no condition. -/
namespace Go.Proofs.YtlcdpmjdnihocaaGreatD
open Go.RowKit

/-- A part of memory: its blocks, and what it says. -/
structure Part where
  own : Nat → Prop
  say : World → Prop
variable {w W W' : World} {p p' q : Part} {l : List Part}
end Go.Proofs.YtlcdpmjdnihocaaGreatD
/- What the document's examples say: the law's own first look at a disk answers true; no condition. -/
namespace Go.Proofs.YtlcdpmjdnihocaaGreatD
open Go.RowKit

section
variable {ops : Array Oper} {rest : List Oper} {o : Oper} {a : Act} {w : World} {Q : Exit → Act → World → Prop}
theorem wpList_build58w (hw : Region.wanted o (yielded ops a.tmps) = true) (ho : o.op = .build 79 #[]) {N : Nat → Int}
    (hb : ∀ u, (Instr.build 79 #[]).run Tryz.prog u = .ok (.agg (blk N)) u) (h : wpList Tryz.prog ops Q rest (a.put o.dst (.agg (blk N))) w) : wpList Tryz.prog ops Q (o :: rest) a w :=
  BigFrame.wpList_want hw fun _ hK => by
    have e : (execOp a.eval o).run Tryz.prog w = .ok (.value (.agg (blk N))) w := by
      unfold execOp
      simp only [ho, Array.map_empty, Sem.run_bind]
      simp only [hb, Result.andThen_ok, Sem.run_pure]
    unfold Oper.wp
    rw [e]
    exact hK _ _ h
theorem wpList_load58w (hw : Region.wanted o (yielded ops a.tmps) = true) (x : Operand) (ho : o.op = .load 79 x)
    (g : Nat) (hx : a.eval x = .pointer (some ⟨g, 0, none⟩)) (f : Nat → Int) (hg : w.heap[g]? = some (.cells (blk f) 79))
    (h : wpList Tryz.prog ops Q rest (a.put o.dst (.agg (blk f))) w) : wpList Tryz.prog ops Q (o :: rest) a w :=
  BigFrame.wpList_want hw fun _ hK => by
    unfold Oper.wp execOp
    simp only [ho, hx, loadM (BlkAt.of hg), Sem.run_bind, Result.andThen_ok, Sem.run_pure]
    exact hK _ _ h
theorem eq58 (f g : Nat → Int) (b : Bool) (hb : sameB f g = b) (u : World) : (binOp .eql 79 (.agg (blk f)) (.agg (blk g))).run Tryz.prog u = .ok (.bool b) u := by
  have h := eq25 f g u
  rw [hb] at h
  generalize blk f = F at *
  generalize blk g = G at *
  simp only [binOp, Op.equal, Op.maxDepth, Sem.run_bind, h, Result.andThen_ok, Sem.run_pure]
theorem eqg58 (x y : Operand) (F G : Array Value) (u : World) : (eqGuard .eql 79 x y (.agg F) (.agg G)).run Tryz.prog u = .ok () u := by
  unfold eqGuard
  simp
theorem wpList_eq58 (hw : Region.wanted o (yielded ops a.tmps) = true) (x y : Operand) (ho : o.op = .binOp .eql 79 x y 79) (f g : Nat → Int) (b : Bool) (hx : a.eval x = .agg (blk f)) (hy : a.eval y = .agg (blk g)) (hb : sameB f g = b)
    (h : wpList Tryz.prog ops Q rest (a.put o.dst (.bool b)) w) : wpList Tryz.prog ops Q (o :: rest) a w :=
  BigFrame.wpList_want hw fun _ hK => by
    have e := eq58 f g b hb w
    unfold Oper.wp execOp
    simp only [ho, hx, hy, Sem.run_bind, eqg58, e, Result.andThen_ok, Sem.run_pure]
    exact hK _ _ h
theorem wpList_store58_new (hgd : o.guard = none) (x y : Operand) (ho : o.op = .store 79 x y)
    (f f0 : Nat → Int) (g : Nat) (hg : g = w.heap.size) (hx : a.eval x = .pointer (some ⟨g, 0, none⟩)) (hy : a.eval y = .agg (blk f))
    (h : wpList Tryz.prog ops Q rest (a.put o.dst undef) (w.alloc (.cells (blk f) 79))) : wpList Tryz.prog ops Q (o :: rest) a (w.alloc (.cells (blk f0) 79)) := by
  subst hg
  exact wpList_store25_new hgd x y ho f f0 hx hy h
end
section
variable (X Y : Nat → Int)
end
end Go.Proofs.YtlcdpmjdnihocaaGreatD
/- mayBe: of every image whether it may be; no condition. -/
namespace Go.Proofs.YtlcdpmjdnihocaaGreatD
open Go.RowKit
/-- Cells that lie one behind the other from a place on. -/
def CelsAt (w : World) (b off : Nat) (l : List Cel) : Prop := ∀ k c, l[k]? = some c → w.cell? ⟨b, off + k * 1025, none⟩ = some (.int .i64 c.1) ∧ BlkAt w b (off + k * 1025 + 1) c.2
/-- A list of cells that came in or was made. -/
def ImgAt (w : World) (p : Option Addr) (l : List Cel) : Prop := 0 < l.length → ∃ b off, p = some ⟨b, off, none⟩ ∧ b < w.heap.size ∧ CelsAt w b off l
theorem CelsAt.later {w W : World} {b off : Nat} {l : List Cel} (h : CelsAt w b off l) (hb : Below w.heap.size w W) (hlt : b < w.heap.size) : CelsAt W b off l := fun k c hc => by
  obtain ⟨h1, h2⟩ := h k c hc
  exact ⟨(hb.cell (p := ⟨b, off + k * 1025, none⟩) hlt).trans h1, fun j v hv => (hb.cell (p := ⟨b, off + k * 1025 + 1 + j, none⟩) hlt).trans (h2 j v hv)⟩
/-- Do they rise, each below n and none blank? -/
def risesB (n : Int) : Int → List Cel → Bool
  | _, [] => true
  | a, c :: t => !decide (c.1 ≤ a) && !decide (c.1 ≥ n) && !blankB c.2 && risesB n c.1 t
def mayB (n : Int) (l : List Cel) : Bool := bndB n && risesB n (-1) l
theorem wpList_loadMw {ops : Array Oper} {rest : List Oper} {o : Oper} {a : Act} {w : World} {Q : Exit → Act → World → Prop} (hw : Region.wanted o (yielded ops a.tmps) = true) (x : Operand) (ho : o.op = .load 79 x)
    (g off : Nat) (hx : a.eval x = .pointer (some ⟨g, off, none⟩)) (f : Nat → Int) (hg : BlkAt w g off f)
    (h : wpList Tryz.prog ops Q rest (a.put o.dst (.agg (blk f))) w) : wpList Tryz.prog ops Q (o :: rest) a w :=
  BigFrame.wpList_want hw fun _ hK => by
    unfold Oper.wp execOp
    simp only [ho, hx, loadM hg, Sem.run_bind, Result.andThen_ok, Sem.run_pure]
    exact hK _ _ h
set_option maxRecDepth 20000 in
set_option maxHeartbeats 2000000 in
theorem may_any (n : Int) (l : List Cel) (p : Option Addr) (cap : Nat) (w : World) (hl : l.length < 9223372036854775807) (h : ImgAt w p l) :
    Calls Tryz.prog 34 #[.agg #[.int .i64 n, .slice p l.length cap]] w fun e w' => e = .returned (.bool (mayB n l)) ∧ Below w.heap.size w w' := by
  have hB := below_new w (.cells #[.int .i64 n, .slice p l.length cap] 24)
  have hG := heap_alloc_new w (.cells #[.int .i64 n, .slice p l.length cap] 24)
  have HI : Hid (ImgAt w p l) := h
  have hbd := built58
  clear h
  cases hb : bndB n
  · go_enter Tryz.func34, Tryz.ntmps34
    go_wp2_with (go_at_call 56; refine (bounded_any n _).mono ?_; rw [hb]; rintro e W ⟨rfl, rfl⟩)
    go_ret
    exact ⟨by unfold mayB; rw [hb]; rfl, hB⟩
  · have HR : Hid (mayB n l = risesB n (-1) (l.drop 0)) := by unfold mayB; rw [hb]; rfl
    generalize mayB n l = res at *
    generalize hW : w.alloc (.cells #[.int .i64 n, .slice p l.length cap] 24) = W0 at *
    have i0 : W0.cell? ⟨w.heap.size, 0, none⟩ = some (.int .i64 n) := Joins.cell_of_block hG 0
    have i1 : W0.cell? ⟨w.heap.size, 1, none⟩ = some (.slice p l.length cap) := Joins.cell_of_block hG 1
    go_enter Tryz.func34, Tryz.ntmps34
    go_wp2_with (go_at_call 56; refine (bounded_any n _).mono ?_; rw [hb]; rintro e W ⟨rfl, rfl⟩)
    obtain ⟨N, hbd', eN⟩ : ∃ N, (∀ u : World, (Instr.build 79 #[]).run Tryz.prog u = .ok (.agg (blk N)) u) ∧ N = nought := ⟨nought, built58, rfl⟩
    have HN : Hid (N = nought) := eN
    clear eN hbd
    go_loopw [3, 13] (fun s3 s13 wx => ∃ (k : Nat) (x : Int), k ≤ l.length ∧ s3 = .int .i64 x ∧ s13 = .int .i64 k ∧ wx = W ∧ Hid (res = risesB n x (l.drop k))) (fun s3 s13 _ => l.length - (intOf s13).toNat)
    case atStart => exact ⟨0, -1, by omega, rfl, rfl, rfl, HR.out⟩
    case round =>
      obtain ⟨k, x, hk, rfl, rfl, rfl, HR2⟩ := hrel
      clear HR
      by_cases hk2 : (k : Int) < l.length
      · have hc : l[k]? = some l[k] := List.getElem?_eq_getElem (by omega)
        obtain ⟨b, off, rfl, hlt, hC⟩ := HI.out (by omega)
        have hd : l.drop k = l[k] :: l.drop (k + 1) := List.drop_eq_getElem_cons (by omega)
        generalize l[k] = c at hc hd
        obtain ⟨q1, q2⟩ := (hC.later hB hlt) k c hc
        obtain ⟨y, f⟩ := c
        have hR := HR2.out
        rw [hd] at hR
        unfold risesB at hR
        simp only at hR q1 q2
        clear hd hc HR2 hC
        by_cases h1 : y ≤ x
        · have hr0 : res = false := by rw [hR]; simp [h1]
          clear hR
          subst hr0
          go_wp2
          go_ret
          exact ⟨rfl, hB⟩
        · by_cases h2 : y ≥ n
          · have hr0 : res = false := by rw [hR]; simp [h2]
            clear hR
            subst hr0
            go_wp2
            go_ret
            exact ⟨rfl, hB⟩
          · cases h3 : blankB f
            · have HR3 : Hid (res = risesB n y (l.drop (k + 1))) := by
                have e : res = risesB n y (l.drop (k + 1)) := by rw [hR, h3]; simp [h1, h2]
                exact e
              have h3' : sameB f N = false := by rw [HN.out]; exact h3
              clear hR
              go_wp2_with (first | refine wpList_loadMw rfl (.tmp 36) rfl b (off + k * 1025 + 1) rfl f q2 ?_ | refine wpList_build58w rfl rfl hbd' ?_ | refine wpList_eq58 rfl (.tmp 37) (.tmp 38) rfl f N false rfl rfl h3' ?_)
              exact ⟨⟨k + 1, y, by omega, rfl, by go_num, by trivial, HR3.out⟩, by simp [intOf]; omega⟩
            · have hr0 : res = false := by rw [hR, h3]; simp
              clear hR
              have h3' : sameB f N = true := by rw [HN.out]; exact h3
              subst hr0
              go_wp2_with (first | refine wpList_loadMw rfl (.tmp 36) rfl b (off + k * 1025 + 1) rfl f q2 ?_ | refine wpList_build58w rfl rfl hbd' ?_ | refine wpList_eq58 rfl (.tmp 37) (.tmp 38) rfl f N true rfl rfl h3' ?_)
              go_ret
              exact ⟨rfl, hB⟩
      · obtain rfl : k = l.length := by omega
        have hr0 : res = true := by rw [HR2.out, List.drop_length]; rfl
        subst hr0
        go_wp2
        go_ret
        exact ⟨rfl, hB⟩
end Go.Proofs.YtlcdpmjdnihocaaGreatD
