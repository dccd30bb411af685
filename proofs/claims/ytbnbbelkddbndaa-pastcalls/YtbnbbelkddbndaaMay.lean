/- mayBe: of every image whether it may be; no condition. -/
import Derived.Test.YtbnbbelkddbndaaAwake
namespace Go.Proofs.Ytbnbbelkddbndaa
open Go.RowKit
/-- Cells that lie one behind the other from a place on. -/
def CelsAt (w : World) (b off : Nat) (l : List Cel) : Prop := ∀ k c, l[k]? = some c → w.cell? ⟨b, off + k * 1025, none⟩ = some (.int .i64 c.1) ∧ BlkAt w b (off + k * 1025 + 1) c.2
/-- A list of cells that came in or was made. -/
def ImgAt (w : World) (p : Option Addr) (l : List Cel) : Prop := 0 < l.length → ∃ b off, p = some ⟨b, off, none⟩ ∧ b < w.heap.size ∧ CelsAt w b off l
theorem CelsAt.later {w W : World} {b off : Nat} {l : List Cel} (h : CelsAt w b off l) (hb : Below w.heap.size w W) (hlt : b < w.heap.size) : CelsAt W b off l := fun k c hc => by
  obtain ⟨h1, h2⟩ := h k c hc
  exact ⟨(hb.cell (p := ⟨b, off + k * 1025, none⟩) hlt).trans h1, fun j v hv => (hb.cell (p := ⟨b, off + k * 1025 + 1 + j, none⟩) hlt).trans (h2 j v hv)⟩
/-- Do they rise, each below n and none blank? -/
def risesB (n : Int) : Int → List Cel → Bool
  | _, [] => true
  | a, c :: t => !decide (c.1 ≤ a) && !decide (c.1 ≥ n) && !blankB c.2 && risesB n c.1 t
def mayB (n : Int) (l : List Cel) : Bool := bndB n && risesB n (-1) l
theorem wpList_loadMw {ops : Array Oper} {rest : List Oper} {o : Oper} {a : Act} {w : World} {Q : Exit → Act → World → Prop} (hw : Region.wanted o (yielded ops a.tmps) = true) (x : Operand) (ho : o.op = .load 40 x)
    (g off : Nat) (hx : a.eval x = .pointer (some ⟨g, off, none⟩)) (f : Nat → Int) (hg : BlkAt w g off f)
    (h : wpList Try.prog ops Q rest (a.put o.dst (.agg (blk f))) w) : wpList Try.prog ops Q (o :: rest) a w :=
  BigFrame.wpList_want hw fun _ hK => by
    unfold Oper.wp execOp
    simp only [ho, hx, loadM hg, Sem.run_bind, Result.andThen_ok, Sem.run_pure]
    exact hK _ _ h
set_option maxRecDepth 20000 in
set_option maxHeartbeats 2000000 in
theorem may_any (n : Int) (l : List Cel) (p : Option Addr) (cap : Nat) (w : World) (hl : l.length < 9223372036854775807) (h : ImgAt w p l) :
    Calls Try.prog 65 #[.agg #[.int .i64 n, .slice p l.length cap]] w fun e w' => e = .returned (.bool (mayB n l)) ∧ Below w.heap.size w w' := by
  have hB := below_new w (.cells #[.int .i64 n, .slice p l.length cap] 24)
  have hG := heap_alloc_new w (.cells #[.int .i64 n, .slice p l.length cap] 24)
  have HI : Hid (ImgAt w p l) := h
  have hbd := built58
  clear h
  cases hb : bndB n
  · go_enter Try.func65, Try.ntmps65
    go_wp2_with (go_at_call 82; refine (bounded_any n _).mono ?_; rw [hb]; rintro e W ⟨rfl, rfl⟩)
    go_ret
    exact ⟨by unfold mayB; rw [hb]; rfl, hB⟩
  · have HR : Hid (mayB n l = risesB n (-1) (l.drop 0)) := by unfold mayB; rw [hb]; rfl
    generalize mayB n l = res at *
    generalize hW : w.alloc (.cells #[.int .i64 n, .slice p l.length cap] 24) = W0 at *
    have i0 : W0.cell? ⟨w.heap.size, 0, none⟩ = some (.int .i64 n) := Joins.cell_of_block hG 0
    have i1 : W0.cell? ⟨w.heap.size, 1, none⟩ = some (.slice p l.length cap) := Joins.cell_of_block hG 1
    go_enter Try.func65, Try.ntmps65
    go_wp2_with (go_at_call 82; refine (bounded_any n _).mono ?_; rw [hb]; rintro e W ⟨rfl, rfl⟩)
    obtain ⟨N, hbd', eN⟩ : ∃ N, (∀ u : World, (Instr.build 40 #[]).run Try.prog u = .ok (.agg (blk N)) u) ∧ N = nought := ⟨nought, built58, rfl⟩
    have HN : Hid (N = nought) := eN
    clear eN hbd
    go_loopw [3, 13] (fun s3 s13 wx => ∃ (k : Nat) (x : Int), k ≤ l.length ∧ s3 = .int .i64 x ∧ s13 = .int .i64 k ∧ wx = W ∧ Hid (res = risesB n x (l.drop k))) (fun s3 s13 _ => l.length - (intOf s13).toNat)
    case atStart => exact ⟨0, -1, by omega, rfl, rfl, rfl, HR.out⟩
    case round =>
      obtain ⟨k, x, hk, rfl, rfl, rfl, HR2⟩ := hrel
      clear HR
      by_cases hk2 : (k : Int) < l.length
      · have hc : l[k]? = some l[k] := List.getElem?_eq_getElem (by omega)
        obtain ⟨b, off, rfl, hlt, hC⟩ := HI.out (by omega)
        have hd : l.drop k = l[k] :: l.drop (k + 1) := List.drop_eq_getElem_cons (by omega)
        generalize l[k] = c at hc hd
        obtain ⟨q1, q2⟩ := (hC.later hB hlt) k c hc
        obtain ⟨y, f⟩ := c
        have hR := HR2.out
        rw [hd] at hR
        unfold risesB at hR
        simp only at hR q1 q2
        clear hd hc HR2 hC
        by_cases h1 : y ≤ x
        · have hr0 : res = false := by rw [hR]; simp [h1]
          clear hR
          subst hr0
          go_wp2
          go_ret
          exact ⟨rfl, hB⟩
        · by_cases h2 : y ≥ n
          · have hr0 : res = false := by rw [hR]; simp [h2]
            clear hR
            subst hr0
            go_wp2
            go_ret
            exact ⟨rfl, hB⟩
          · cases h3 : blankB f
            · have HR3 : Hid (res = risesB n y (l.drop (k + 1))) := by
                have e : res = risesB n y (l.drop (k + 1)) := by rw [hR, h3]; simp [h1, h2]
                exact e
              have h3' : sameB f N = false := by rw [HN.out]; exact h3
              clear hR
              go_wp2_with (first | refine wpList_loadMw rfl (.tmp 36) rfl b (off + k * 1025 + 1) rfl f q2 ?_ | refine wpList_build58w rfl rfl hbd' ?_ | refine wpList_eq58 rfl (.tmp 37) (.tmp 38) rfl f N false rfl rfl h3' ?_)
              exact ⟨⟨k + 1, y, by omega, rfl, by go_num, by trivial, HR3.out⟩, by simp [intOf]; omega⟩
            · have hr0 : res = false := by rw [hR, h3]; simp
              clear hR
              have h3' : sameB f N = true := by rw [HN.out]; exact h3
              subst hr0
              go_wp2_with (first | refine wpList_loadMw rfl (.tmp 36) rfl b (off + k * 1025 + 1) rfl f q2 ?_ | refine wpList_build58w rfl rfl hbd' ?_ | refine wpList_eq58 rfl (.tmp 37) (.tmp 38) rfl f N true rfl rfl h3' ?_)
              go_ret
              exact ⟨rfl, hB⟩
      · obtain rfl : k = l.length := by omega
        have hr0 : res = true := by rw [HR2.out, List.drop_length]; rfl
        subst hr0
        go_wp2
        go_ret
        exact ⟨rfl, hB⟩
end Go.Proofs.Ytbnbbelkddbndaa
