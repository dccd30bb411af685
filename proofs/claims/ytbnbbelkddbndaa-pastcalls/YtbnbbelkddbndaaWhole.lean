/- Whole, sure, mayBe: of every image and all ops whether they may be, and how many the last barrier ends; no condition but that lists are not longer than lists can be. -/
import Derived.Test.YtbnbbelkddbndaaMay
namespace Go.Proofs.Ytbnbbelkddbndaa
open Go.RowKit
theorem rises_bounds {n : Int} : ∀ (l : List Cel) (a : Int), -1 ≤ a → risesB n a l = true → ∀ c ∈ l, 0 ≤ c.1 ∧ c.1 < n ∧ blankB c.2 = false
  | [], _, _, _, c, hc => by simp at hc
  | x :: t, a, ha, h, c, hc => by
    unfold risesB at h
    simp at h
    obtain ⟨⟨⟨h1, h2⟩, h3⟩, h4⟩ := h
    rcases List.mem_cons.1 hc with rfl | hc
    · exact ⟨by omega, by omega, h3⟩
    · exact rises_bounds t x.1 (by omega) h4 c hc
theorem may_bounds {n : Int} {l : List Cel} (h : mayB n l = true) : bndB n = true ∧ ∀ c ∈ l, 0 ≤ c.1 ∧ c.1 < n ∧ blankB c.2 = false := by
  unfold mayB at h
  simp at h
  exact ⟨h.1, rises_bounds l (-1) (by omega) h.2⟩
theorem ImgAt.later {w W : World} {p : Option Addr} {l : List Cel} (h : ImgAt w p l) (hb : Below w.heap.size w W) : ImgAt W p l := fun h0 => by
  obtain ⟨b, off, h1, h2, h3⟩ := h h0
  exact ⟨b, off, h1, Nat.lt_of_lt_of_le h2 hb.size, h3.later hb h2⟩
/-- What Whole tells. -/
def wholeE (n : Int) (l : List Cel) : Int := if mayB n l then 0 else 2
set_option maxRecDepth 20000 in
set_option maxHeartbeats 2000000 in
theorem whole_any (n : Int) (l : List Cel) (p : Option Addr) (cap : Nat) (w : World) (hl : l.length < 9223372036854775807) (h : ImgAt w p l) :
    Calls Try.prog 22 #[.agg #[.int .i64 n, .slice p l.length cap]] w fun e w' => e = .returned (.int .i64 (wholeE n l)) ∧ Below w.heap.size w w' := by
  have hB := below_new w (.cells #[.int .i64 n, .slice p l.length cap] 24)
  have hG := heap_alloc_new w (.cells #[.int .i64 n, .slice p l.length cap] 24)
  have HI : Hid (ImgAt w p l) := h
  have hbd := built58
  clear h
  cases hb : bndB n
  · have e0 : wholeE n l = 2 := by unfold wholeE mayB; rw [hb]; rfl
    rw [e0]
    have hn : n < 1 ∨ n > 1048576 := by
      have : ¬ (1 ≤ n ∧ n ≤ 1048576) := by simpa [bndB] using hb
      omega
    clear e0 hb
    rcases hn with hn | hn
    · go_enter Try.func22, Try.ntmps22
      go_wp2
      go_ret
      exact ⟨rfl, hB⟩
    · go_enter Try.func22, Try.ntmps22
      go_wp2
      go_ret
      exact ⟨rfl, hB⟩
  · have HR : Hid (wholeE n l = if risesB n (-1) (l.drop 0) then 0 else 2) := by unfold wholeE mayB; rw [hb]; rfl
    generalize wholeE n l = res at *
    generalize hW : w.alloc (.cells #[.int .i64 n, .slice p l.length cap] 24) = W0 at *
    have i0 : W0.cell? ⟨w.heap.size, 0, none⟩ = some (.int .i64 n) := Joins.cell_of_block hG 0
    have i1 : W0.cell? ⟨w.heap.size, 1, none⟩ = some (.slice p l.length cap) := Joins.cell_of_block hG 1
    have hn : 1 ≤ n ∧ n ≤ 1048576 := by simpa [bndB] using hb
    clear hb
    go_enter Try.func22, Try.ntmps22
    go_wp2
    obtain ⟨N, hbd', eN⟩ : ∃ N, (∀ u : World, (Instr.build 40 #[]).run Try.prog u = .ok (.agg (blk N)) u) ∧ N = nought := ⟨nought, built58, rfl⟩
    have HN : Hid (N = nought) := eN
    clear eN hbd
    go_loopw [3, 17] (fun s3 s17 wx => ∃ (k : Nat) (x : Int), k ≤ l.length ∧ s3 = .int .i64 x ∧ s17 = .int .i64 k ∧ wx = W0 ∧ Hid (res = if risesB n x (l.drop k) then 0 else 2)) (fun s3 s17 _ => l.length - (intOf s17).toNat)
    case atStart => exact ⟨0, -1, by omega, rfl, rfl, rfl, HR.out⟩
    case round =>
      obtain ⟨k, x, hk, rfl, rfl, rfl, HR2⟩ := hrel
      clear HR
      by_cases hk2 : (k : Int) < l.length
      · have hc : l[k]? = some l[k] := List.getElem?_eq_getElem (by omega)
        obtain ⟨b, off, rfl, hlt, hC⟩ := HI.out (by omega)
        have hd : l.drop k = l[k] :: l.drop (k + 1) := List.drop_eq_getElem_cons (by omega)
        generalize l[k] = c at hc hd
        obtain ⟨q1, q2⟩ := (hC.later hB hlt) k c hc
        obtain ⟨y, f⟩ := c
        have hR := HR2.out
        rw [hd] at hR
        unfold risesB at hR
        simp only at hR q1 q2
        clear hd hc HR2 hC
        by_cases h1 : y ≤ x
        · have hr0 : res = 2 := by rw [hR]; simp [h1]
          clear hR
          subst hr0
          go_wp2
          go_ret
          exact ⟨rfl, hB⟩
        · by_cases h2 : y ≥ n
          · have hr0 : res = 2 := by rw [hR]; simp [h2]
            clear hR
            subst hr0
            go_wp2
            go_ret
            exact ⟨rfl, hB⟩
          · cases h3 : blankB f
            · have HR3 : Hid (res = if risesB n y (l.drop (k + 1)) then 0 else 2) := by
                have e : res = if risesB n y (l.drop (k + 1)) then 0 else 2 := by rw [hR, h3]; simp [h1, h2]
                exact e
              have h3' : sameB f N = false := by rw [HN.out]; exact h3
              clear hR
              go_wp2_with (first | refine wpList_loadMw rfl (.tmp 40) rfl b (off + k * 1025 + 1) rfl f q2 ?_ | refine wpList_build58w rfl rfl hbd' ?_ | refine wpList_eq58 rfl (.tmp 41) (.tmp 42) rfl f N false rfl rfl h3' ?_)
              exact ⟨⟨k + 1, y, by omega, rfl, by go_num, by trivial, HR3.out⟩, by simp [intOf]; omega⟩
            · have hr0 : res = 2 := by rw [hR, h3]; simp
              clear hR
              have h3' : sameB f N = true := by rw [HN.out]; exact h3
              subst hr0
              go_wp2_with (first | refine wpList_loadMw rfl (.tmp 40) rfl b (off + k * 1025 + 1) rfl f q2 ?_ | refine wpList_build58w rfl rfl hbd' ?_ | refine wpList_eq58 rfl (.tmp 41) (.tmp 42) rfl f N true rfl rfl h3' ?_)
              go_ret
              exact ⟨rfl, hB⟩
      · obtain rfl : k = l.length := by omega
        have hr0 : res = 0 := by rw [HR2.out, List.drop_length]; rfl
        subst hr0
        go_wp2
        go_ret
        exact ⟨rfl, hB⟩
end Go.Proofs.Ytbnbbelkddbndaa
