/- The law's own walk over what a table's All hands back: it answers true where the lists held against it are the numbers held at that call and what they stand for, whatever the bound; of at most a million rows. -/
import Derived.Test.YtbchbappdpbkiaaFddT
namespace Go.Proofs.Ytbchbappdpbkiaa
open Go.RowKit Go.Shelf Go.Lib
attribute [local go_sem] Oper.semAt_some
attribute [local simp, local go_sem] wide_fn wide_depth
/-- A list of what numbers stand for that lies in memory. -/
def ValT (w : World) (p : Option Addr) (L : List ByteArray) : Prop := ∀ i x, L[i]? = some x → ∃ b, p = some ⟨b, 0, none⟩ ∧ w.cell? ⟨b, i, none⟩ = some (.string x)
theorem ValT.later {w w' : World} {p : Option Addr} {L : List ByteArray} (h : ValT w p L) (hb : Below w.heap.size w w') : ValT w' p L := fun i x hx => by
  obtain ⟨b, h1, h2⟩ := h i x hx
  exact ⟨b, h1, (hb.cell (p := ⟨b, i, none⟩) (World.block_lt_of_cell? _ _ h2)).trans h2⟩
theorem eqlSeqT (lb : Array Value) (w : World) : (binOp BinOp.eql 80 (.func (.func 63) #[] lb) .nilFunc).run Try.prog w = .ok (.bool false) w := by kernel_rfl
def wkT (hn : Nat) (n : Int) (h8 : Nat) (r : Bool) (h7 : Nat) (most : Int) (h6 : Nat) (vV : Value) (h5 : Nat) (vF : Value) : List Part :=
  bxP hn #[.int .i64 n] 3 :: bxP h8 #[.bool r] 4 :: bxP h7 #[.int .i64 most] 3 :: bxP h6 #[vV] 82 :: bxP h5 #[vF] 65 :: []
theorem wk_finT {w V : World} {hn h8 h7 h6 h5 D : Nat} {n most : Int} {r : Bool} {vV vF : Value} (h : Sep w V (wkT hn n h8 r h7 most h6 vV h5 vF)) (hD : V.heap[D]? = some (.deferred (some []))) (hw : w.heap.size ≤ D) :
    (V.putObj D (.deferred none)).cell? ⟨h8, 0, none⟩ = some (.bool r) ∧ Below w.heap.size w (V.putObj D (.deferred none)) := by
  have h1 := h.sayOf (q := bxP h8 #[.bool r] 4) (by simp [wkT])
  have hne : h8 ≠ D := fun e => by
    have : V.heap[h8]? = some (.cells #[.bool r] 4) := h1
    rw [e, hD] at this
    cases this
  refine ⟨Joins.cell_of_block ((World.putObj_heap_other hne).trans h1) 0, h.below.trans (belowK_b (w := w) (Nat.le_refl _) V D _ _ hw hD rfl rfl)⟩
theorem pre_atT {pre L : List (Nat × ByteArray)} {x z : Nat × ByteArray} (h : pre ++ [x] <+: L) (hz : L[pre.length]? = some z) : x = z := by
  obtain ⟨r, rfl⟩ := h
  simpa using hz
theorem val_atT {L : List (Nat × ByteArray)} {i : Nat} {z : Nat × ByteArray} (h : L[i]? = some z) : (L.map (·.2))[i]? = some z.2 := by rw [List.getElem?_map, h]; rfl
set_option maxRecDepth 100000 in
set_option maxHeartbeats 8000000 in
theorem walk_inT {R : List (Option ByteArray)} {N : Nat} (hN : R.length = N) (hN1 : N ≤ 900000) (w : World) (q : Nat) (p : Option Addr) (cap : Nat) (hq : w.heap[q]? = some (.cells #[.slice p N cap] 62)) (hp : ∀ g, p = some ⟨g, 0, none⟩ → g < w.heap.size) (hcl : HeldT w p R)
    (pF pV : Option Addr) (cF cV : Nat) (hF : ∀ i x, (hl R)[i]? = some x → ∃ b, pF = some ⟨b, 0, none⟩ ∧ w.cell? ⟨b, i, none⟩ = some (.int .i64 (x.1 : Int))) (hV : ValT w pV ((hl R).map (·.2))) (most : Int) :
    CallsIn Fence.wide 4 Try.prog 49 #[.func (.func 63) #[] #[.pointer (some ⟨q, 0, none⟩)], .slice pF (hl R).length cF, .slice pV (hl R).length cV, .int .i64 most] w fun e w' => e = .returned (.bool true) ∧ Below w.heap.size w w' := by
  have heq := eqlSeqT
  have HN : Hid (R.length = N) := hN
  have hlc : (hl R).length ≤ 900000 := by rw [hl_len]; have := cnt_le R; omega
  have HQ : Hid (w.heap[q]? = some (.cells #[.slice p N cap] 62)) := hq
  have HCL : Hid (HeldT w p R) := hcl
  have HF : Hid (∀ i x, (hl R)[i]? = some x → ∃ b, pF = some ⟨b, 0, none⟩ ∧ w.cell? ⟨b, i, none⟩ = some (.int .i64 (x.1 : Int))) := hF
  have HV : Hid (ValT w pV ((hl R).map (·.2))) := hV
  have HP : Hid (∀ g, p = some ⟨g, 0, none⟩ → g < w.heap.size) := hp
  obtain ⟨M, hM⟩ : ∃ M, (hl R).length = M := ⟨_, rfl⟩
  have HM : Hid ((hl R).length = M) := hM
  rw [hM] at hlc ⊢
  refine callsIn_of_wp_marks Try.func49 rfl trivial ?_ rfl
  simp only [Try.ntmps49, List.size_toArray, List.length_cons, List.length_nil, Nat.reduceAdd, Nat.reduceSub, Array.replicate_succ, Array.replicate_zero, List.push_toArray, List.append_toArray, List.nil_append, List.cons_append]
  clear hN hM hq hcl hF hV hp
  gi_wp2
  have S1 := (((Sep.nil (Below.refl _ w)).box #[.slice pF M cF] 65).box #[.slice pV M cV] 82).box #[.int .i64 most] 3
  have S2 := (S1.box #[.bool false] 4).box #[.int .i64 0] 3
  simp only [World.size_alloc] at S2
  have S3 : Sep w (((((w.alloc (.cells #[.slice pF M cF] 65)).alloc (.cells #[.slice pV M cV] 82)).alloc (.cells #[.int .i64 most] 3)).alloc (.cells #[.bool false] 4)).alloc (.cells #[.int .i64 0] 3)) (wkT (w.heap.size + 1 + 1 + 1 + 1) 0 (w.heap.size + 1 + 1 + 1) false (w.heap.size + 1 + 1) most (w.heap.size + 1) (.slice pV M cV) w.heap.size (.slice pF M cF)) := S2
  have hszz : (((((w.alloc (.cells #[.slice pF M cF] 65)).alloc (.cells #[.slice pV M cV] 82)).alloc (.cells #[.int .i64 most] 3)).alloc (.cells #[.bool false] 4)).alloc (.cells #[.int .i64 0] 3)).heap.size = w.heap.size + 1 + 1 + 1 + 1 + 1 := by simp
  clear S1 S2
  generalize (((((w.alloc (.cells #[.slice pF M cF] 65)).alloc (.cells #[.slice pV M cV] 82)).alloc (.cells #[.int .i64 most] 3)).alloc (.cells #[.bool false] 4)).alloc (.cells #[.int .i64 0] 3)) = X at *
  have hlts : w.heap.size + 1 + 1 + 1 + 1 < X.heap.size ∧ w.heap.size + 1 + 1 + 1 < X.heap.size ∧ w.heap.size + 1 + 1 < X.heap.size ∧ w.heap.size + 1 < X.heap.size ∧ w.heap.size < X.heap.size := by omega
  have HXS : Hid (w.heap.size + 1 + 1 + 1 + 1 < X.heap.size ∧ w.heap.size + 1 + 1 + 1 < X.heap.size ∧ w.heap.size + 1 + 1 < X.heap.size ∧ w.heap.size + 1 < X.heap.size ∧ w.heap.size < X.heap.size) := hlts
  have hge : w.heap.size ≤ w.heap.size + 1 + 1 + 1 + 1 ∧ w.heap.size ≤ w.heap.size + 1 + 1 + 1 ∧ w.heap.size + 1 + 1 + 1 ≠ w.heap.size + 1 + 1 + 1 + 1 := by omega
  have HG : Hid (w.heap.size ≤ w.heap.size + 1 + 1 + 1 + 1 ∧ w.heap.size ≤ w.heap.size + 1 + 1 + 1 ∧ w.heap.size + 1 + 1 + 1 ≠ w.heap.size + 1 + 1 + 1 + 1) := hge
  have hql : q < w.heap.size := (Array.getElem?_eq_some_iff.1 HQ.out).1
  clear hszz hlts hge
  obtain ⟨h5, e5⟩ : ∃ h5, w.heap.size = h5 := ⟨_, rfl⟩
  obtain ⟨hn, en⟩ : ∃ hn, w.heap.size + 1 + 1 + 1 + 1 = hn := ⟨_, rfl⟩
  obtain ⟨h8, e8⟩ : ∃ h8, w.heap.size + 1 + 1 + 1 = h8 := ⟨_, rfl⟩
  obtain ⟨h7, e7⟩ : ∃ h7, w.heap.size + 1 + 1 = h7 := ⟨_, rfl⟩
  obtain ⟨h6, e6⟩ : ∃ h6, w.heap.size + 1 = h6 := ⟨_, rfl⟩
  rw [en, e8, e7, e6] at S3 HXS ⊢
  rw [en, e8] at HG
  have HS : Hid (Sep w X (wkT hn 0 h8 false h7 most h6 (.slice pV M cV) w.heap.size (.slice pF M cF))) := S3
  clear S3 en e8 e7 e6 e5 h5
  have hXw : w.heap.size ≤ X.heap.size := HS.out.below.size
  have hqX : q < X.heap.size := by omega
  have HPX : Hid (∀ g, p = some ⟨g, 0, none⟩ → g < X.heap.size) := fun g e => by have := HP.out g e; omega
  have hKX : KpQ q p w X := KpQ.below HS.out.below hql HP.out
  have HST : Hid (SeqStopsK Fence.wide 3 Try.prog 63 #[.pointer (some ⟨q, 0, none⟩)] encT (KpQ q p) (fun ys => ys = hl R) (fun pre => pre <+: hl R) 1000000 X) :=
    iter_stopsT HN.out (by omega) 3 q p cap X hqX HPX.out (hKX.cell.trans (Joins.cell_of_block HQ.out 0)) (HCL.out.kept hKX)
  have HNE : Hid (q < w.heap.size ∧ ∀ g, p = some ⟨g, 0, none⟩ → g < w.heap.size) := ⟨hql, HP.out⟩
  have HLT : Hid (∀ n r, ∀ pp ∈ wkT hn n h8 r h7 most h6 (.slice pV M cV) w.heap.size (.slice pF M cF), ∀ k, pp.own k → k < X.heap.size) := by
    intro n r pp hpp k hk
    have hx := HXS.out
    simp only [wkT, List.mem_cons, List.not_mem_nil, or_false] at hpp
    rcases hpp with rfl | rfl | rfl | rfl | rfl <;> (have hk' : k = _ := hk; omega)
  clear hXw hqX hKX hql
  refine wpIn_rangeFunc_ownF rfl (by omega) (gf := 63) rfl trivial (enters_of Try.func63 (by kernel_rfl) rfl) HST.out KpQ.trans (kpQ_b (by have := HS.out.below.size; have := HNE.out.1; omega) HPX.out) (Below.refl _ _) (fun _ => rfl)
    (fun pre V => Sep w V (wkT hn (pre.length : Nat) h8 false h7 most h6 (.slice pV M cV) w.heap.size (.slice pF M cF)))
    (fun c pre V => c = .ret ∧ (¬ pre <+: hl R ∨ ∃ k, Sep w V (wkT hn k h8 true h7 most h6 (.slice pV M cV) w.heap.size (.slice pF M cF))))
    (fun pre A B row hs hg hr => Sep.kept hs hg fun r e => ⟨Nat.le_trans HS.out.below.size (hr r e).1, fun pp hp hk => by have := HLT.out _ _ pp hp r hk; have := (hr r e).1; omega⟩)
    (fun c pre A B row hs hg hr => by
      obtain ⟨e, hs | ⟨k, hs⟩⟩ := hs
      · exact ⟨e, .inl hs⟩
      · exact ⟨e, .inr ⟨k, Sep.kept hs hg fun r e => ⟨Nat.le_trans HS.out.below.size (hr r e).1, fun pp hp hk => by have := HLT.out _ _ pp hp r hk; have := (hr r e).1; omega⟩⟩⟩)
    HS.out ?a1 ?assign ?body ?done ?stop
  case assign =>
    intro ll x V K hK
    unfold encT at *
    gi_wp2
    exact hK
  case body =>
    rintro ll pre x V hs hlen
    have HVS : Hid (Sep w V (wkT hn (pre.length : Nat) h8 false h7 most h6 (.slice pV M cV) w.heap.size (.slice pF M cF))) := hs
    have c9 : V.cell? ⟨hn, 0, none⟩ = some (.int .i64 (pre.length : Nat)) := Joins.cell_of_block hs.head 0
    have f9 : V.frozen? ⟨hn, 0, none⟩ = false := frozen_row hs.head 0
    have s8 := hs.sayOf (q := bxP h8 #[.bool false] 4) (by simp [wkT])
    have c8 : V.cell? ⟨h8, 0, none⟩ = some (.bool false) := Joins.cell_of_block s8 0
    have f8 : V.frozen? ⟨h8, 0, none⟩ = false := frozen_row s8 0
    have c7 : V.cell? ⟨h7, 0, none⟩ = some (.int .i64 most) := Joins.cell_of_block (hs.sayOf (q := bxP h7 #[.int .i64 most] 3) (by simp [wkT])) 0
    have c6 : V.cell? ⟨h6, 0, none⟩ = some (.slice pV M cV) := Joins.cell_of_block (hs.sayOf (q := bxP h6 #[.slice pV M cV] 82) (by simp [wkT])) 0
    have c5 : V.cell? ⟨w.heap.size, 0, none⟩ = some (.slice pF M cF) := Joins.cell_of_block (hs.sayOf (q := bxP w.heap.size #[.slice pF M cF] 65) (by simp [wkT])) 0
    have hbV := hs.below
    have HM1 := HM.out
    have hne8 := HG.out.2.2
    clear s8 hs
    by_cases hlt : pre.length < M
    · have hz : (hl R)[pre.length]? = some (hl R)[pre.length] := List.getElem?_eq_getElem (by omega)
      have HPre : Hid (pre ++ [x] <+: hl R → x = (hl R)[pre.length]) := fun hp => pre_atT hp hz
      obtain ⟨bF, eF, kF⟩ := HF.out _ _ hz
      obtain ⟨bV, eV, kV⟩ := HV.out _ _ (val_atT hz)
      have a0 := (hbV.cell (p := ⟨bF, pre.length, none⟩) (World.block_lt_of_cell? _ _ kF)).trans kF
      have a1 := (hbV.cell (p := ⟨bV, pre.length, none⟩) (World.block_lt_of_cell? _ _ kV)).trans kV
      rw [eF] at c5
      rw [eV] at c6
      have hl2 : decide (((M : Nat) : Int) ≤ ((pre.length : Nat) : Int)) = false := decide_eq_false (by omega)
      have hl3 : decide (M ≤ pre.length) = false := decide_eq_false (by omega)
      generalize (hl R)[pre.length] = z at *
      obtain ⟨zi, zx⟩ := z
      obtain ⟨xi, xx⟩ := x
      unfold encT at *
      clear hz hbV HM1 kF kV eF eV
      by_cases h1 : xi = zi
      · subst h1
        by_cases h2 : xx = zx
        · subst h2
          have HI : Hid (Sep w (V.setCell ⟨hn, 0, none⟩ (.int .i64 ((pre.length : Nat) + 1))) (wkT hn ((pre ++ [(xi, xx)]).length : Nat) h8 false h7 most h6 (.slice pV M cV) w.heap.size (.slice pF M cF))) := by
            have h3 := Sep.setBox (show Sep w V (bxP hn #[.int .i64 (pre.length : Nat)] 3 :: _) from HVS.out) 0 (.int .i64 ((pre.length : Nat) + 1))
            rw [List.length_append, List.length_singleton, Int.natCast_add]
            exact h3
          have HK : Hid (KpQ q p V (V.setCell ⟨hn, 0, none⟩ (.int .i64 ((pre.length : Nat) + 1)))) := by
            have h1 := HNE.out; have h2 := HG.out.1
            exact ⟨heap_setCell_other _ _ _ _ (by show q ≠ hn; omega), fun g e => heap_setCell_other _ _ _ _ (by show g ≠ hn; have := h1.2 g e; omega)⟩
          have c9b : (V.setCell ⟨hn, 0, none⟩ (.int .i64 ((pre.length : Nat) + 1))).cell? ⟨h7, 0, none⟩ = some (.int .i64 most) := Joins.cell_of_block (HI.out.sayOf (q := bxP h7 #[.int .i64 most] 3) (by simp [wkT])) 0
          by_cases h4 : ((pre.length : Nat) : Int) + 1 = most
          · have h5 : (((pre.length : Nat) : Int) + 1 == most) = true := by simpa using h4
            have HR : Hid (Sep w ((V.setCell ⟨hn, 0, none⟩ (.int .i64 ((pre.length : Nat) + 1))).setCell ⟨h8, 0, none⟩ (.bool true)) (wkT hn ((pre ++ [(xi, xx)]).length : Nat) h8 true h7 most h6 (.slice pV M cV) w.heap.size (.slice pF M cF))) :=
              (Sep.setBox (Sep.swap HI.out) 0 (.bool true)).swap
            clear h4 HPre
            gi_wp2
            exact ⟨KeepsOthers.trans (KeepsOthers.setCell _ _ _) (KeepsOthers.setCell _ _ _), rfl, .inr ⟨_, HR.out⟩⟩
          · have h5 : (((pre.length : Nat) : Int) + 1 == most) = false := by simpa using h4
            clear h4 HPre
            gi_wp2
            exact ⟨KeepsOthers.setCell _ _ _, HK.out, HI.out⟩
        · have h2b : (xx.toList == zx.toList) = false := (eqB _ _).trans (decide_eq_false h2)
          have HQQ : Hid (¬ pre ++ [(xi, xx)] <+: hl R) := fun hp => h2 (by have := HPre.out hp; simpa using this)
          clear h2 HPre
          gi_wp2
          exact ⟨KeepsOthers.setCell _ _ _, rfl, .inl HQQ.out⟩
      · have h1b : ((xi : Int) != (zi : Int)) = true := by simp; omega
        have HQQ : Hid (¬ pre ++ [(xi, xx)] <+: hl R) := fun hp => h1 (by have := HPre.out hp; simp at this; exact this.1)
        clear h1 HPre
        gi_wp2
        exact ⟨KeepsOthers.setCell _ _ _, rfl, .inl HQQ.out⟩
    · have hl2 : decide (((M : Nat) : Int) ≤ ((pre.length : Nat) : Int)) = true := decide_eq_true (by omega)
      have hl3 : decide (M ≤ pre.length) = true := decide_eq_true (by omega)
      have HQQ : Hid (¬ pre ++ [x] <+: hl R) := fun hp => by
        have := hp.length_le
        rw [List.length_append, List.length_singleton] at this
        omega
      obtain ⟨xi, xx⟩ := x
      unfold encT at *
      clear HM1 hbV
      gi_wp2
      exact ⟨KeepsOthers.setCell _ _ _, rfl, .inl HQQ.out⟩
  case done =>
    rintro D ys V hD hys hs hmk
    have hnn : (ys.length : Int) = (M : Int) := by rw [hys, HM.out]
    rw [hnn] at hs
    have c9 : V.cell? ⟨hn, 0, none⟩ = some (.int .i64 (M : Int)) := Joins.cell_of_block (show V.heap[hn]? = _ from hs.head) 0
    have s8 := hs.sayOf (q := bxP h8 #[.bool false] 4) (by simp [wkT])
    have c8 : V.cell? ⟨h8, 0, none⟩ = some (.bool false) := Joins.cell_of_block s8 0
    have f8 : V.frozen? ⟨h8, 0, none⟩ = false := frozen_row s8 0
    have c5 : V.cell? ⟨w.heap.size, 0, none⟩ = some (.slice pF M cF) := Joins.cell_of_block (hs.sayOf (q := bxP w.heap.size #[.slice pF M cF] 65) (by simp [wkT])) 0
    have HR : Hid (Sep w (V.setCell ⟨h8, 0, none⟩ (.bool true)) (wkT hn M h8 true h7 most h6 (.slice pV M cV) w.heap.size (.slice pF M cF))) := (Sep.setBox (Sep.swap hs) 0 (.bool true)).swap
    have HMK : Hid (V.heap[D]? = some (.deferred (some []))) := hmk
    have HD : Hid (X.heap.size ≤ D) := hD
    have eNN : ((M : Int) == (M : Int)) = true := by simp
    clear s8 hs hmk hD hys hnn
    gi_wp2
    have hD2 : (V.setCell ⟨h8, 0, none⟩ (.bool true)).heap[D]? = some (.deferred (some [])) := (heap_setCell_other _ _ _ _ (by have h1 := HXS.out; have h2 := HD.out; show D ≠ h8; omega)).trans HMK.out
    obtain ⟨x3, x4⟩ := wk_finT HR.out hD2 (Nat.le_trans HS.out.below.size HD.out)
    refine ⟨by simp, .inl ⟨_, _, rfl, run_takeDeferred hD2, ?_⟩⟩
    refine ⟨.bool true, ?_, rfl, x4⟩
    have hl : (loadVar 4 ⟨h8, 0, none⟩).run Try.prog ((V.setCell ⟨h8, 0, none⟩ (.bool true)).putObj D (.deferred none)) = .ok (.bool true) ((V.setCell ⟨h8, 0, none⟩ (.bool true)).putObj D (.deferred none)) := by simp [loadVar, Try.isAgg4, x3]
    simp [results, asAddr, hl]
  case stop =>
    rintro D cc pre V hD hpre hx hmk
    obtain ⟨rfl, hx | ⟨k, hs⟩⟩ := hx
    · exact absurd hpre hx
    · have HMK : Hid (V.heap[D]? = some (.deferred (some []))) := hmk
      have HR : Hid (Sep w V (wkT hn k h8 true h7 most h6 (.slice pV M cV) w.heap.size (.slice pF M cF))) := hs
      have HD : Hid (X.heap.size ≤ D) := hD
      clear hs hmk hD
      gi_wp2
      obtain ⟨x3, x4⟩ := wk_finT HR.out HMK.out (Nat.le_trans HS.out.below.size HD.out)
      refine ⟨by simp, .inl ⟨_, _, rfl, run_takeDeferred HMK.out, ?_⟩⟩
      refine ⟨.bool true, ?_, rfl, x4⟩
      have hl : (loadVar 4 ⟨h8, 0, none⟩).run Try.prog (V.putObj D (.deferred none)) = .ok (.bool true) (V.putObj D (.deferred none)) := by simp [loadVar, Try.isAgg4, x3]
      simp [results, asAddr, hl]
end Go.Proofs.Ytbchbappdpbkiaa
