/- bools, sameBools, same, KeptHelds, KeptOps: what they answer of lists that are as they were; lists of at most 200. -/
import Derived.Test.YtbnbbelkddbndaaLnt
import Derived.Test.YtbnbbelkddbndaaScene
import Derived.Test.YtbnbbelkddbndaaRWith
namespace Go.Proofs.Ytbnbbelkddbndaa
open Go.RowKit Go.Maps
theorem img_lies {w : World} {p : Option Addr} {l : List Cel} (h : ImgAt w p l) : LiesE celRow 1025 w p l := fun h0 => by
  obtain ⟨b, off, hp, hlt, hc⟩ := h h0
  exact ⟨b, off, hp, hlt, fun k x hx j v hv => CelAt.range (hc k x hx) j v hv⟩
theorem lies_img {w : World} {p : Option Addr} {l : List Cel} (h : LiesE celRow 1025 w p l) : ImgAt w p l := fun h0 => by
  obtain ⟨b, off, hp, hlt, hc⟩ := h h0
  refine ⟨b, off, hp, hlt, fun k x hx => ⟨hc k x hx 0 _ rfl, fun j v hv => ?_⟩⟩
  have := hc k x hx (j + 1) v (by unfold celRow; rw [List.getElem?_cons_succ]; exact hv)
  rwa [show off + k * 1025 + (j + 1) = off + k * 1025 + 1 + j by omega] at this
theorem ops_lies {w : World} {p : Option Addr} {l : List Rec} (h : OpsAt w p l) : LiesE recCells 1026 w p l := fun h0 => by
  obtain ⟨b, off, hp, hlt, hc⟩ := h h0
  exact ⟨b, off, hp, hlt, fun k x hx j v hv => recs_range hc hx j v hv⟩
theorem lies_ops {w : World} {p : Option Addr} {l : List Rec} (h : LiesE recCells 1026 w p l) : OpsAt w p l := fun h0 => by
  obtain ⟨b, off, hp, hlt, hc⟩ := h h0
  refine ⟨b, off, hp, hlt, fun k x hx => ⟨hc k x hx 0 _ rfl, hc k x hx 1 _ rfl, fun j v hv => ?_⟩⟩
  have := hc k x hx (j + 2) v (by unfold recCells; rw [List.getElem?_cons_succ, List.getElem?_cons_succ]; exact hv)
  rwa [show off + k * 1026 + (j + 2) = off + k * 1026 + 2 + j by omega] at this
/-- A bit as a cell. -/
def enT (b : Bool) : List Value := [.bool b]
theorem lenT (b : Bool) : (enT b).length = 1 := rfl
theorem oneT (b : Bool) : ∀ u ∈ enT b, u.oneCell' = true := fun u hu => by simp [enT] at hu; subst hu; rfl
theorem inf4 : (Try.prog.info? 4).map (fun i => (i.zero, i.size, i.bytes)) = some (some (.bool false), 1, 1) := by kernel_rfl
theorem bools_lies {w : World} {p : Option Addr} {l : List Bool} {c : Nat} (h : BoolsAt w (.slice p l.length c) l) : LiesE enT 1 w p l := fun h0 => by
  obtain ⟨p', c', e, hc⟩ := h
  injection e with e1 e2 e3
  subst e1
  obtain ⟨b, off, hp, hc⟩ := hc h0
  have hx : l[0]? = some (l[0]'h0) := List.getElem?_eq_getElem h0
  refine ⟨b, off, hp, block_lt_of_cell (hc 0 _ hx), fun k x hx j v hv => ?_⟩
  cases j with
  | succ j => simp [enT] at hv
  | zero =>
    have e : Value.bool x = v := by simpa [enT] using hv
    rw [← e, Nat.mul_one, Nat.add_zero]
    exact hc k x hx
theorem lies_bools {w : World} {p : Option Addr} {l : List Bool} {c : Nat} (h : LiesE enT 1 w p l) : BoolsAt w (.slice p l.length c) l := by
  refine ⟨p, c, rfl, fun h0 => ?_⟩
  obtain ⟨b, off, hp, _, hc⟩ := h h0
  refine ⟨b, off, hp, fun k x hx => ?_⟩
  have := hc k x hx 0 _ rfl
  rwa [Nat.mul_one, Nat.add_zero] at this
theorem LiesE.later {α : Type} {en : α → List Value} {sz : Nat} {w w' : World} {p : Option Addr} {l : List α} (h : LiesE en sz w p l) (hb : Below w.heap.size w w') : LiesE en sz w' p l := fun h0 => by
  obtain ⟨b, off, hp, hlt, hc⟩ := h h0
  exact ⟨b, off, hp, Nat.lt_of_lt_of_le hlt hb.size, fun k x hx j v hv => (hb.cell (p := ⟨b, off + k * sz + j, none⟩) hlt).trans (hc k x hx j v hv)⟩
/-- Bits with the marks behind them. -/
def lentT (l : List Bool) : List Bool := l ++ [true, false, true]
set_option maxRecDepth 20000 in
theorem bools_any (l : List Bool) (p : Option Addr) (c : Nat) (w : World) (hn : l.length ≤ 1000000) (h : LiesE enT 1 w p l) :
    Calls Try.prog 12 #[.slice p l.length c] w fun e w' => ∃ v, e = .returned v ∧ w'.ownsRow w.heap.size 4 1 v (lentT l).length ((lentT l).flatMap enT) ∧ Below w.heap.size w w' := by
  obtain ⟨i0, hi0, hz0, hz1, hz2⟩ := info_parts inf4
  obtain ⟨v1, w1, hr1, ho1, hb1⟩ := append_copy (c := c) lenT oneT Try.underlying26 hi0 hz0 hz1 hz2 rfl (by omega) (by omega) h hn 26
  have hnews : ∀ j u, ([true, false, true].flatMap enT)[j]? = some u → (w1.alloc (.cells #[.bool true, .bool false, .bool true] 4)).cell? ((⟨w1.heap.size, 0, none⟩ : Addr).add j) = some u := fun j u hu => by
    rw [Go.WideShapes.add_plain, Nat.zero_add, cell_of_row _ _ j _ 4 _ (heap_alloc_new w1 _)]
    simpa [enT] using hu
  obtain ⟨v2, w2, hr2, ho2, hf2, _⟩ := append_gen (W := w1.alloc (.cells #[.bool true, .bool false, .bool true] 4)) (v := v1) Try.underlying26 hi0 hz0 hz1 hz2 rfl (by omega) (World.ownsRow.alloc ho1 (.cells #[.bool true, .bool false, .bool true] 4)) (ad := ⟨w1.heap.size, 0, none⟩) (m := 3) (c := 3) (news := [true, false, true].flatMap enT) (by omega) rfl hnews (fun u hu => by
    obtain ⟨x, _, hx⟩ := List.mem_flatMap.1 hu
    exact oneT x u hx) (by unfold maxLen; omega) (by omega) (by have := hb1.size; simp only [World.alloc, Array.size_push]; omega) 26
  have HO : Hid (w2.ownsRow w.heap.size 4 1 v2 (lentT l).length ((lentT l).flatMap enT)) := by
    unfold lentT
    rw [List.length_append, List.flatMap_append]
    exact Hid.mk' ho2
  have HF : Hid (Below w.heap.size w w2) := hb1.trans (((Fr.alloc _ w1 (.cells #[.bool true, .bool false, .bool true] 4)).trans hf2 fun _ _ q => q).below (fun j q => (ho1.lt j q).1) hb1.size)
  have HR1 := Hid.mk' hr1
  have HR2 := Hid.mk' hr2
  clear hr1 hr2 ho1 ho2 hf2 hb1 hnews h hz0 hi0
  go_enter Try.func12, Try.ntmps12
  go_wp2_with (first | (at_builtin; refine wpList_exec rfl (exec_pushY rfl rfl rfl HR1.out) ?_) | (at_builtin; refine wpList_exec rfl (exec_pushY rfl rfl rfl HR2.out) ?_))
  go_ret
  exact ⟨v2, rfl, HO.out, HF.out⟩
set_option maxRecDepth 20000 in
set_option maxHeartbeats 400000 in
theorem sameBools_one (s : List Bool) (p q : Option Addr) (cp cq : Nat) (w : World) (hls : s.length < 9223372036854775807) (hs : LiesE enT 1 w p s) (ht : LiesE enT 1 w q s) :
    Calls Try.prog 16 #[.slice p s.length cp, .slice q s.length cq] w fun e w' => e = .returned (.bool true) ∧ Below w.heap.size w w' := by
  have HS := Hid.mk' hs
  have HT := Hid.mk' ht
  obtain ⟨n, hn⟩ : ∃ n, s.length = n := ⟨_, rfl⟩
  rw [hn]
  rw [hn] at hls
  have HL : Hid (s.length = n) := hn
  clear hs ht hn
  go_enter Try.func16, Try.ntmps16
  go_wp2
  go_loopw [5] (fun s5 wx => ∃ k : Nat, k ≤ n ∧ s5 = .int .i64 k ∧ Hid (Below w.heap.size w wx)) (fun s5 _ => n - (intOf s5).toNat)
  case atStart => exact ⟨0, by omega, rfl, Below.refl _ _⟩
  case round =>
    obtain ⟨k, hk, rfl, HB⟩ := hrel
    by_cases hk2 : (k : Int) < n
    · have hsk : k < s.length := by have := HL.out; omega
      have hc : s[k]? = some (s[k]'hsk) := List.getElem?_eq_getElem hsk
      obtain ⟨b1, o1, rfl, l1, C1⟩ := (HS.out.later HB.out) (by omega)
      obtain ⟨b2, o2, rfl, l2, C2⟩ := (HT.out.later HB.out) (by omega)
      generalize s[k]'hsk = c at hc
      have q1 : wr.cell? ⟨b1, o1 + k, none⟩ = some (.bool c) := by have := C1 k c hc 0 _ rfl; rwa [Nat.mul_one, Nat.add_zero] at this
      have q2 : wr.cell? ⟨b2, o2 + k, none⟩ = some (.bool c) := by have := C2 k c hc 0 _ rfl; rwa [Nat.mul_one, Nat.add_zero] at this
      have HBq : Hid (∀ nq, Below w.heap.size w (wr.drewN nq)) := fun nq => HB.out.trans ⟨rfl, rfl, rfl, Nat.le_refl _, fun _ _ => rfl⟩
      clear C1 C2 hc hsk
      go_upto_region 6 with fail
      go_quiet (fail)
      cases c <;> (go_wp2; exact ⟨⟨k + 1, by omega, by go_num, HBq.out _⟩, by simp [intOf]; omega⟩)
    · obtain rfl : k = n := by omega
      go_wp2
      go_ret
      exact ⟨rfl, HB.out⟩
theorem celsB_self : ∀ l : List Cel, celsB l l = true
  | [] => rfl
  | a :: t => by
    unfold celsB
    rw [celsB_self t]
    unfold celB
    rw [sameB_self]
    simp
set_option maxRecDepth 20000 in
theorem keptH_any (l : List Cel) (p q : Option Addr) (cp cq : Nat) (w : World) (hn : l.length ≤ 1000000) (hf : LiesE celRow 1025 w p (lentH l)) (h : LiesE celRow 1025 w q l) :
    Calls Try.prog 14 #[.slice p (lentH l).length cp, .slice q l.length cq] w fun e w' => e = .returned (.bool true) ∧ Below w.heap.size w w' := by
  have HL := Hid.mk' (lentH_any l q cq w hn h)
  have HF := Hid.mk' hf
  have HN := Hid.mk' (show (lentH l).length ≤ 1000006 by unfold lentH; rw [List.length_append, mks_len]; omega)
  clear h hf
  generalize lentH l = L at *
  go_enter Try.func14, Try.ntmps14
  go_wp2_with (go_at_call 10; fail)
  refine Calls.mono HL.out ?_
  rintro e W1 ⟨v, rfl, ho, hb⟩
  obtain ⟨pv, cv, rfl, _⟩ := own_slice ho
  have HS := Hid.mk' (sameHelds_any L L p pv cp cv W1 (by have := HN.out; omega) (by have := HN.out; omega) (lies_img (HF.out.later hb)) (lies_img (own_lies lenH ho)))
  have HB := Hid.mk' hb
  clear ho hb
  go_wp2_with (go_at_call 51; fail)
  refine Calls.mono HS.out ?_
  rintro e W2 ⟨rfl, hb2⟩
  rw [celsB_self]
  go_wp2
  go_ret
  exact ⟨rfl, below_next HB.out hb2⟩
set_option maxRecDepth 20000 in
theorem keptO_any (l : List Rec) (p q : Option Addr) (cp cq : Nat) (w : World) (hn : l.length ≤ 1000000) (hf : LiesE recCells 1026 w p (lentO l)) (h : LiesE recCells 1026 w q l) :
    Calls Try.prog 15 #[.slice p (lentO l).length cp, .slice q l.length cq] w fun e w' => e = .returned (.bool true) ∧ Below w.heap.size w w' := by
  have HL := Hid.mk' (lentO_any l q cq w hn h)
  have HF := Hid.mk' hf
  have HN := Hid.mk' (show (lentO l).length ≤ 1000006 by unfold lentO; rw [List.length_append, mks_len]; omega)
  clear h hf
  generalize lentO l = L at *
  go_enter Try.func15, Try.ntmps15
  go_wp2_with (go_at_call 11; fail)
  refine Calls.mono HL.out ?_
  rintro e W1 ⟨v, rfl, ho, hb⟩
  obtain ⟨pv, cv, rfl, _⟩ := own_slice ho
  have HS := Hid.mk' (sameOps_any L L p pv cp cv W1 (by have := HN.out; omega) (by have := HN.out; omega) (lies_ops (HF.out.later hb)) (lies_ops (own_lies recCells_len ho)))
  have HB := Hid.mk' hb
  clear ho hb
  go_wp2_with (go_at_call 52; fail)
  refine Calls.mono HS.out ?_
  rintro e W2 ⟨rfl, hb2⟩
  rw [recsB_self]
  go_wp2
  go_ret
  exact ⟨rfl, below_next HB.out hb2⟩
set_option maxRecDepth 20000 in
theorem same_one (n : Int) (l : List Cel) (p q : Option Addr) (cp cq : Nat) (w : World) (hl : l.length < 9223372036854775807) (hp : ImgAt w p l) (hq : ImgAt w q l) :
    Calls Try.prog 41 #[.agg #[.int .i64 n, .slice p l.length cp], .agg #[.int .i64 n, .slice q l.length cq]] w fun e w' => e = .returned (.bool true) ∧ Below w.heap.size w w' := by
  have HB0 := Hid.mk' (below_next (below_new w (.cells #[.int .i64 n, .slice p l.length cp] 24)) (below_new (w.alloc (.cells #[.int .i64 n, .slice p l.length cp] 24)) (.cells #[.int .i64 n, .slice q l.length cq] 24)))
  have HS := Hid.mk' (sameHelds_any l l p q cp cq _ hl hl (hp.later HB0.out) (hq.later HB0.out))
  rw [celsB_self] at HS
  clear hp hq
  go_enter Try.func41, Try.ntmps41
  go_wp2_with (go_at_call 51; fail)
  refine Calls.mono HS.out ?_
  rintro e W2 ⟨rfl, hb2⟩
  go_wp2
  go_ret
  exact ⟨rfl, below_next HB0.out hb2⟩
end Go.Proofs.Ytbnbbelkddbndaa
