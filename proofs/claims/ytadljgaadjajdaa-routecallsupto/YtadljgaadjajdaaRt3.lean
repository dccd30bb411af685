/- Parse by the program: whatever the text; no condition. -/
import Derived.Test.YtadljgaadjajdaaRt2
import Derived.Test.YtadljgaadjajdaaTx
import Derived.Test.YtadljgaadjajdaaBu1
namespace Go.Proofs.Ytadljgaadjajdaa
open Go.RowKit Go.Maps
def szV : Value → Nat
  | .string s => s.size
  | _ => 0
/-- acc has been cut off l, n is the name cut last, q what is left. -/
structure ParsSt (l : List UInt8) (acc : List (List UInt8)) (n q : ByteArray) : Prop where
  nil : n.size = 0 → nms l = acc
  cons : 0 < n.size → nms l = acc ++ bl n :: nms (bl q)
  short : lnL acc = false
  few : n.size + q.size ≤ 1024
  len : acc.length ≤ 1025
theorem ParsSt.start {s n q : ByteArray} (h : CutOk s n q) (hs : s.size ≤ 1024) : ParsSt (bl s) [] n q :=
  ⟨h.1, fun h0 => by rw [h.2.1 h0]; rfl, rfl, by have := h.2.2; omega, by simp⟩
theorem ParsSt.next {l : List UInt8} {acc : List (List UInt8)} {n q n' q' : ByteArray} (h : ParsSt l acc n q) (h0 : 0 < n.size) (h14 : ¬ 14 < n.size) (hl : l.length ≤ 1024) (hc : CutOk q n' q') : ParsSt l (acc ++ [bl n]) n' q' ∧ n'.size + q'.size < n.size + q.size := by
  have e := h.cons h0
  refine ⟨⟨fun z => ?_, fun z => ?_, ?_, by have := h.few; have := hc.2.2; omega, ?_⟩, by have := hc.2.2; omega⟩
  · rw [e, hc.1 z]
  · rw [e, hc.2.1 z, List.append_assoc]; rfl
  · unfold lnL
    rw [List.any_append, show acc.any (fun p => decide (14 < p.length)) = false from h.short, Bool.false_or, List.any_cons, List.any_nil, Bool.or_false]
    exact decide_eq_false (by rw [bl_len]; exact h14)
  · have h1 := nms_len l
    rw [e, List.length_append, List.length_cons] at h1
    rw [List.length_append, List.length_singleton]
    omega
theorem ParsSt.long {l : List UInt8} {acc : List (List UInt8)} {n q : ByteArray} (h : ParsSt l acc n q) (h14 : 14 < n.size) : lnL (nms l) = true := by
  rw [h.cons (by omega)]
  unfold lnL
  rw [List.any_append, List.any_cons]
  simp [bl_len, h14]
theorem map_push (acc : List (List UInt8)) (n : ByteArray) : acc.map mkT ++ [n] = (acc ++ [bl n]).map mkT := by simp [mk_bl]
set_option maxRecDepth 20000 in
set_option maxHeartbeats 2000000 in
theorem parse_any (s : ByteArray) (w : World) (hs : s.size ≤ 9223372036854775807) :
    Calls Try.prog 7 #[.string s] w fun e w' => ∃ v, e = .returned (.tuple #[v, .int .i64 (prE (bl s))]) ∧ OwnS w' w.heap.size v ((prL (bl s)).map mkT) ∧ Below w.heap.size w w' := by
  have HW : Hid _ := fun u => well_any s u hs
  by_cases ho : okL (bl s) = true
  · have h1024 : s.size ≤ 1024 := ((okL_iff _).1 ho).2.1
    have HC : Hid _ := fun u => cut_any s u hs
    rw [ho] at HW
    have HE : Hid (lnL (nms (bl s)) = false → prE (bl s) = 0 ∧ prL (bl s) = nms (bl s)) := fun q => ⟨prE_ok ho q, prL_ok ho q⟩
    have HF : Hid (lnL (nms (bl s)) = true → prE (bl s) = 12 ∧ prL (bl s) = []) := fun q => ⟨prE_long ho q, prL_long ho q⟩
    have HS : Hid _ := fun n q (h : CutOk s n q) => ParsSt.start h h1024
    have hl : (bl s).length ≤ 1024 := by rw [bl_len]; exact h1024
    clear ho h1024
    generalize prE (bl s) = E at *
    generalize prL (bl s) = R at *
    generalize bl s = l at *
    go_enter Try.func7, Try.ntmps7
    go_wp2_with (first | (go_at_call 21; fail))
    refine (HW.out _).mono ?_
    rintro e w1 ⟨rfl, rfl⟩
    go_wp2_with (first | (go_at_call 22; fail))
    refine (HC.out _).mono ?_
    rintro e w2 ⟨n, q, rfl, hb2, hc⟩
    have HP : Hid (ParsSt l [] n q) := HS.out n q hc
    have HB : Hid _ := hb2
    clear HW HC HS hc hb2
    go_wp2
    go_loopw [4, 5, 6] (fun s4 s5 s6 wx => ∃ (acc : List (List UInt8)) (n q : ByteArray), s5 = .string n ∧ s6 = .string q ∧ Hid (OwnS wx w1.heap.size s4 (acc.map mkT)) ∧ Hid (Below w1.heap.size w1 wx) ∧ Hid (ParsSt l acc n q)) (fun _ s5 s6 _ => szV s5 + szV s6)
    case atStart => exact ⟨[], n, q, rfl, rfl, OwnS.nil _ _, HB.out, HP.out⟩
    case round =>
      clear HB HP
      obtain ⟨acc, n, q, rfl, rfl, HO, HB, HP⟩ := hrel
      by_cases h0 : n.size = 0
      · have e1 := HP.out.nil h0
        have e2 : lnL (nms l) = false := by rw [e1]; exact HP.out.short
        obtain ⟨rfl, rfl⟩ := HE.out e2
        rw [nm_empty h0]
        have HO2 : Hid (OwnS wr w1.heap.size u4 ((nms l).map mkT)) := by have := HO.out; rw [← e1] at this; exact this
        clear HO HP e1 e2 HE HF h0
        go_wp2
        go_ret2
        exact ⟨_, rfl, HO2.out, HB.out⟩
      · have h3 := nm_list (s := n) (by omega)
        by_cases h14 : 14 < n.size
        · obtain ⟨rfl, rfl⟩ := HF.out (HP.out.long h14)
          have g1 : decide ((14 : Int) < (n.size : Int)) = true := decide_eq_true (by omega)
          clear HO HP HE HF
          go_wp2
          go_ret2
          exact ⟨_, rfl, OwnS.nil _ _, HB.out⟩
        · have g1 : decide ((14 : Int) < (n.size : Int)) = false := decide_eq_false (by omega)
          have hlen : 16 * ((acc.map mkT).length + 1) ≤ 140737488355328 := by rw [List.length_map]; have := HP.out.len; omega
          have HQ : Hid _ := fun u => cut_any q u (by have := HP.out.few; omega)
          have HN : Hid _ := fun n' q' (hc : CutOk q n' q') => HP.out.next (by omega) h14 hl hc
          have HCl : Hid _ := fun u => clone_any n u (by omega)
          clear HP HE HF
          go_wp2_with (first | (go_at_call 23; fail))
          refine (HCl.out _).mono ?_
          rintro e w3 ⟨rfl, hb3⟩
          have hown := HO.out.later hb3
          have hbel := below_next HB.out hb3
          have HA : Hid (acc.map mkT ++ [n] = (acc ++ [bl n]).map mkT) := map_push acc n
          generalize acc.map mkT = am at *
          clear HO HB hb3 HCl
          go_wp2_with (first | (at_builtin; refine wpList_pushW rfl (.tmp 20) (.tmp 23) rfl w1.heap.size _ am n rfl rfl hown hlen hbel.size ?_; intro v' w4 hown' _ hb4) | (go_at_call 22; fail))
          refine (HQ.out _).mono ?_
          rintro e w5 ⟨n', q', rfl, hb5, hc⟩
          obtain ⟨hP, hlt⟩ := HN.out n' q' hc
          rw [HA.out] at hown'
          have HO : Hid _ := hown'.later hb5
          have HB : Hid _ := below_next (hbel.trans hb4) hb5
          have HP : Hid _ := hP
          clear hown hown' hbel hb4 hb5 hc hP HN HQ HA hlen
          go_wp2
          exact ⟨⟨_, n', q', rfl, rfl, HO.out, HB.out, HP.out⟩, by simp only [szV]; omega⟩
  · have ho2 : okL (bl s) = false := by simpa using ho
    rw [ho2] at HW
    rw [prE_bad ho2, prL_bad ho2]
    clear ho ho2
    go_enter Try.func7, Try.ntmps7
    go_wp2_with (first | (go_at_call 21; fail))
    refine (HW.out _).mono ?_
    rintro e w1 ⟨rfl, rfl⟩
    go_wp2
    go_ret2
    exact ⟨_, rfl, OwnS.nil _ _, Below.refl _ _⟩
end Go.Proofs.Ytadljgaadjajdaa
