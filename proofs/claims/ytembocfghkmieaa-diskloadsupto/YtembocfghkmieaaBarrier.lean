/- Barrier: all that is pending is held, in order, and nothing is pending any more, or the error; for every disk. -/
import Derived.Test.YtembocfghkmieaaWrite
namespace Go.Proofs.Ytembocfghkmieaa
open Go.RowKit
variable {w : World} {L : Loc} {s : St}

/-- Blocks are held one behind the other. -/
def holdAll (s : St) (l : List Cel) : St := l.foldl (fun s c => holdV s c.1 c.2) s
theorem holdAll_snoc (s : St) (l : List Cel) (c : Cel) : holdAll s (l ++ [c]) = holdV (holdAll s l) c.1 c.2 := by simp [holdAll]
theorem holdAll_same (l : List Cel) : ∀ s : St, ∃ h, holdAll s l = { s with held := h } := by
  induction l with
  | nil => exact fun s => ⟨s.held, rfl⟩
  | cons c t ih =>
    intro s
    obtain ⟨h, e⟩ := ih (holdV s c.1 c.2)
    exact ⟨h, by show holdAll (holdV s c.1 c.2) t = _; rw [e]; rfl⟩
theorem holdAll_wait (s : St) (l : List Cel) : (holdAll s l).wait = s.wait := by obtain ⟨h, e⟩ := holdAll_same l s; rw [e]
theorem holdAll_done (s : St) (l : List Cel) : (holdAll s l).done = s.done := by obtain ⟨h, e⟩ := holdAll_same l s; rw [e]
theorem holdAll_n (s : St) (l : List Cel) : (holdAll s l).n = s.n := by obtain ⟨h, e⟩ := holdAll_same l s; rw [e]
theorem holdAll_ops (s : St) (l : List Cel) : (holdAll s l).ops = s.ops := by unfold St.ops; rw [holdAll_wait, holdAll_done]
theorem take_snoc {l : List Cel} {k : Nat} {c : Cel} (h : l[k]? = some c) : l.take (k + 1) = l.take k ++ [c] := by
  rw [List.take_add_one, h]
  rfl
/-- Behind a barrier. -/
def barS (s : St) : St := { holdAll (letV s) s.wait with done := s.ops ++ [⟨2, 0, nought⟩], wait := [] }
theorem barS_ops (s : St) : (barS s).ops = s.ops ++ [⟨2, 0, nought⟩] := by
  show (s.ops ++ [⟨2, 0, nought⟩]) ++ List.map wrec [] = _
  simp
theorem barS_ok (h : Ok (holdAll (letV s) s.wait)) : Ok (barS s) := ⟨h.n, h.held, fun c hc => by simp [barS] at hc, h.fuse, h.made, h.reads, h.claims⟩
theorem Goes.hold {a b : World} {L : Loc} (h : Fr (fun i => i = L.hb) a b) : Goes a b L L := Goes.of rfl (fun _ q => .inl q) h fun _ _ q => .inr (.inl q)

theorem slice_of {w : World} {v : Value} {n : Nat} {xs : List Value} (h : w.ownsRow 0 108 1026 v n xs) (hn : 0 < n) : ∃ g cap, v = .slice (some ⟨g, 0, none⟩) n cap := by
  rcases h.2 with ⟨_, h⟩ | ⟨g, cap', _, h, _⟩
  · omega
  · exact ⟨g, cap', h⟩
theorem wpList_bar {ops : Array Oper} {rest : List Oper} {o : Oper} {a : Act} {w : World} {Q : Exit → Act → World → Prop} (hgd : o.guard = none) (ho : o.op = .build 108 #[(0, .const (.int .u8 2))])
    (h : wpList Try.prog ops Q rest (a.put o.dst (.agg (recCells ⟨2, 0, nought⟩).toArray)) w) : wpList Try.prog ops Q (o :: rest) a w :=
  wpList_plain hgd fun _ hK => by
    have e := build108b 2 w
    generalize (recCells ⟨2, 0, nought⟩).toArray = Z at *
    have e' : (execOp a.eval o).run Try.prog w = .ok (.value (.agg Z)) w := by simp [execOp, ho, Act.eval, e]
    unfold Oper.wp
    rw [e']
    exact hK _ _ h

set_option maxRecDepth 20000 in
theorem barrier_none {v : Value} (h : NoneAt w v) : Calls Try.prog 32 #[v] w fun e w' => e = .returned (.int .i64 1) ∧ w' = w := by
  go_enter Try.func32, Try.ntmps32
  go_wp2_with (first | (go_at_call 64; refine (none_yes h).mono ?_; rintro e W ⟨rfl, rfl⟩))
  go_ret
  exact ⟨rfl, rfl⟩
set_option maxRecDepth 20000 in
theorem barrier_stopped (h : DiskAt w L s) (hs : s.stopped = true) : Calls Try.prog 32 #[.pointer (some ⟨L.d, 0, none⟩)] w fun e w' => e = .returned (.int .i64 3) ∧ w' = w := by
  have c7 := h.c7
  have h0 := h.c0
  rw [hs] at c7
  clear h
  go_enter Try.func32, Try.ntmps32
  go_wp2_with (first | (go_at_call 64; refine (none_no h0).mono ?_; rintro e W ⟨rfl, rfl⟩))
  go_ret
  exact ⟨rfl, rfl⟩
set_option maxRecDepth 20000 in
theorem barrier_dead (h : DiskAt w L s) (hr : Room s) (hs : s.stopped = false) (hl : lets s = false) : Calls Try.prog 32 #[.pointer (some ⟨L.d, 0, none⟩)] w fun e w' => e = .returned (.int .i64 3) ∧ DiskAt w' L (letV s) ∧ Goes w w' L L := by
  have c7 := h.c7
  have h0 := h.c0
  rw [hs] at c7
  have hT := letThrough_of h hr
  rw [hl] at hT
  clear h
  go_enter Try.func32, Try.ntmps32
  go_wp2_with (first | (go_at_call 64; refine (none_no h0).mono ?_; rintro e W ⟨rfl, rfl⟩) | (go_at_call 71; fail))
  refine hT.mono ?_
  rintro e W ⟨rfl, hD, hG⟩
  have HD : Hid (DiskAt W L (letV s)) := hD
  have HG2 : Hid (Goes _ W L L) := hG
  clear hD hG
  go_wp2
  go_ret
  exact ⟨rfl, HD.out, HG2.out⟩
set_option maxRecDepth 20000 in
set_option maxHeartbeats 2000000 in
theorem barrier_ok (h : DiskAt w L s) (hr : Room s) (hs : s.stopped = false) (hl : lets s = true) :
    Calls Try.prog 32 #[.pointer (some ⟨L.d, 0, none⟩)] w fun e w' => e = .returned (.int .i64 0) ∧ ∃ L', DiskAt w' L' (barS s) ∧ Goes w w' L L' := by
  have c7 := h.c7
  have h0 := h.c0
  rw [hs] at c7
  have hT := letThrough_of h hr
  rw [hl] at hT
  have hro := hr.ops
  clear h
  go_enter Try.func32, Try.ntmps32
  go_wp2_with (first | (go_at_call 64; refine (none_no h0).mono ?_; rintro e W ⟨rfl, he⟩; obtain rfl := he.symm) | (go_at_call 71; fail))
  refine hT.mono ?_
  rintro e W ⟨rfl, hD, hG⟩
  have hP := pending_of hD
  obtain ⟨p, cp, hp1, hp2, hp3⟩ := hD.pend
  rw [hp1, letV_wait] at hP
  rw [letV_wait] at hp2 hp3
  rw [letV_done] at hp3
  have HD : Hid (DiskAt W.drew L (letV s)) := hD.fr (Fr.drew (T := fun _ => False) W) fun _ _ q => q
  have HG2 : Hid (Goes w W.drew L L) := hG.trans ⟨rfl, fun _ q => .inl q, Fr.drew W⟩
  clear hD hG hT hp1 c7
  have HP : Hid (0 < s.wait.length → ∃ g, L.hv.ownBlock = some g ∧ p = some ⟨g, s.done.length * 1026, none⟩) := hp3
  clear hp3
  have hwl : s.wait.length < 68719476736 := by have := ops_len s; omega
  go_wp2_with (go_at_call 68; refine hP.mono ?_; rintro e W1 ⟨rfl, rfl⟩)
  clear hP
  generalize W.drew = V at *
  generalize hm : s.wait.length = m at *
  go_loopw [20] (fun s20 wx => ∃ k : Nat, k ≤ m ∧ s20 = .int .i64 k ∧ Hid (DiskAt wx L (holdAll (letV s) (s.wait.take k))) ∧ Hid (Goes w wx L L)) (fun s20 _ => m - (intOf s20).toNat)
  case atStart => exact ⟨0, by omega, rfl, HD.out, HG2.out⟩
  case round =>
    obtain ⟨k, hk, rfl, HDk, HGk⟩ := hrel
    by_cases hk2 : (k : Int) < m
    · have hkl : k < s.wait.length := by omega
      obtain ⟨g, hg, rfl⟩ := HP.out (by omega)
      have hc : s.wait[k]? = some s.wait[k] := List.getElem?_eq_getElem hkl
      generalize s.wait[k] = c at hc
      have hop : (holdAll (letV s) (s.wait.take k)).ops[s.done.length + k]? = some (wrec c) := by rw [holdAll_ops, letV_ops]; exact ops_wait s hc
      have HDd : DiskAt wr.drew L (holdAll (letV s) (s.wait.take k)) := HDk.out.fr (Fr.drew (T := fun _ => False) wr) fun _ _ q => q
      have hpos := HDk.out.histPos hg hop
      have hblk := HDd.histBlk hg hop
      have hcw := HDd.ok.wait c (by rw [holdAll_wait, letV_wait]; exact List.mem_of_getElem? hc)
      rw [holdAll_n] at hcw
      have HH := hold_of HDd (by rw [holdAll_n]; exact hcw.1) hcw.2 hblk
      rw [← holdAll_snoc, ← take_snoc hc] at HH
      have e1 : (s.done.length + k) * 1026 = s.done.length * 1026 + k * 1026 := Nat.add_mul _ _ _
      rw [e1] at hpos HH
      have hpos' : wr.cell? ⟨g, s.done.length * 1026 + k * 1026 + 1, none⟩ = some (.int .i64 c.1) := hpos
      have HH2 : Hid (Calls Try.prog 61 #[.pointer (some ⟨L.d, 0, none⟩), .int .i64 c.1, .pointer (some ⟨g, s.done.length * 1026 + k * 1026 + 2, none⟩)] wr.drew fun e w' => e = .returned (.tuple #[]) ∧ DiskAt w' L (holdAll (letV s) (s.wait.take (k + 1))) ∧ Goes w w' L L) :=
        Calls.mono HH fun e w' ⟨h1, h2, h3⟩ => ⟨h1, h2, (HGk.out.trans ⟨rfl, fun _ q => .inl q, Fr.drew wr⟩).trans (Goes.hold h3)⟩
      generalize s.done.length * 1026 = D at *
      clear HH hpos hblk hop hc e1 HDk hcw HDd HGk
      go_wp2
      go_still_tail 10, (by kernel_rfl)
      change wpList _ _ _ _ _ (World.drew _)
      go_wp2_with (go_at_call 61; fail)
      refine HH2.out.mono ?_
      rintro e W2 ⟨rfl, hD2, hG2⟩
      have HD2 : Hid (DiskAt W2 L (holdAll (letV s) (s.wait.take (k + 1)))) := hD2
      have HG3 : Hid (Goes w W2 L L) := hG2
      clear hD2 hG2 HH2
      go_wp2
      exact ⟨⟨k + 1, by omega, by go_num, HD2.out, HG3.out⟩, by simp [intOf]; omega⟩
    · obtain rfl : k = m := by omega
      have hD := HDk.out
      rw [← hm, List.take_length] at hD
      have hG := HGk.out
      clear HDk HGk HP
      have hRaw := hD.raw
      rw [holdAll_ops, letV_ops] at hRaw
      have c3 := hD.c3
      obtain ⟨p', c', h1, h2, h3, h4⟩ := hD.shape
      rw [holdAll_ops, letV_ops] at h1
      rw [h1] at c3
      have hbl := fun u => build67 ⟨2, 0, nought⟩ u
      have hh := hRaw.hist
      rw [h1] at hh
      have hl0 : 0 < (s.ops ++ [(⟨2, 0, nought⟩ : Rec)]).length := by simp
      go_wp2_with (first | refine wpList_bar rfl rfl ?_ | refine wpList_build1 rfl 67 108 (.tmp 40) rfl _ rfl (hbl _) ?_ | (at_builtin; refine wpList_pushR rfl (.tmp 39) (.tmp 41) rfl (.slice p' s.ops.length c') s.ops ⟨2, 0, nought⟩ rfl rfl hh hro ?_; intro v' W5 ho5 hF5 hw5; obtain ⟨g5, cap5, rfl⟩ := slice_of ho5 hl0; rw [← h1] at hF5 hw5; have hR5 := hRaw.histTo ho5 hF5; have k3 : W5.cell? ⟨L.d, 3, none⟩ = some L.hv := Joins.cell_of_block hR5.row 3; rw [h1] at k3; have f3 : W5.frozen? ⟨L.d, 3, none⟩ = false := Joins.unfrozen_of_block hR5.row 3) | (go_at_call 72; fail))
      have hn1 : (s.ops ++ [(⟨2, 0, nought⟩ : Rec)]).length = s.ops.length + 1 := by simp
      have hR5' : RawAt W5 ⟨L.d, L.hb, L.lb, .slice (some ⟨g5, 0, none⟩) (s.ops.length + 1) cap5⟩ (dkRow L (holdAll (letV s) s.wait)) (heldV (holdAll (letV s) s.wait)) (lateV (holdAll (letV s) s.wait)) (s.ops ++ [⟨2, 0, nought⟩]) := hn1 ▸ hR5
      have hw5' : ∀ k, (Value.slice (some ⟨g5, 0, none⟩) (s.ops.length + 1) cap5).ownBlock = some k → L.hv.ownBlock = some k ∨ wr.heap.size ≤ k := hw5
      have hR6 := hR5'.cell 3 (.slice (some ⟨g5, 0, none⟩) (s.ops.length + 1) cap5)
      have hok := barS_ok hD.ok
      clear hR5 hR5' hRaw hw5 ho5 hh hbl c3 k3 f3
      have hF6 : Fr (fun i => L.hv.ownBlock = some i ∨ i = L.d) wr (W5.setCell ⟨L.d, 3, none⟩ (.slice (some ⟨g5, 0, none⟩) (s.ops.length + 1) cap5)) :=
        (hF5.mono fun i _ q => .inl q).trans ((Fr.setCell W5 L.d 3 _).mono fun i _ q => .inr q) fun i _ q => q
      generalize W5.setCell ⟨L.d, 3, none⟩ (.slice (some ⟨g5, 0, none⟩) (s.ops.length + 1) cap5) = W6 at *
      refine (nothing_of (d := L.d) (n := (holdAll (letV s) s.wait).n) (hb := L.hb) (p := some ⟨g5, 0, none⟩) (m := s.ops.length + 1) (c := cap5) (bh := ((holdAll (letV s) s.wait).done.length : Int)) (lb := L.lb) (fu := (holdAll (letV s) s.wait).fuse) (st := (holdAll (letV s) s.wait).stopped) (ma := (holdAll (letV s) s.wait).made) (re := (holdAll (letV s) s.wait).reads) (cl := (holdAll (letV s) s.wait).claims) (cd := (holdAll (letV s) s.wait).claimed) hR6.row).mono ?_
      rintro e W7 ⟨rfl, hrow7, hM7, hF7⟩
      have hlb : L.hb < W6.heap.size := hR6.held.lt
      have hR7 := (hR6.rowTo hrow7 hF7).lateNew (b := W6.heap.size) (by show L.hb ≠ _; omega) hM7
      have hD7 : Hid (DiskAt W7 ⟨L.d, L.hb, W6.heap.size, .slice (some ⟨g5, 0, none⟩) (s.ops.length + 1) cap5⟩ (barS s)) := by
        refine RawAt.disk ?_ hok
        rw [barS_ops]
        have e1 : lateV (barS s) = fun _ => none := by funext y; rfl
        have e2 : dkRow ⟨L.d, L.hb, W6.heap.size, .slice (some ⟨g5, 0, none⟩) (s.ops.length + 1) cap5⟩ (barS s) = row12 L.d (holdAll (letV s) s.wait).n L.hb (.slice (some ⟨g5, 0, none⟩) (s.ops.length + 1) cap5) ((s.ops.length + 1 : Nat) : Int) W6.heap.size (holdAll (letV s) s.wait).fuse (holdAll (letV s) s.wait).stopped (holdAll (letV s) s.wait).made (holdAll (letV s) s.wait).reads (holdAll (letV s) s.wait).claims (holdAll (letV s) s.wait).claimed := by
          rw [← hn1]
          rfl
        rw [e1, e2]
        exact hR7
      have hG7 : Hid (Goes w W7 L ⟨L.d, L.hb, W6.heap.size, .slice (some ⟨g5, 0, none⟩) (s.ops.length + 1) cap5⟩) := by
        refine hG.trans (Goes.of (T := fun i => L.hv.ownBlock = some i ∨ i = L.d) rfl (fun i hi => ?_) (hF6.trans (hF7.mono fun i _ q => .inr q) fun i _ q => q) fun i _ q => ?_)
        · rcases hi with q | q | q | q
          · exact .inl (.inl q)
          · exact .inl (.inr (.inl q))
          · have q' : i = W6.heap.size := q
            have := hF6.size
            exact .inr (by omega)
          · rcases hw5' i q with q | q
            · exact .inl (.inr (.inr (.inr q)))
            · exact .inr q
        · rcases q with q | q
          · exact .inr (.inr (.inr q))
          · exact .inl q
      clear hR7 hrow7 hM7 hF7 hR6 hF6 hF5 hD hG hw5' hok hn1
      go_wp2
      go_ret
      exact ⟨rfl, _, hD7.out, hG7.out⟩
end Go.Proofs.Ytembocfghkmieaa
