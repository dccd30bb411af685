/- Several texts joined, each with its own remark; no condition. -/
import Derived.Test.YtlcdpmjdnihocaaGreatJ17
import Derived.Test.YtlcdpmjdnihocaaGreatJ11
import Derived.Test.YtlcdpmjdnihocaaGreatJ14
import Derived.Test.YtlcdpmjdnihocaaGreatJ10
import Derived.Test.YtlcdpmjdnihocaaGreatJ9
import Derived.Test.YtlcdpmjdnihocaaGreatJ8
/- MkfsCalls: what the law asks of both disks; of none; the loads. -/
namespace Go.Proofs.YtlcdpmjdnihocaaGreatD
open Go.RowKit Go.Maps
variable {w W : World} {d g : Nat} {s s' : St} {t : RSt} {l : List Part} {m : Nat}
/-- What an image that may be makes of both disks. -/
theorem sim_load {n : Int} {l : List Cel} (h : mayB n l = true) (hc : ∀ c ∈ l, Can c.2) : Sim (rNew n l) (loadV n l) ∧ Cap (loadV n l) 0 := by
  obtain ⟨k1, k2⟩ := may_rises h
  obtain ⟨e1, e2, e3, e4, e5, e6, e7⟩ := loadV_same n l
  obtain ⟨hh, he⟩ := holdAll_same l (newV n)
  have hf : (loadV n l).fuse = -1 ∧ (loadV n l).claimed = false := by
    unfold loadV
    rw [he]
    exact ⟨rfl, rfl⟩
  refine ⟨⟨e1.symm, rises_rise l (-1) k2, rises_sound (Int.le_refl _) k2 hc, fun c hm => ?_, fun k => (load_get h hc k).symm, e2.symm, by rw [hf.1]; rfl, (fun q => by cases q), e3.symm, e7.symm, e5.symm, e4.symm, e6.symm, by rw [hf.2]; rfl, fun q => by rw [hf.2] at q; cases q⟩, ⟨by rw [e7]; exact Nat.le_refl _, by rw [e5]; exact Int.le_refl _, by rw [e4]; exact Int.le_refl _, by rw [e6]; exact Int.le_refl _⟩⟩
  rw [e1]
  exact ((may_bounds h).2 c hm).2.1
theorem none_later {W' : World} {v : Value} (h : NoneAt W v) (hb : Below W.heap.size W W') : NoneAt W' v := by
  rcases h with rfl | ⟨g, rfl, h2⟩
  · exact .inl rfl
  · exact .inr ⟨g, rfl, (hb.cell (p := ⟨g, 0, none⟩) (World.block_lt_of_cell? W _ h2)).trans h2⟩
theorem ge3_info (b l i : Int) : (Tryz.prog.info? 26).map (·.size) = some (#[Value.int .i64 b, .int .i64 l, .int .i64 i] : Array Value).size := by kernel_rfl
set_option maxRecDepth 20000 in
set_option maxHeartbeats 1600000 in
theorem ready_none {v : Value} (h : NoneAt W v) (b lg i : Int) : Calls Tryz.prog 38 #[v, .agg #[.int .i64 b, .int .i64 lg, .int .i64 i]] W fun e W' => e = .returned (.tuple #[.agg (YtlcdpmjdnihocaaGreatP.lay9 0 0 0 0 0 0 0 0 0), .int .i64 1]) ∧ Below W.heap.size W W' := by
  have zl := zeroLy9
  have hbl := buildLy
  obtain ⟨A, hA⟩ : ∃ A, A = (W.alloc (.cells #[.int .i64 b, .int .i64 lg, .int .i64 i] 26)).alloc (.cells (YtlcdpmjdnihocaaGreatP.lay9 0 0 0 0 0 0 0 0 0) 52) := ⟨_, rfl⟩
  have hb : Below W.heap.size W A := by rw [hA]; exact below_next (below_new _ _) (below_new _ _)
  have hln := len_none (none_later h hb)
  have hr : A.heap[W.heap.size + 1]? = some (.cells (YtlcdpmjdnihocaaGreatP.lay9 0 0 0 0 0 0 0 0 0) 52) := by rw [hA]; exact YtlcdpmjdnihocaaGreat.heap_two _ _ _
  have HZi : Hid ((Tryz.prog.info? 52).map (·.size) = some (YtlcdpmjdnihocaaGreatP.lay9 0 0 0 0 0 0 0 0 0).size) := lay_info9 _ _ _ _ _ _ _ _ _
  have HZo : Hid ((YtlcdpmjdnihocaaGreatP.lay9 0 0 0 0 0 0 0 0 0).all (·.oneCell') = true) := lay_one9 _ _ _ _ _ _ _ _ _
  have HA := Hid.mk' hA
  have HB : Hid (Below W.heap.size W (A.setRow (W.heap.size + 1) (YtlcdpmjdnihocaaGreatP.lay9 0 0 0 0 0 0 0 0 0))) := YtlcdpmjdnihocaaGreat.below_setRow hb (by omega) _
  have HE : Hid (∀ {o : Oper} {a : Act} {W : World}, o.op = .build 52 #[] → (execOp a.eval o).run Tryz.prog W = .ok (.value (.agg (YtlcdpmjdnihocaaGreatP.lay9 0 0 0 0 0 0 0 0 0))) W) := fun ho => by
    have e := hbl ‹World›
    generalize YtlcdpmjdnihocaaGreatP.lay9 0 0 0 0 0 0 0 0 0 = Z at *
    simp [execOp, ho, e]
  clear hA hb h hbl
  generalize YtlcdpmjdnihocaaGreatP.lay9 0 0 0 0 0 0 0 0 0 = Z at *
  go_enter Tryz.func38, Tryz.ntmps38
  go_upto_region 1 with fail
  rw [← HA.out]
  clear HA
  go_wp2_with (first | (go_at_call 57; refine hln.mono ?_; rintro e V ⟨rfl, rfl⟩) | (with_reducible refine YtlcdpmjdnihocaaGreat.isBuildR 52 ?_; refine YtlcdpmjdnihocaaGreat.wpList_ex rfl (HE.out rfl) ?_) | (with_reducible refine YtlcdpmjdnihocaaGreat.isStoreR 52 ?_; refine YtlcdpmjdnihocaaGreat.wpList_stR 52 rfl _ _ rfl (W.heap.size + 1) Z Z 52 HZi.out rfl HZo.out rfl rfl hr ?_))
  exact YtlcdpmjdnihocaaGreat.retCT Tryz.underlying52 rfl rfl (W.heap.size + 1) Z 52 HZi.out rfl (setRow_heap _ _ _ _ _ _ hr) rfl ⟨rfl, HB.out⟩
set_option maxRecDepth 20000 in
set_option maxHeartbeats 1600000 in
theorem make_none {v : Value} (h : NoneAt W v) (b lg i : Int) : Calls Tryz.prog 13 #[v, .agg #[.int .i64 b, .int .i64 lg, .int .i64 i]] W fun e W' => e = .returned (.int .i64 1) ∧ Below W.heap.size W W' := by
  have zl := zeroLy9
  have hG := heap_alloc_new W (.cells #[.int .i64 b, .int .i64 lg, .int .i64 i] 26)
  have hrd := ready_none (none_later h (below_new W (.cells #[.int .i64 b, .int .i64 lg, .int .i64 i] 26))) b lg i
  have HGi := Hid.mk' (ge3_info b lg i)
  have HZi : Hid ((Tryz.prog.info? 52).map (·.size) = some (YtlcdpmjdnihocaaGreatP.lay9 0 0 0 0 0 0 0 0 0).size) := lay_info9 _ _ _ _ _ _ _ _ _
  have HZo : Hid ((YtlcdpmjdnihocaaGreatP.lay9 0 0 0 0 0 0 0 0 0).all (·.oneCell') = true) := lay_one9 _ _ _ _ _ _ _ _ _
  clear h
  generalize YtlcdpmjdnihocaaGreatP.lay9 0 0 0 0 0 0 0 0 0 = Z at *
  generalize (#[Value.int .i64 b, .int .i64 lg, .int .i64 i] : Array Value) = ge at *
  go_enter Tryz.func13, Tryz.ntmps13
  go_wp2_with (first | (with_reducible refine YtlcdpmjdnihocaaGreat.isLoadR 26 ?_; refine YtlcdpmjdnihocaaGreat.wpList_ldR 26 Tryz.underlying26 rfl rfl _ rfl W.heap.size rfl ge 26 (0, 0) HGi.out hG ?_) | (go_at_call 38; fail))
  refine hrd.mono ?_
  rintro e W1 ⟨rfl, hb⟩
  have HB := Hid.mk' (below_next (below_next (below_new W (.cells ge 26)) hb) (below_new W1 (.cells Z 52)))
  clear hrd hb hG
  go_wp2_with (first | (with_reducible refine YtlcdpmjdnihocaaGreat.isStoreR 52 ?_; refine YtlcdpmjdnihocaaGreat.wpList_stNew 52 rfl _ _ rfl W1.heap.size Z Z 52 HZi.out rfl HZo.out rfl rfl rfl ?_))
  go_ret
  exact ⟨rfl, HB.out⟩
/-- Both disks, loaded. -/
theorem rs_load {n : Int} {ls : List Cel} {L : Loc} {v : Value} {W1 W2 : World} (hw : Below w.heap.size w W) (hm : mayB n ls = true) (hc : ∀ c ∈ ls, Can c.2)
    (hR : RDAt W1 W.heap.size g v (.slice none 0 0) (.slice none 0 0) (rNew n ls)) (hb1 : Below W.heap.size W W1)
    (hD : DiskAt W2 L (loadV n ls)) (hL : L.from W1.heap.size) (hb2 : Below W1.heap.size W1 W2) : RS w W2 L.d g (loadV n ls) (rNew n ls) (loadV n ls) 0 [] := by
  obtain ⟨k1, k2⟩ := sim_load hm hc
  have q0 : Sep w W [] := .nil hw
  have q1 : Sep w W1 [rdP ⟨W.heap.size, g, v, .slice none 0 0, .slice none 0 0⟩ (rNew n ls)] := q0.add hb1 (rdP_good _ _) hR fun k hk => ⟨?_, hR.ltR hk⟩
  · have q2 : Sep w W2 [dkP L (loadV n ls), rdP ⟨W.heap.size, g, v, .slice none 0 0, .slice none 0 0⟩ (rNew n ls)] := q1.add hb2 (dkP_good _ _) hD fun k hk => ⟨hL k hk, hD.lt k hk⟩
    have hk : Both w W2 L.d g (loadV n ls) (rNew n ls) [] := ⟨L, _, rfl, rfl, q2⟩
    exact ⟨hk, k1, hk.ok, k2⟩
  · rcases hk with rfl | hk | hk | hk
    · exact hR.base
    · exact (hR.held.lt k hk).1
    · exact (hR.wait.lt k hk).1
    · exact (hR.ops.lt k hk).1
theorem RS.pclaim (h : RS w W d g s' t s m l) (hr : Room s') : Calls Tryz.prog 9 #[.pointer (some ⟨d, 0, none⟩)] W fun e W' => e = .returned (.int .i64 (claimN s')) ∧ RS w W' d g (claimV s') t s m l :=
  (both_claim h.both hr).mono fun _ _ q => ⟨q.1, q.2, h.sim, h.ok, h.cap⟩
theorem RS.pfuse (h : RS w W d g s' t s m l) (n : Int) (hn : n ≤ 9223372036854775807) : Calls Tryz.prog 11 #[.pointer (some ⟨d, 0, none⟩), .int .i64 n] W fun e W' => e = .returned (.tuple #[]) ∧ RS w W' d g (fuseV s' n) t s m l :=
  (both_fuse h.both n hn).mono fun _ _ q => ⟨q.1, q.2, h.sim, h.ok, h.cap⟩
theorem RS.pmake (h : RS w W d g s' t s m l) (b lg i : Int) (hb : YtlcdpmjdnihocaaGreatP.I64 b) (hw : Wide s' 10000) (hc : s'.claims < 1000000000) : Calls Tryz.prog 13 #[.pointer (some ⟨d, 0, none⟩), .agg #[.int .i64 b, .int .i64 lg, .int .i64 i]] W fun e W' => e = .returned (.int .i64 (mkE b lg i s')) ∧ RS w W' d g (mkV b lg i s') t s m l := by
  obtain ⟨R, hg, hh⟩ := h.both.has
  exact (make_ok (beside_stays w _) hh b lg i hb hw hc).mono fun _ _ q => ⟨q.1, Both.of hg q.2, h.sim, h.ok, h.cap⟩
theorem RS.rfuse (h : RS w W d g s' t s m l) (n : Int) (hn : n ≤ 9223372036854775807) : Calls Tryz.prog 12 #[.pointer (some ⟨g, 0, none⟩), .int .i64 n] W fun e W' => e = .returned (.tuple #[]) ∧ ∃ t', RS w W' d g s' t' (fuseV s n) m l := by
  refine (both_rfuse h.both n).mono fun _ _ q => ⟨q.1, _, q.2, h.sim.fuse_ n hn, ?_, ?_⟩
  · have hk := h.ok
    unfold fuseV
    split
    · exact hk
    · exact ⟨hk.n, hk.held, hk.wait, ⟨by show -1 ≤ max n (-1); omega, by show max n (-1) ≤ _; omega⟩, hk.made, hk.reads, hk.claims⟩
  · have hk := h.cap
    unfold fuseV
    split
    · exact hk
    · exact ⟨hk.ops, hk.made, hk.reads, hk.claims⟩
theorem RS.rclaim2 (h : RS w W d g s' t s m l) (hm : m ≤ 6000000) (hs : s.stopped = false) : Calls Tryz.prog 10 #[.pointer (some ⟨g, 0, none⟩)] W fun e W' => e = .returned (.int .i64 (claimN s)) ∧ ∃ t', RS w W' d g s' t' (claimV s) (m + 1) l := by
  obtain ⟨q1, q2⟩ := h.sim.claim h.ok.claims
  have hc : claimV s = { s with claims := s.claims + 1, claimed := true } := by unfold claimV; rw [hs]; rfl
  have h3 := both_rclaim h.both (h.room (by omega))
  rw [q2] at h3
  refine h3.mono ?_
  rintro e W' ⟨rfl, h4⟩
  refine ⟨rfl, _, h4, q1, ?_, ?_⟩
  · rw [hc]
    have h1 := h.ok
    exact ⟨h1.n, h1.held, h1.wait, h1.fuse, h1.made, h1.reads, by show 0 ≤ s.claims + 1; have := h1.claims; omega⟩
  · rw [hc]
    have h1 := h.cap
    exact ⟨by show s.ops.length ≤ _; have := h1.ops; omega, by show s.made ≤ _; have := h1.made; omega, by show s.reads ≤ _; have := h1.reads; omega, by show s.claims + 1 ≤ _; have := h1.claims; omega⟩
theorem RS.claimed2 (h : RS w W d g s' t s m l) (k : Int) : Calls Tryz.prog 15 #[.pointer (some ⟨d, 0, none⟩), .int .i64 k] W fun e W' => e = .returned (.bool (claimedV s' k)) ∧ W' = W := both_claimed h.both k
theorem RS.rclaimed2 (h : RS w W d g s' t s m l) (k : Int) : Calls Tryz.prog 16 #[.pointer (some ⟨g, 0, none⟩), .int .i64 k] W fun e W' => e = .returned (.bool (claimedV s k)) ∧ W' = W := by
  have := both_rclaimed h.both k
  rwa [h.sim.isClaimed] at this
theorem RS.phist (h : RS w W d g s' t s m l) (hl : s'.ops.length ≤ 7000000) : Calls Tryz.prog 18 #[.pointer (some ⟨d, 0, none⟩)] W fun e W' => ∃ p c, e = .returned (.slice p s'.ops.length c) ∧ OpsAt W' p s'.ops ∧ Below W.heap.size W W' :=
  (both_history h.both hl).mono fun _ _ ⟨_, c, h1, h2, h3⟩ => ⟨_, c, h1, own_lies recCells_len h2, h3⟩
theorem RS.rhist (h : RS w W d g s' t s m l) (hl : s.ops.length ≤ 7000000) : Calls Tryz.prog 19 #[.pointer (some ⟨g, 0, none⟩)] W fun e W' => ∃ p c, e = .returned (.slice p s.ops.length c) ∧ OpsAt W' p s.ops ∧ Below W.heap.size W W' := by
  have h2 := both_rhistory h.both (by rw [h.sim.ops]; exact hl)
  rw [h.sim.ops] at h2
  exact h2.mono fun _ _ ⟨p, c, h1, h2, h3⟩ => ⟨p, c, h1, own_lies recCells_len h2, h3⟩
theorem RS.held (h : RS w W d g s' t s m l) : t.held.length ≤ 1048576 := by
  have h9 := rise_len t.held (-1) h.sim.rise h.sim.top (by have := h.ok.n.1; omega)
  have := h.ok.n.2
  omega
/-- The images of both, when they stand for the same. -/
theorem RS.pimage (h : RS w W d g s t s m l) : Calls Tryz.prog 21 #[.pointer (some ⟨d, 0, none⟩)] W fun e W' => ∃ p c, e = .returned (.agg #[.int .i64 s.n, .slice p t.held.length c]) ∧ ImgAt W' p t.held ∧ Below W.heap.size W W' :=
  (both_image h.both h.sim (by have := h.held; omega)).mono fun _ _ ⟨_, c, h1, h2, h3⟩ => by
    obtain ⟨p, c2, e, hi, _⟩ := HL.img (B := W.heap.size) h2
    injection e with e1 e2 e3
    exact ⟨p, c, by rw [h1, ← e1], hi, h3⟩
theorem RS.rimage (h : RS w W d g s' t s m l) : Calls Tryz.prog 22 #[.pointer (some ⟨g, 0, none⟩)] W fun e W' => ∃ p c, e = .returned (.agg #[.int .i64 s.n, .slice p t.held.length c]) ∧ ImgAt W' p t.held ∧ Below W.heap.size W W' := by
  have h2 := both_rimage h.both (by have := h.held; omega)
  rw [h.sim.n] at h2
  exact h2.mono fun _ _ ⟨q, c, h1, h2, h3⟩ => by
    obtain ⟨p, c2, e, hi, _⟩ := HL.img (B := W.heap.size) h2
    injection e with e1 e2 e3
    exact ⟨p, c, by rw [h1, ← e1], hi, h3⟩
theorem RS.rmade2 (h : RS w W d g s' t s m l) : Calls Tryz.prog 26 #[.pointer (some ⟨g, 0, none⟩)] W fun e W' => e = .returned (.int .i64 s.made) ∧ W' = W := by
  have := both_rmade h.both
  rwa [h.sim.count] at this
theorem cap_wide (h : Cap s m) (hm : m ≤ 3000000) : Wide s 10000 ∧ s.claims < 1000000000 ∧ Room s := ⟨⟨by have := h.ops; omega, by have := h.made; omega, by have := h.reads; omega, by have := h.claims; omega⟩, by have := h.claims; omega, h.room (by omega)⟩
end Go.Proofs.YtlcdpmjdnihocaaGreatD
/- The document's Load, copies, and lists held against each other; of fewer than a hundred million blocks. -/
namespace Go.Proofs.YtlcdpmjdnihocaaGreatD
open Go.RowKit Go.Maps
set_option maxRecDepth 20000 in
set_option maxHeartbeats 1000000 in
theorem copyHeld_any (l : List Cel) (p : Option Addr) (cap : Nat) (w : World) (hl : l.length ≤ 100000000) (h : ImgAt w p l) :
    Calls Tryz.prog 33 #[.slice p l.length cap] w fun e w' => ∃ q c, e = .returned (.slice q l.length c) ∧ Below w.heap.size w w' := by
  have HI : Hid (ImgAt w p l) := h
  obtain ⟨N, hN⟩ : ∃ N, l.length = N := ⟨_, rfl⟩
  have HN := Hid.mk' hN
  rw [hN] at hl ⊢
  clear hN h
  go_enter Tryz.func33, Tryz.ntmps33
  go_wp2
  go_loopw [3, 4] (fun s3 s4 wx => ∃ k : Nat, k ≤ N ∧ s4 = .int .i64 k ∧ Hid (HL w.heap.size wx s3 (l.take k) ∧ Below w.heap.size w wx)) (fun _ s4 _ => N - (intOf s4).toNat)
  case atStart => exact ⟨0, by omega, rfl, HL.nil _ _, Below.refl _ _⟩
  case round =>
    obtain ⟨k, hk, rfl, HH⟩ := hrel
    by_cases hk2 : (k : Int) < N
    · have hlN := HN.out
      have hc : l[k]? = some (l[k]'(by omega)) := List.getElem?_eq_getElem _
      obtain ⟨b, off, rfl, hlt, hC⟩ := HI.out (by omega)
      generalize l[k]'(by omega) = c at hc
      have q1 : CelAt wr b (off + k * 1025) c := (hC.later HH.out.2 hlt) k c hc
      have htk : (l.take k).length = k := by rw [List.length_take]; omega
      obtain ⟨v', w3, hr, hown', hb3, _⟩ := HH.out.1.push HH.out.2.size (by omega) c 22
      rw [← take_snoc hc] at hown'
      have HO := Hid.mk' hown'
      have HB := Hid.mk' (HH.out.2.trans hb3)
      have HRR := Hid.mk' hr
      have HQ := Hid.mk' q1
      clear hr hown' hb3 q1 hC hc HH htk hlN
      go_wp2_with (first | refine wpList_exec rfl (exec_load85 rfl rfl HQ.out) ?_ | refine wpList_exec rfl (exec_slice85 rfl rfl) ?_ | refine wpList_exec rfl (exec_push rfl rfl rfl HRR.out) ?_)
      exact ⟨⟨k + 1, by omega, by go_num, HO.out, HB.out⟩, by simp [intOf]; omega⟩
    · obtain rfl : k = N := by omega
      have h1 := HH.out.1
      rw [List.take_of_length_le (by have := HN.out; omega)] at h1
      obtain ⟨q, c, hv, _⟩ := h1.img
      rw [HN.out] at hv
      subst hv
      have HB := Hid.mk' HH.out.2
      clear HH h1
      go_wp2
      go_ret
      exact ⟨⟨q, c, rfl⟩, HB.out⟩
def refRow (n : Int) (v : Value) : Array Value := #[.int .i64 n, v, .slice none 0 0, .bool false, .int .i64 0, .bool false, .slice none 0 0, .int .i64 0, .int .i64 0, .int .i64 0, .int .i64 0]
set_option maxRecDepth 20000 in
set_option maxHeartbeats 1000000 in
theorem refLoad_bad (n : Int) (l : List Cel) (p : Option Addr) (cap : Nat) (w : World) (hl : l.length ≤ 100000000) (h : ImgAt w p l) (hm : mayB n l = false) :
    Calls Tryz.prog 6 #[.agg #[.int .i64 n, .slice p l.length cap]] w fun e w' => e = .returned (.tuple #[.pointer none, .int .i64 4]) ∧ Below w.heap.size w w' := by
  have hB := below_new w (.cells #[.int .i64 n, .slice p l.length cap] 24)
  have hM := refMay_any n l p cap _ (by omega) (h.later hB)
  rw [hm] at hM
  go_enter Tryz.func6, Tryz.ntmps6
  go_wp2_with (go_at_call 32; refine hM.mono ?_; rintro e W1 ⟨rfl, hb1⟩)
  go_ret2
  exact ⟨rfl, below_next hB hb1⟩
set_option maxRecDepth 20000 in
set_option maxHeartbeats 1000000 in
theorem refLoad_ok (n : Int) (l : List Cel) (p : Option Addr) (cap : Nat) (w : World) (hl : l.length ≤ 100000000) (h : ImgAt w p l) (hm : mayB n l = true) :
    Calls Tryz.prog 6 #[.agg #[.int .i64 n, .slice p l.length cap]] w fun e w' => ∃ g, e = .returned (.tuple #[.pointer (some ⟨g, 0, none⟩), .int .i64 0]) ∧ Below w.heap.size w w' := by
  have hB := below_new w (.cells #[.int .i64 n, .slice p l.length cap] 24)
  have hG := heap_alloc_new w (.cells #[.int .i64 n, .slice p l.length cap] 24)
  have hM := refMay_any n l p cap _ (by omega) (h.later hB)
  rw [hm] at hM
  have HI := Hid.mk' h
  have HL' := Hid.mk' hl
  clear h hl hm
  go_enter Tryz.func6, Tryz.ntmps6
  go_wp2_with (go_at_call 32; fail)
  refine hM.mono ?_
  rintro e W1 ⟨rfl, hb1⟩
  have hG1 := heap_kept hG hb1
  have hB1 := below_next hB hb1
  have HC := Hid.mk' (copyHeld_any l p cap W1.drew HL'.out (HI.out.later hB1.drew))
  clear hM hG hB hb1 HI HL'
  go_wp2
  refine wp_region_ord (S := fun u => u.heap[w.heap.size]? = some (.cells #[.int .i64 n, .slice p l.length cap] 24)) [(0, true), (1, true), (2, true), (3, true), (4, false), (5, true), (6, false), (7, true), (8, true)]
    (by kernel_rfl) rfl (by kernel_rfl) (fun d _ _ _ _ h => by cases d <;> exact h) hG1 ?_
  simp only [inOrd, List.getElem?_cons_zero, List.getElem?_cons_succ]
  refine wpOrd_yield (v := .pointer (some ⟨w.heap.size, 0, none⟩)) rfl (fun u _ => by go_simp) ?_
  simp only [Act.put, List.setIfInBounds_toArray, List.set_cons_succ, List.set_cons_zero]
  refine wpOrd_yield (v := .int .i64 n) rfl (fun u hu => by have c0 : u.cell? ⟨w.heap.size, 0, none⟩ = some (.int .i64 n) := Joins.cell_of_block hu 0; go_simp) ?_
  simp only [Act.put, List.setIfInBounds_toArray, List.set_cons_succ, List.set_cons_zero]
  refine wpOrd_yield (v := .pointer (some ⟨w.heap.size, 1, none⟩)) rfl (fun u _ => by go_simp) ?_
  simp only [Act.put, List.setIfInBounds_toArray, List.set_cons_succ, List.set_cons_zero]
  refine wpOrd_yield (v := .slice p l.length cap) rfl (fun u hu => by have c0 : u.cell? ⟨w.heap.size, 1, none⟩ = some (.slice p l.length cap) := Joins.cell_of_block hu 1; go_simp) ?_
  simp only [Act.put, List.setIfInBounds_toArray, List.set_cons_succ, List.set_cons_zero]
  refine wpOrd_call rfl 33 _ _ rfl Tryz.call33 [.slice p l.length cap] rfl ?_
  refine Calls.mono HC.out ?_
  rintro e W2 ⟨q, c, rfl, hb2⟩
  have hG2 : W2.heap[w.heap.size]? = _ := (hb2.block w.heap.size (Array.getElem?_eq_some_iff.1 hG1).1).trans hG1
  have HB2 := Hid.mk' (below_next hB1.drew hb2)
  refine ⟨_, rfl, hG2, ?_⟩
  clear HC hb2 hB1
  simp only [Act.put, List.setIfInBounds_toArray, List.set_cons_succ, List.set_cons_zero]
  refine wpOrd_yield (v := .agg (refRow n (.slice q l.length c))) rfl (fun u _ => by unfold refRow; go_simp) ?_
  simp only [Act.put, List.setIfInBounds_toArray, List.set_cons_succ, List.set_cons_zero]
  refine wpOrd_run (v := .pointer (some ⟨W2.heap.size, 0, none⟩)) (w' := W2.alloc (.cells (refRow n (.slice q l.length c)) 75)) rfl (by unfold refRow; go_simp) (heap_kept hG2 (below_new _ _)) ?_
  simp only [Act.put, List.setIfInBounds_toArray, List.set_cons_succ, List.set_cons_zero]
  refine wpOrd_yield (v := .pointer (some ⟨W2.heap.size, 0, none⟩)) rfl (fun u _ => by go_simp) ?_
  simp only [Act.put, List.setIfInBounds_toArray, List.set_cons_succ, List.set_cons_zero]
  refine wpOrd_yield (v := .int .i64 0) rfl (fun u _ => by go_simp) ?_
  simp only [Act.put, List.setIfInBounds_toArray, List.set_cons_succ, List.set_cons_zero]
  refine wpOrd_nil ?_
  have HB3 := Hid.mk' (below_next HB2.out (below_new W2 (.cells (refRow n (.slice q l.length c)) 75)))
  generalize W2.alloc (.cells (refRow n (.slice q l.length c)) 75) = W3 at HB3 ⊢
  go_wp2
  go_ret2
  exact ⟨_, rfl, HB3.out⟩
end Go.Proofs.YtlcdpmjdnihocaaGreatD
/- A list of marks that came in; for all that can be read. -/
namespace Go.Proofs.YtlcdpmjdnihocaaGreatD
open Go.RowKit Go.ChangeShapes Go.WideShapes
section
variable {H : Type} {enc : TypeId × Value → H} {w : World} {base : Nat} {sp : Nat → Bool} {held : Bool} {v : Value} {x : DataW H × List MemPlace} {fuel : Nat}
theorem bools_of_trod (h : DataW.trod enc Tryz.prog w base sp held fuel 189 [v] = some x) : ∃ a cap l, v = .slice a (List.length l) cap ∧ BoolsAt w v l ∧ l.length ≤ maxLen := by
  rcases Go.Deep.open_slice1 Tryz.underlying189 (by kernel_rfl) h with ⟨h0, _⟩ | ⟨a, len, cap, m, n, V, D, Pl, hv, _, hl, hm, hmm, _, hc⟩
  · have hv : v = .slice none 0 0 := by simpa using h0
    subst hv
    exact ⟨none, 0, [], rfl, bools_nil w, by unfold maxLen; simp⟩
  · have hv' : v = .slice (some a) len cap := by simpa using hv
    subst hv'
    have hlm : len ≤ m := by rw [hmm]; split <;> omega
    have key : ∀ i, ∃ z : Bool, (i < len → w.cell? (a.add i) = some (.bool z)) := fun i => by
      by_cases hi : i < len
      · obtain ⟨h1, h2⟩ := hc i (by omega)
        obtain ⟨z, hz, _⟩ := DataW.trod_bool Tryz.underlying4 h2
        have hz' : V i = .bool z := by simpa using hz
        exact ⟨z, fun _ => by rw [h1, hz']⟩
      · exact ⟨false, fun q => absurd q hi⟩
    obtain ⟨f, hf⟩ := Classical.skolem.1 key
    have hll : ((List.range len).map f).length = len := by simp
    refine ⟨some a, cap, (List.range len).map f, by rw [hll], ⟨some a, cap, by rw [hll], fun h0 => ?_⟩, by rw [hll]; omega⟩
    rw [hll] at h0
    obtain ⟨b, off, rfl, hb⟩ := plain_addr (hf 0 (by omega))
    refine ⟨b, off, rfl, fun i x hx => ?_⟩
    have hi : i < len := by have := (List.getElem?_eq_some_iff.1 hx).1; rwa [hll] at this
    have q := hf i hi
    rw [Go.WideShapes.add_plain] at q
    rw [List.getElem?_map, List.getElem?_range hi] at hx
    have e : f i = x := by simpa using hx
    rw [← e]
    exact q
end
end Go.Proofs.YtlcdpmjdnihocaaGreatD
