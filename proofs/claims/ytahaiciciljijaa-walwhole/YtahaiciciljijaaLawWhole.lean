import Derived.Test.YtahaiciciljijaaLawSynced
import Derived.Test.YtahaiciciljijaaLRunF
/- A story beside a disk whose log is dead: the power going, recovery, what is found; no condition. -/
namespace Go.Proofs.Ytahaiciciljijaa
open Go.RowKit Go.Maps
theorem BoolsAt.later {w W : World} {v : Value} {kl : List Bool} (h : BoolsAt w v kl) (hb : Below w.heap.size w W) : BoolsAt W v kl := by
  obtain ⟨p, c, e, h1⟩ := h
  refine ⟨p, c, e, fun h0 => ?_⟩
  obtain ⟨q, off, e2, h2⟩ := h1 h0
  refine ⟨q, off, e2, fun i x hx => ?_⟩
  have h3 := h2 i x hx
  have hq : q < w.heap.size := by
    rcases Nat.lt_or_ge q w.heap.size with r | r
    · exact r
    · simp [World.cell?, Array.getElem?_eq_none r] at h3
  exact (hb.cell (p := ⟨q, off + i, none⟩) hq).trans h3
section
variable {w W : World} {g d q : Nat} {t t0 : St} {vT : Value} {vs : List Value} {fss : List (List (Nat → Int))} {lst last : Int} {ok : Bool} {oT ks : List (Nat × Obj)} {b l i n f K : Int} {P F : Int → Nat → Int} {wt : List Cel}
theorem SX.callS {fn : Nat} {args : Array Value} {Ψ : Ending → St → Prop} (h : SX w (fun W t ks => DeadC w g d W t ks) W t q vT vs fss lst last ok oT ks) (hc : ∀ ks, Sits w W d t ks → Calls Try.prog fn args W fun e W' => ∃ t', Ψ e t' ∧ Sits w W' d t' ks) :
    Calls Try.prog fn args W fun e W' => ∃ t', Ψ e t' ∧ SX w (fun W t ks => DeadC w g d W t ks) W' t' q vT vs fss lst last ok oT ks := by
  obtain ⟨c, mb, v, x', hx, hS, ha⟩ := h.c
  refine (hc _ hS).mono ?_
  rintro e W' ⟨t', hp, hS'⟩
  exact ⟨t', hp, h.turn ⟨c, mb, v, x', hx, hS', ha⟩⟩
theorem SX.checkD (h : SX w (fun W t ks => DeadC w g d W t ks) W t q vT vs fss lst last ok oT ks) (hd : t.claimed = false) :
    Calls Try.prog 20 #[ptr g] W fun e W' => e = .returned (.int .i64 3) ∧ SX w (fun W t ks => DeadC w g d W t ks) W' t q vT vs fss lst last ok oT ks := by
  obtain ⟨c, mb, v, x', hx, hS, ha⟩ := h.c
  refine (dead_check hS (List.mem_cons_self ..) (by unfold claimedV; rw [hd]; simp)).mono ?_
  rintro e W' ⟨rfl, m, rfl⟩
  exact ⟨rfl, h.later (DeadC.ctx w g d) (below_drewN _ m)⟩
theorem SX.usedD (h : SX w (fun W t ks => DeadC w g d W t ks) W t q vT vs fss lst last ok oT ks) (hd : t.claimed = false) :
    Calls Try.prog 21 #[ptr g] W fun e W' => e = .returned (.int .i64 0) ∧ SX w (fun W t ks => DeadC w g d W t ks) W' t q vT vs fss lst last ok oT ks := by
  obtain ⟨c, mb, v, x', hx, hS, ha⟩ := h.c
  refine (dead_used hS (List.mem_cons_self ..) (by unfold claimedV; rw [hd]; simp)).mono ?_
  rintro e W' ⟨rfl, m, rfl⟩
  exact ⟨rfl, h.later (DeadC.ctx w g d) (below_drewN _ m)⟩
theorem Nm.crash (hN : Nm t0 K) (hP : PW t0 n f P wt) (B : Bool) (kl : List Bool) (h0 : 0 ≤ K) : Nm (crashS { t0 with stopped := B } kl) K := by
  obtain ⟨_, _, h1, h2, h3, h4⟩ := crash_pw hP B kl
  exact ⟨by rw [h3]; exact hN.m, by rw [h2]; exact hN.r, by rw [h4]; show ((0 : Nat) : Int) ≤ K; omega, by rw [h1]; exact hN.c⟩
theorem crash_sits {B : Bool} (h : Sits w W d { t0 with stopped := B } ks) (hP : PW t0 n f P wt) (hN : Nm t0 K) (hK : K ≤ 900000) (h0 : 0 ≤ K) {kv : Value} {kl : List Bool} (hkv : BoolsAt W kv kl) (hkl : kl.length ≤ 9223372036854775807) :
    Calls Try.prog 19 #[ptr d, kv] W fun e W' => ∃ t', (e = .returned (.int .i64 0) ∧ PW t' n (-1) (afterW P (keptL wt kl)) [] ∧ t'.claimed = false ∧ Nm t' K) ∧ Sits w W' d t' ks := by
  obtain ⟨L, rfl, hS⟩ := h
  have hw : t0.wait.length < 68719476736 := by
    have h1 := hN.o
    unfold St.ops at h1
    rw [List.length_append, List.length_map] at h1
    omega
  refine (crash_le hS.disk hkv hw hkl).mono ?_
  rintro e W' ⟨rfl, L', h2, h3⟩
  obtain ⟨c1, c2, _⟩ := crash_pw hP B kl
  exact ⟨_, ⟨rfl, c1, c2, hN.crash hP B kl h0⟩, L', h3.d, hS.goes h2 h3⟩
theorem st_eta (h : t.stopped = false) : t = { t with stopped := false } := by
  cases t
  simp only at h
  rw [h]
/-- Recovery that may be stopped. -/
theorem rec_soft (h : Sits w W d t ks) (hP : PW t n f P []) (hG : Good b l F P) (hf : H.Fine b l i) (hb : b ≤ 300) (hn : b ≤ n) (hK : Nm t K) (hK2 : K ≤ 900000) :
    Calls Try.prog 10 #[ptr d, .agg (layA b l i)] W fun e W' => ∃ t', (∃ N E : Int, e = .returned (.tuple #[.int .i64 N, .int .i64 E]) ∧ (E = 0 ∨ E = 3) ∧ ∃ t0 B f' P' w', t' = { t0 with stopped := B } ∧ PW t0 n f' P' w' ∧ SubAll (Good b l F) P' w' ∧ Nm t0 (K + 300)) ∧ Sits w W' d t' ks := by
  refine (rec_any h hP hG hf hb hn hK hK2).mono ?_
  rintro e W' (⟨N, rfl, t', f', P', h1, h2, h3, h4, _, _⟩ | ⟨rfl, _, t0, P', w', h1, h2, h3, h4⟩)
  · exact ⟨t', ⟨N, 0, rfl, .inl rfl, t', false, f', P', [], st_eta h2.live.stop, h2, sub_nil (.inl h3), h4⟩, h1⟩
  · exact ⟨_, ⟨0, 3, rfl, .inr rfl, t0, true, 0, P', w', rfl, h2, h3, h4⟩, h1⟩
/-- Recovery without a fuse. -/
theorem rec_hard (h : Sits w W d t ks) (hP : PW t n (-1) P []) (hG : Good b l F P) (hf : H.Fine b l i) (hb : b ≤ 300) (hn : b ≤ n) (hK : Nm t K) (hK2 : K ≤ 900000) :
    Calls Try.prog 10 #[ptr d, .agg (layA b l i)] W fun e W' => ∃ t', (∃ N : Int, e = .returned (.tuple #[.int .i64 N, .int .i64 0]) ∧ ∃ P', PW t' n (-1) P' [] ∧ GoodA b l F P' ∧ Nm t' (K + 300) ∧ (GoodA b l F P → N = 0 ∧ t'.made = t.made)) ∧ Sits w W' d t' ks := by
  refine (rec_any h hP hG hf hb hn hK hK2).mono ?_
  rintro e W' (⟨N, rfl, t', f', P', h1, h2, h3, h4, h5, h6⟩ | ⟨rfl, hne, _⟩)
  · rw [h6 rfl] at h2
    exact ⟨t', ⟨N, rfl, P', h2, h3, h4, h5⟩, h1⟩
  · exact absurd rfl hne
theorem PW.readN (h : PW t n f P wt) : ∀ m : Nat, PW (readN m t) n f P wt
  | 0 => h
  | m + 1 => (h.readN m).readS
theorem PW.fuse (h : PW t n f P wt) {m : Int} (hm : 0 ≤ m ∧ m ≤ 1000) : PW (fuseV t m) n m P wt := by
  have h1 := h.live.fuse' hm
  refine ⟨⟨h1.ok, h1.stop, h1.n, h1.fuse, rfl, h1.wait⟩, fun k => ?_⟩
  have e : (fuseV t m).held = t.held := by
    unfold fuseV
    split <;> rfl
  rw [e]
  exact h.plat k
theorem Nm.fuse (h : Nm t K) (m : Int) : Nm (fuseV t m) K := by
  have e : (fuseV t m).made = t.made ∧ (fuseV t m).reads = t.reads ∧ (fuseV t m).ops = t.ops ∧ (fuseV t m).claims = t.claims ∧ (fuseV t m).claimed = t.claimed := by
    unfold fuseV
    split <;> exact ⟨rfl, rfl, rfl, rfl, rfl⟩
  exact ⟨by rw [e.1]; exact h.m, by rw [e.2.1]; exact h.r, by rw [e.2.2.1]; exact h.o, by rw [e.2.2.2.1]; exact h.c⟩
theorem Nm.readN (h : Nm t K) (m : Nat) : Nm (Go.Proofs.Ytahaiciciljijaa.readN m t) (K + m) := by
  obtain ⟨a1, a2, a3, a4, _⟩ := readN_same m t
  exact ⟨by rw [a1]; have := h.m; omega, by rw [a2]; have := h.r; omega, by rw [a3]; have := h.o; omega, by rw [a4]; have := h.c; omega⟩
end
end Go.Proofs.Ytahaiciciljijaa
/- WalWhole: wherever a disk stops under a log, and whatever is kept, recovery brings the blocks to what they were behind the last commit, or behind the group that was on its way; for every play. -/
namespace Go.Proofs.Ytahaiciciljijaa
open Go.RowKit Go.Maps
set_option maxRecDepth 100000 in
set_option maxHeartbeats 8000000 in
theorem whole_any (b l i : Int) (p : Option Addr) (ss : List (Option Addr × Nat × Nat)) (c : Nat) (p2 : Option Addr) (sy : List Int) (c2 : Nat) (st : Int) (p3 : Option Addr) (n3 c3 : Nat) (ag : Int) (p4 : Option Addr) (n4 c4 : Nat) (w : World) (h : PlayAt w p ss p2 sy) (hl : ss.length ≤ 9223372036854775807) (hl2 : sy.length ≤ 9223372036854775807) {kl kl2 : List Bool} (hk1 : BoolsAt w (.slice p3 n3 c3) kl) (hk2 : BoolsAt w (.slice p4 n4 c4) kl2) (hkl : kl.length ≤ 9223372036854775807) (hkl2 : kl2.length ≤ 9223372036854775807) :
    Calls Try.prog 4 #[.agg (playA b l i p ss.length c p2 sy.length c2 st p3 n3 c3 ag p4 n4 c4)] w fun e w' => e = .returned (.bool true) ∧ Below w.heap.size w w' := by
  obtain ⟨n, hn⟩ : ∃ n, ss.length = n := ⟨_, rfl⟩
  obtain ⟨m2, hm2⟩ : ∃ m2, sy.length = m2 := ⟨_, rfl⟩
  have HFit : Hid (∀ W, Below w.heap.size w W → Calls Try.prog 13 #[.agg (playA b l i p n c p2 m2 c2 st p3 n3 c3 ag p4 n4 c4)] W fun e W' => e = .returned (.bool (fitsB b l i ss)) ∧ Below W.heap.size W W') := fun W hb => by
    have q := fits_any b l i p ss c p2 m2 c2 st p3 n3 c3 ag p4 n4 c4 W (h.1.later hb) hl
    rw [hn] at q
    exact q
  have HKp : Hid (BoolsAt w (.slice p3 n3 c3) kl ∧ BoolsAt w (.slice p4 n4 c4) kl2) := ⟨hk1, hk2⟩
  clear hk1 hk2
  have HT : Hid (PlayAt w p ss p2 sy ∧ ss.length = n ∧ sy.length = m2) := ⟨h, hn, hm2⟩
  rw [hn] at hl ⊢
  rw [hm2] at hl2 ⊢
  clear h hn hm2
  have hz53 : (Try.prog.info? 53).map (·.size) = some (playA b l i p n c p2 m2 c2 st p3 n3 c3 ag p4 n4 c4).size := size53
  generalize hPA : playA b l i p n c p2 m2 c2 st p3 n3 c3 ag p4 n4 c4 = PA at *
  have HPA := Hid.mk' hPA
  clear hPA
  go_enter Try.func4, Try.ntmps4
  go_wp2_with (first | (go_at_call 11; fail))
  refine (lives_any _).mono ?_
  rintro e W0 ⟨rfl, hb0⟩
  have h0 := heap_kept (heap_alloc_new w (.cells PA 53)) hb0
  have HB0 : Hid (Below w.heap.size w W0) := below_next (below_new _ _) hb0
  clear hb0
  go_wp2_with (first | refine wpList_load_row rfl 53 (.tmp 1) rfl w.heap.size rfl 53 PA (0, 0) _ h0 Try.underlying53 rfl hz53 ?_ | (go_at_call 13; fail))
  refine (HFit.out _ HB0.out).mono ?_
  rintro e W1 ⟨rfl, hb1⟩
  have h1 := heap_kept h0 hb1
  have HB1 : Hid (Below w.heap.size w W1) := below_next HB0.out hb1
  clear HFit hb1 h0 HB0
  cases hfit : fitsB b l i ss
  · go_wp2
    go_ret
    exact ⟨rfl, HB1.out⟩
  obtain ⟨hF, hb300, hn40, hn31⟩ := of_decide_eq_true hfit
  have hn40 : n ≤ 40 := by rw [HT.out.2.1] at hn40; exact hn40
  have hl32 : 32 ≤ l ∧ l ≤ 256 := ⟨hF.1, hF.2.1⟩
  have H31 := Hid.mk' hn31
  have hof : H.ofV b l i = .agg (layA b l i) := by unfold H.ofV; rw [if_pos hF]; rfl
  have hoe : H.ofE b l i = 0 := by unfold H.ofE; rw [if_pos hF]
  have hc := fun w => H.refOf_any b l i w
  rw [hof, hoe] at hc
  have HOf := Hid.mk' hc
  have hbnd : bndB b = true := by have := H.Fine.pos hF; have := hF.2.2.2.2.1; unfold bndB; exact decide_eq_true ⟨by omega, by omega⟩
  have HF : Hid (H.Fine b l i) := hF
  clear hF hfit hn31 hc hof hoe
  have h1' := h1
  rw [← HPA.out] at h1'
  unfold H.geoV at HOf
  have hsz : (layA b l i).size = 9 := rfl
  have hone := layA_one b l i
  generalize hLA : layA b l i = LA at *
  have HLA := Hid.mk' hLA
  clear hLA
  go_wp2_with (first | (with_reducible refine H.isLoad 25 ?_; refine wpList_exec rfl (exec_loadG rfl rfl h1') ?_) | (go_at_call 14; fail))
  refine (HOf.out _).mono ?_
  rintro e W2 ⟨rfl, hb2⟩
  have h2 := heap_kept (heap_kept h1 hb2) (below_new W2 (.cells LA 31))
  have HB2 : Hid (Below w.heap.size w (W2.alloc (.cells LA 31))) := below_next (below_next HB1.out hb2) (below_new _ _)
  have hrow := h2
  rw [← HPA.out] at hrow
  have r0 := (play_cells hrow).1
  have h4 := heap_alloc_new W2 (.cells LA 31)
  clear h1 h1' hb2 HB1 HOf hrow
  go_wp2_with (first | (with_reducible refine H.isStore 31 ?_; refine H.wpList_storeL_new rfl _ _ rfl LA _ hsz rfl hone _ rfl rfl rfl ?_) | (go_at_call 15; fail))
  generalize W2.heap.size = q4 at *
  generalize W2.alloc (.cells LA 31) = W3 at *
  refine (sits_new (w := W3) (ks := []) hbnd (Below.refl _ _) (fun p hp => by cases hp)).mono ?_
  rintro e W4 ⟨d, rfl, h5⟩
  have hl4 := heap_kept h4 h5.below
  have hl2' := heap_kept h2 h5.below
  have HNew : Hid (Calls Try.prog 8 #[.pointer (some ⟨d, 0, none⟩), .agg LA] W4 fun e W' => ∃ g, e = .returned (.tuple #[.pointer (some ⟨g, 0, none⟩), .int .i64 0]) ∧ LogI W3 W' g d (newX b l i 1) (freshT b) (curV (newV b)) []) := by
    rw [← HLA.out]
    obtain ⟨e1, e2⟩ := tg_nought (b := b) (l := l) (t := newV b) rfl hl32.1
    exact newL_ok h5 HF.out (Int.le_refl _) rfl (rm_new b) e1 e2
  clear h5 r0
  go_wp2_with (first | refine wpList_load_row rfl 31 (.tmp 4) rfl q4 rfl 31 LA (0, 0) _ hl4 Try.underlying31 rfl (by rw [hsz]; exact H.size25L) ?_ | (go_at_call 8; fail))
  refine HNew.out.mono ?_
  rintro e W5 ⟨g, rfl, h6⟩
  clear HNew hl4 hl2'
  have hl5 := heap_kept h4 h6.below
  have hl6 := heap_kept h2 h6.below
  have hbl : 1 ≤ b - (1 + l) := by have := HF.out.2.2.2.2.2; have := HF.out.pos; unfold H.dataAt H.bitsAt H.nodeB H.bitsB at *; have := HF.out.2.2.1; omega
  obtain ⟨m, hm⟩ : ∃ m : Nat, b - (1 + l) = (m : Int) := ⟨(b - (1 + l)).toNat, by omega⟩
  have hrow := hl6
  rw [← HPA.out] at hrow
  have r5 : W5.cell? ⟨w.heap.size, 5, none⟩ = some (.int .i64 st) := Joins.cell_of_block hrow 5
  clear hrow
  go_wp2_with (first | (go_at_call 17; fail))
  refine (pick_any st 1000 ⟨by omega, by omega⟩ W5).mono ?_
  rintro e W5' ⟨rfl, rfl⟩
  obtain ⟨f1, hf1⟩ : ∃ f1, st % 1000 = f1 := ⟨_, rfl⟩
  have hfb : 0 ≤ f1 ∧ f1 ≤ 1000 := by rw [← hf1]; omega
  rw [hf1]
  have hfu := h6.fuse f1 (by omega)
  have HFu := Hid.mk' hfu
  unfold ptr at HFu
  clear hfu r5 h6 hf1
  go_wp2_with (first | (go_at_call 16; fail))
  refine HFu.out.mono ?_
  rintro e W6 ⟨rfl, h7⟩
  clear HFu hl5 hl6
  have hl31 := heap_kept h4 h7.below
  have hl6 := heap_kept h2 h7.below
  have HRun : Hid (Calls Try.prog 18 #[.pointer (some ⟨d, 0, none⟩), .pointer (some ⟨g, 0, none⟩), .agg LA, .agg PA] W6 (RunPostF W3 g d b l m)) := by
    have hG : GoW b l i (newX b l i 1) (fuseV (freshT b) f1) := ⟨rfl, rfl, rfl, rfl, rfl, rfl, rfl, rfl, ⟨by rw [(cur_fuse f1).1]; rfl, rfl⟩⟩
    have hN : Nm (fuseV (freshT b) f1) 1000 := Nm.fuse ⟨by show (0 : Int) ≤ 1000; omega, by show (1 : Int) ≤ 1000; omega, by show ((0 : Nat) : Int) ≤ 1000; omega, by show (1 : Int) ≤ 1000; omega⟩ f1
    have q := run_fuse (st := st) (p3 := p3) (n3 := n3) (c3 := c3) (ag := ag) (p4 := p4) (n4 := n4) (c4 := c4) h7 hG rfl HF.out hb300 hm (by omega) (Int.le_refl _) (hN.rm (by omega) (by omega)) (by rw [behL_tell, (cur_fuse f1).1]; rfl) hN (by show (0 : Int) ≤ 0; omega) (by show (0 : Int) ≤ 0; omega) (HT.out.1.later HB2.out) (by rw [HT.out.2.1]; exact hn40) H31.out (by rw [HT.out.2.2]; exact hl2) c c2
    rw [HT.out.2.1, HT.out.2.2, HPA.out, HLA.out] at q
    exact q
  clear h7
  go_wp2_with (first | refine wpList_load_row rfl 31 (.tmp 4) rfl q4 rfl 31 LA (0, 0) _ hl31 Try.underlying31 rfl (by rw [hsz]; exact H.size25L) ?_ | refine wpList_load_row rfl 53 (.tmp 1) rfl w.heap.size rfl 53 PA (0, 0) _ hl6 Try.underlying53 rfl hz53 ?_ | (go_at_call 18; fail))
  refine HRun.out.mono ?_
  rintro e W7 ⟨q, vT, vs, fss, lst, last, oT, T, ks', F0, F1, rfl, hSX, hlo, hla, t0, B, f0, P0, w0, rfl, hP0, hS0, hN0⟩
  clear HRun hl31 hl6
  have hC := DeadC.ctx W3 g d
  have hvn : vs[last]? = some (vs[last]'(by rw [hSX.told.1]; exact (List.getElem?_eq_some_iff.1 hla).1)) := List.getElem?_eq_getElem _
  have hvl : vs[lst]? = some (vs[lst]'(by rw [hSX.told.1]; exact (List.getElem?_eq_some_iff.1 hlo).1)) := List.getElem?_eq_getElem _
  generalize vs[last]'(by rw [hSX.told.1]; exact (List.getElem?_eq_some_iff.1 hla).1) = vN at hvn
  generalize vs[lst]'(by rw [hSX.told.1]; exact (List.getElem?_eq_some_iff.1 hlo).1) = vL at hvl
  obtain ⟨gT, cT, hvT, hat9⟩ := hSX.at hC hvn
  obtain ⟨NN, hNN⟩ : ∃ NN, vs.length = NN := ⟨_, rfl⟩
  rw [hNN] at hvT
  clear hNN hat9
  subst hvT
  have HVN : Hid (vs[last]? = some vN ∧ vs[lst]? = some vL ∧ fss[lst]? = some (tellB l m F0) ∧ fss[last]? = some (tellB l m F1)) := ⟨hvn, hvl, hlo, hla⟩
  have H7 := Hid.mk' (hSX.copy hC)
  have hone63 : (stRow (.slice (some ⟨gT, 0, none⟩) NN cT) lst last true).all (·.oneCell') = true := by simp [stRow, Value.oneCell']
  have hz4 : (stRow (.slice (some ⟨gT, 0, none⟩) NN cT) lst last true).size = 4 := rfl
  obtain ⟨_, _, _, d3⟩ := H7.out.cells hC
  have hrow := heap_kept h2 (H7.out.below hC)
  rw [← HPA.out] at hrow
  have r6 : (W7.alloc (.cells (stRow (.slice (some ⟨gT, 0, none⟩) NN cT) lst last true) 63)).cell? ⟨w.heap.size, 6, none⟩ = some (.slice p3 n3 c3) := Joins.cell_of_block hrow 6
  have hcr := H7.out.callS (Ψ := fun e t' => e = .returned (.int .i64 0) ∧ PW t' b (-1) (afterW P0 (keptL w0 kl)) [] ∧ t'.claimed = false ∧ Nm t' 60000) fun ks h => crash_sits h hP0 hN0 (by omega) (by omega) (HKp.out.1.later (below_next HB2.out (H7.out.below hC))) hkl
  have HCr := Hid.mk' hcr
  have hgd : ∃ F, Good b l F (afterW P0 (keptL w0 kl)) ∧ (fss[lst]? = some (tellB l m F) ∨ fss[last]? = some (tellB l m F)) := by
    rcases hS0 _ (kept_sub w0 kl) with q | q
    · exact ⟨F0, q, .inl hlo⟩
    · exact ⟨F1, q, .inr hla⟩
  obtain ⟨F, hgF, hFr⟩ := hgd
  have HGd : Hid (Good b l F (afterW P0 (keptL w0 kl))) := hgF
  have HFr : Hid (tellB l m F0 = tellB l m F ∨ tellB l m F1 = tellB l m F) := by
    rcases hFr with q | q
    · rw [hlo] at q; injection q with q; exact .inl q
    · rw [hla] at q; injection q with q; exact .inr q
  clear hSX hvn hvl hlo hla hP0 hS0 hN0 hcr hgF hFr hrow hC
  have z63 : ∀ u, (zeroValue 63).run Try.prog u = .ok (.agg (stRow (.slice none 0 0) 0 0 false)) u := fun u => by kernel_rfl
  generalize afterW P0 (keptL w0 kl) = Q2 at *
  unfold ptr at HCr
  unfold stRow at *
  go_wp2_with (first | (with_reducible refine H.isStore 63 ?_; refine wpList_store63_new rfl rfl rfl rfl hz4 hone63 rfl ?_) | (go_at_call 19; fail))
  refine HCr.out.mono ?_
  rintro e W9 ⟨T2, ⟨rfl, hP2, hcd2, hN2⟩, hS9⟩
  generalize W7.heap.size = q9 at *
  have HP2 : Hid (PW T2 b (-1) Q2 [] ∧ Nm T2 60000 ∧ T2.claimed = false) := ⟨hP2, hN2, hcd2⟩
  have HS9 := Hid.mk' hS9
  clear HCr hP2 hcd2 hN2 hS9 H7 d3 r6 z63 hone63 hz4
  have hck := HS9.out.checkD HP2.out.2.2
  have HC := Hid.mk' hck
  unfold ptr at HC
  clear hck
  go_wp2_with (first | (go_at_call 20; fail))
  refine HC.out.mono ?_
  rintro e W10 ⟨rfl, hS10⟩
  have hck := hS10.usedD HP2.out.2.2
  have HC2 := Hid.mk' hck
  unfold ptr at HC2
  clear hck HC hS10 HS9
  go_wp2_with (first | (go_at_call 21; fail))
  refine HC2.out.mono ?_
  rintro e W11 ⟨rfl, hS11⟩
  have hrow := heap_kept h2 (hS11.below (DeadC.ctx W3 g d))
  rw [← HPA.out] at hrow
  have r7 : W11.cell? ⟨w.heap.size, 7, none⟩ = some (.int .i64 ag) := Joins.cell_of_block hrow 7
  have H11 := Hid.mk' hS11
  clear HC2 hS11 hrow
  go_wp2_with (first | (go_at_call 17; fail))
  refine (pick_any ag 80 ⟨by omega, by omega⟩ W11).mono ?_
  rintro e W11' ⟨rfl, rfl⟩
  obtain ⟨f2, hf2⟩ : ∃ f2, ag % 80 = f2 := ⟨_, rfl⟩
  have hfb2 : 0 ≤ f2 ∧ f2 ≤ 1000 := by rw [← hf2]; omega
  rw [hf2]
  have hfu := H11.out.callS (Ψ := fun e t' => e = .returned (.tuple #[]) ∧ t' = fuseV T2 f2) (fn := 16) (args := #[ptr d, .int .i64 f2]) fun ks h => (sits_fuse h f2 (by omega)).mono fun e W' ⟨h1, h2⟩ => ⟨_, ⟨h1, rfl⟩, h2⟩
  have HFu := Hid.mk' hfu
  unfold ptr at HFu
  clear hfu r7 hf2 H11
  go_wp2_with (first | (go_at_call 16; fail))
  refine HFu.out.mono ?_
  rintro e W12 ⟨T2', ⟨rfl, rfl⟩, hS12⟩
  clear HFu
  have hl31 := heap_kept h4 (hS12.below (DeadC.ctx W3 g d))
  have hrc := hS12.callS fun ks h => rec_soft h (HP2.out.1.fuse hfb2) HGd.out HF.out hb300 (Int.le_refl _) (HP2.out.2.1.fuse f2) (by omega)
  rw [HLA.out] at hrc
  have HRc := Hid.mk' hrc
  unfold ptr at HRc
  clear hrc hS12
  go_wp2_with (first | refine wpList_load_row rfl 31 (.tmp 4) rfl q4 rfl 31 LA (0, 0) _ hl31 Try.underlying31 rfl (by rw [hsz]; exact H.size25L) ?_ | (go_at_call 10; fail))
  refine HRc.out.mono ?_
  rintro e W13 ⟨T3', ⟨N1, E1, rfl, hE, T3, B3, f3, P3, w3, rfl, hP3, hS3, hN3⟩, hS13⟩
  have hC := DeadC.ctx W3 g d
  have hrow := heap_kept h2 (hS13.below hC)
  rw [← HPA.out] at hrow
  have r8 : W13.cell? ⟨w.heap.size, 8, none⟩ = some (.slice p4 n4 c4) := Joins.cell_of_block hrow 8
  have hcr := hS13.callS (Ψ := fun e t' => e = .returned (.int .i64 0) ∧ PW t' b (-1) (afterW P3 (keptL w3 kl2)) [] ∧ t'.claimed = false ∧ Nm t' (60000 + 300)) fun ks h => crash_sits h hP3 hN3 (by omega) (by omega) (HKp.out.2.later (below_next HB2.out (hS13.below hC))) hkl2
  have HCr := Hid.mk' hcr
  unfold ptr at HCr
  have HGd3 : Hid (Good b l F (afterW P3 (keptL w3 kl2))) := hS3 _ (kept_sub w3 kl2)
  clear HRc hP3 hS3 hN3 hS13 hcr hrow hC hl31 HGd HP2
  generalize afterW P3 (keptL w3 kl2) = Q4 at *
  rcases hE with rfl | rfl
  · go_wp2_with (first | (go_at_call 19; fail))
    refine HCr.out.mono ?_
    rintro e W14 ⟨T4, ⟨rfl, hP4, hcd4, hN4⟩, hS14⟩
    have hC := DeadC.ctx W3 g d
    have hl31 := heap_kept h4 (hS14.below hC)
    have hrc := hS14.callS fun ks h => rec_hard h hP4 HGd3.out HF.out hb300 (Int.le_refl _) hN4 (by omega)
    rw [HLA.out] at hrc
    have HRc := Hid.mk' hrc
    unfold ptr at HRc
    clear hrc hS14 HCr r8 hP4 hcd4 hN4 HGd3
    go_wp2_with (first | refine wpList_load_row rfl 31 (.tmp 4) rfl q4 rfl 31 LA (0, 0) _ hl31 Try.underlying31 rfl (by rw [hsz]; exact H.size25L) ?_ | (go_at_call 10; fail))
    refine HRc.out.mono ?_
    rintro e W15 ⟨T5, ⟨N2, rfl, P5, hP5, hA5, hN5, _⟩, hS15⟩
    clear HRc hl31
    have hcur : curV T5 = P5 := by rw [hP5.cur]; rfl
    have hbeh : behL l m T5 = tellB l m F := beh_of (fun k h1 h2 => by rw [hcur]; exact hA5.2 k h1 h2) hm
    have hl15 := heap_kept h4 (hS15.below hC)
    have hr15 := hS15.row hC
    have hfd := hS15.found hC HF.out hb300 hm hP5.live.stop (hN5.rm (by omega) (by omega)) (by rw [hP5.live.n]; exact Int.le_refl _) rfl rfl HVN.out.2.1 HVN.out.1 HVN.out.2.2.1 HVN.out.2.2.2 (by rw [tellB_len]; omega) (by rw [tellB_len]; omega)
    rw [HLA.out] at hfd
    have HFd := Hid.mk' hfd
    have HBh : Hid (behL l m T5 = tellB l m F0 ∨ behL l m T5 = tellB l m F1) := by
      show _ ∨ _
      rw [hbeh]
      rcases HFr.out with q | q
      · exact .inl q.symm
      · exact .inr q.symm
    have H5 : Hid (PW T5 b (-1) P5 [] ∧ GoodA b l F P5 ∧ Nm T5 (60000 + 300 + 300)) := ⟨hP5, hA5, hN5⟩
    have hz63 : (Try.prog.info? 63).map (·.size) = some (stRow (.slice (some ⟨gT, 0, none⟩) NN cT) lst last true).size := size63
    have hld63 := load63 hz63 hr15
    have hld31 := load31 hsz hl15
    unfold ptr at HFd
    clear hfd hbeh hcur hS15 hz63 hl15 hr15 hP5 hA5 hN5
    unfold stRow at HFd hld63
    go_wp2_with (first | (with_reducible refine H.isLoad 31 ?_; refine wpList_execW rfl (exec_row rfl rfl hld31) ?_) | (with_reducible refine H.isLoad 63 ?_; refine wpList_execW rfl (exec_row rfl rfl hld63) ?_) | (go_at_call 22; fail))
    refine HFd.out.mono ?_
    rintro e W16 ⟨B6, rfl, hB, hS16⟩
    obtain rfl := hB HBh.out
    clear HFd hB HBh hld63 hld31
    have H6 : Hid (PW (readN m T5) b (-1) P5 [] ∧ GoodA b l F P5 ∧ Nm (readN m T5) (60000 + 300 + 300 + (m : Int))) := ⟨H5.out.1.readN m, H5.out.2.1, H5.out.2.2.readN m⟩
    generalize readN m T5 = T6 at *
    obtain ⟨M, hM⟩ : ∃ M, T6.made = M := ⟨_, rfl⟩
    have HM := Hid.mk' hM
    have hmd := hS16.callS (Ψ := fun e t' => e = .returned (.int .i64 M) ∧ t' = T6) (fn := 23) (args := #[ptr d]) fun ks h => (sits_made h).mono fun e W' ⟨h1, h2⟩ => ⟨_, ⟨by rw [h1, hM], rfl⟩, h2⟩
    have HMd := Hid.mk' hmd
    unfold ptr at HMd
    clear hmd hS16 hM H5
    go_wp2_with (first | (go_at_call 23; fail))
    refine HMd.out.mono ?_
    rintro e W17 ⟨T6', ⟨rfl, rfl⟩, hS17⟩
    have hl31 := heap_kept h4 (hS17.below hC)
    have hrc := hS17.callS fun ks h => rec_hard h H6.out.1 (.inl H6.out.2.1) HF.out hb300 (Int.le_refl _) H6.out.2.2 (by omega)
    rw [HLA.out] at hrc
    have HRc := Hid.mk' hrc
    unfold ptr at HRc
    clear hrc hS17 HMd
    go_wp2_with (first | refine wpList_load_row rfl 31 (.tmp 4) rfl q4 rfl 31 LA (0, 0) _ hl31 Try.underlying31 rfl (by rw [hsz]; exact H.size25L) ?_ | (go_at_call 10; fail))
    refine HRc.out.mono ?_
    rintro e W18 ⟨T7, ⟨N3, rfl, P7, hP7, hA7, hN7, hz⟩, hS18⟩
    obtain ⟨rfl, hmd7⟩ := hz H6.out.2.1
    clear HRc hl31 hz
    obtain ⟨cc9, mb9, v9, x9, hx9, hSi, ha9⟩ := hS18.c
    have hl31 := heap_kept h4 hSi.below
    have HNw : Hid (Calls Try.prog 8 #[.pointer (some ⟨d, 0, none⟩), .agg LA] W18 fun e W' => ∃ g', e = .returned (.tuple #[.pointer (some ⟨g', 0, none⟩), .int .i64 0]) ∧ LogI W3 W' g' d (newX b l i (claimN T7)) (claimV (readS T7)) (curV T7) []) := by
      rw [← HLA.out]
      obtain ⟨e1, e2⟩ := tg_nought (b := b) (l := l) (t := T7) (by rw [hP7.cur]; exact hA7.1) hl32.1
      exact newL_ok (hSi.drop (ks' := []) fun p hp => by cases hp) HF.out (by rw [hP7.live.n]; exact Int.le_refl _) hP7.live.stop (hN7.rm (by omega) (by omega)) e1 e2
    have hm9 : (claimV (readS T7)).made = M := by
      rw [hP7.live.readS.claim.2.2.2.2.1]
      show T7.made = M
      rw [hmd7]
      exact HM.out
    have HM9 := Hid.mk' hm9
    clear hS18 hSi ha9 hx9 hP7 hA7 hN7 hmd7 hm9
    go_wp2_with (first | refine wpList_load_row rfl 31 (.tmp 4) rfl q4 rfl 31 LA (0, 0) _ hl31 Try.underlying31 rfl (by rw [hsz]; exact H.size25L) ?_ | (go_at_call 8; fail))
    refine HNw.out.mono ?_
    rintro e W19 ⟨g', rfl, hL19⟩
    have hmd := hL19.made
    rw [HM9.out] at hmd
    have HMd := Hid.mk' hmd
    unfold ptr at HMd
    clear HNw hl31 hmd hL19
    go_wp2_with (first | (go_at_call 23; fail))
    refine HMd.out.mono ?_
    rintro e W20 ⟨rfl, hL20⟩
    have HBf : Hid (Below w.heap.size w W20) := below_next HB2.out hL20.below
    clear HMd hL20
    go_wp2
    go_ret
    exact ⟨rfl, HBf.out⟩
  · go_wp2_with (first | (go_at_call 19; fail))
    refine HCr.out.mono ?_
    rintro e W14 ⟨T4, ⟨rfl, hP4, hcd4, hN4⟩, hS14⟩
    have hC := DeadC.ctx W3 g d
    have hl31 := heap_kept h4 (hS14.below hC)
    have hrc := hS14.callS fun ks h => rec_hard h hP4 HGd3.out HF.out hb300 (Int.le_refl _) hN4 (by omega)
    rw [HLA.out] at hrc
    have HRc := Hid.mk' hrc
    unfold ptr at HRc
    clear hrc hS14 HCr r8 hP4 hcd4 hN4 HGd3
    go_wp2_with (first | refine wpList_load_row rfl 31 (.tmp 4) rfl q4 rfl 31 LA (0, 0) _ hl31 Try.underlying31 rfl (by rw [hsz]; exact H.size25L) ?_ | (go_at_call 10; fail))
    refine HRc.out.mono ?_
    rintro e W15 ⟨T5, ⟨N2, rfl, P5, hP5, hA5, hN5, _⟩, hS15⟩
    clear HRc hl31
    have hcur : curV T5 = P5 := by rw [hP5.cur]; rfl
    have hbeh : behL l m T5 = tellB l m F := beh_of (fun k h1 h2 => by rw [hcur]; exact hA5.2 k h1 h2) hm
    have hl15 := heap_kept h4 (hS15.below hC)
    have hr15 := hS15.row hC
    have hfd := hS15.found hC HF.out hb300 hm hP5.live.stop (hN5.rm (by omega) (by omega)) (by rw [hP5.live.n]; exact Int.le_refl _) rfl rfl HVN.out.2.1 HVN.out.1 HVN.out.2.2.1 HVN.out.2.2.2 (by rw [tellB_len]; omega) (by rw [tellB_len]; omega)
    rw [HLA.out] at hfd
    have HFd := Hid.mk' hfd
    have HBh : Hid (behL l m T5 = tellB l m F0 ∨ behL l m T5 = tellB l m F1) := by
      show _ ∨ _
      rw [hbeh]
      rcases HFr.out with q | q
      · exact .inl q.symm
      · exact .inr q.symm
    have H5 : Hid (PW T5 b (-1) P5 [] ∧ GoodA b l F P5 ∧ Nm T5 (60000 + 300 + 300)) := ⟨hP5, hA5, hN5⟩
    have hz63 : (Try.prog.info? 63).map (·.size) = some (stRow (.slice (some ⟨gT, 0, none⟩) NN cT) lst last true).size := size63
    have hld63 := load63 hz63 hr15
    have hld31 := load31 hsz hl15
    unfold ptr at HFd
    clear hfd hbeh hcur hS15 hz63 hl15 hr15 hP5 hA5 hN5
    unfold stRow at HFd hld63
    go_wp2_with (first | (with_reducible refine H.isLoad 31 ?_; refine wpList_execW rfl (exec_row rfl rfl hld31) ?_) | (with_reducible refine H.isLoad 63 ?_; refine wpList_execW rfl (exec_row rfl rfl hld63) ?_) | (go_at_call 22; fail))
    refine HFd.out.mono ?_
    rintro e W16 ⟨B6, rfl, hB, hS16⟩
    obtain rfl := hB HBh.out
    clear HFd hB HBh hld63 hld31
    have H6 : Hid (PW (readN m T5) b (-1) P5 [] ∧ GoodA b l F P5 ∧ Nm (readN m T5) (60000 + 300 + 300 + (m : Int))) := ⟨H5.out.1.readN m, H5.out.2.1, H5.out.2.2.readN m⟩
    generalize readN m T5 = T6 at *
    obtain ⟨M, hM⟩ : ∃ M, T6.made = M := ⟨_, rfl⟩
    have HM := Hid.mk' hM
    have hmd := hS16.callS (Ψ := fun e t' => e = .returned (.int .i64 M) ∧ t' = T6) (fn := 23) (args := #[ptr d]) fun ks h => (sits_made h).mono fun e W' ⟨h1, h2⟩ => ⟨_, ⟨by rw [h1, hM], rfl⟩, h2⟩
    have HMd := Hid.mk' hmd
    unfold ptr at HMd
    clear hmd hS16 hM H5
    go_wp2_with (first | (go_at_call 23; fail))
    refine HMd.out.mono ?_
    rintro e W17 ⟨T6', ⟨rfl, rfl⟩, hS17⟩
    have hl31 := heap_kept h4 (hS17.below hC)
    have hrc := hS17.callS fun ks h => rec_hard h H6.out.1 (.inl H6.out.2.1) HF.out hb300 (Int.le_refl _) H6.out.2.2 (by omega)
    rw [HLA.out] at hrc
    have HRc := Hid.mk' hrc
    unfold ptr at HRc
    clear hrc hS17 HMd
    go_wp2_with (first | refine wpList_load_row rfl 31 (.tmp 4) rfl q4 rfl 31 LA (0, 0) _ hl31 Try.underlying31 rfl (by rw [hsz]; exact H.size25L) ?_ | (go_at_call 10; fail))
    refine HRc.out.mono ?_
    rintro e W18 ⟨T7, ⟨N3, rfl, P7, hP7, hA7, hN7, hz⟩, hS18⟩
    obtain ⟨rfl, hmd7⟩ := hz H6.out.2.1
    clear HRc hl31 hz
    obtain ⟨cc9, mb9, v9, x9, hx9, hSi, ha9⟩ := hS18.c
    have hl31 := heap_kept h4 hSi.below
    have HNw : Hid (Calls Try.prog 8 #[.pointer (some ⟨d, 0, none⟩), .agg LA] W18 fun e W' => ∃ g', e = .returned (.tuple #[.pointer (some ⟨g', 0, none⟩), .int .i64 0]) ∧ LogI W3 W' g' d (newX b l i (claimN T7)) (claimV (readS T7)) (curV T7) []) := by
      rw [← HLA.out]
      obtain ⟨e1, e2⟩ := tg_nought (b := b) (l := l) (t := T7) (by rw [hP7.cur]; exact hA7.1) hl32.1
      exact newL_ok (hSi.drop (ks' := []) fun p hp => by cases hp) HF.out (by rw [hP7.live.n]; exact Int.le_refl _) hP7.live.stop (hN7.rm (by omega) (by omega)) e1 e2
    have hm9 : (claimV (readS T7)).made = M := by
      rw [hP7.live.readS.claim.2.2.2.2.1]
      show T7.made = M
      rw [hmd7]
      exact HM.out
    have HM9 := Hid.mk' hm9
    clear hS18 hSi ha9 hx9 hP7 hA7 hN7 hmd7 hm9
    go_wp2_with (first | refine wpList_load_row rfl 31 (.tmp 4) rfl q4 rfl 31 LA (0, 0) _ hl31 Try.underlying31 rfl (by rw [hsz]; exact H.size25L) ?_ | (go_at_call 8; fail))
    refine HNw.out.mono ?_
    rintro e W19 ⟨g', rfl, hL19⟩
    have hmd := hL19.made
    rw [HM9.out] at hmd
    have HMd := Hid.mk' hmd
    unfold ptr at HMd
    clear HNw hl31 hmd hL19
    go_wp2_with (first | (go_at_call 23; fail))
    refine HMd.out.mono ?_
    rintro e W20 ⟨rfl, hL20⟩
    have HBf : Hid (Below w.heap.size w W20) := below_next HB2.out hL20.below
    clear HMd hL20
    go_wp2
    go_ret
    exact ⟨rfl, HBf.out⟩
end Go.Proofs.Ytahaiciciljijaa
