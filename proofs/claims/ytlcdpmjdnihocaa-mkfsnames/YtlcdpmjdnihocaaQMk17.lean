/- MkfsNames: the walk; closed. -/
import Derived.Test.YtlcdpmjdnihocaaQMk15
import Derived.Deep.Cut
import Derived.Deep.CutRange
namespace Go.Proofs.YtlcdpmjdnihocaaD
open Go.RowKit
theorem nm_small (s : St) (hn : s.n = 400) : mkE 401 32 60 s = 2 ∧ mkV 401 32 60 s = s := by
  have h : rdyE 401 32 60 s = 2 := by
    unfold rdyE
    rw [if_pos (.inr (by rw [hn]; omega))]
  unfold mkE mkV
  rw [h]
  exact ⟨rfl, rfl⟩
theorem allV_rest : ∀ (l : List MOp) (s : St), (allV s l).n = s.n ∧ (allV s l).reads = s.reads ∧ (allV s l).claims = s.claims
  | [], s => ⟨rfl, rfl, rfl⟩
  | o :: t, s => by
    obtain ⟨h1, h2, h3⟩ := allV_rest t (goV s o)
    obtain ⟨g1, g2, g3, g4, _⟩ := goV_rest s o
    rw [allV_cons]
    exact ⟨h1.trans g1, h2.trans g3, h3.trans g4⟩
theorem crash_nil (m : St) : crashS m [] = { m with done := [], wait := [], fuse := -1, stopped := false, claimed := false } := by
  have : keptL m.wait [] = [] := by cases m.wait <;> rfl
  unfold crashS
  rw [this]
  rfl
theorem fine_three : YtlcdpmjdnihocaaP.Fine 300 32 60 := by
  unfold YtlcdpmjdnihocaaP.Fine YtlcdpmjdnihocaaP.dataAt YtlcdpmjdnihocaaP.bitsAt YtlcdpmjdnihocaaP.nodeB YtlcdpmjdnihocaaP.bitsB
  decide
/-- Stopped behind nine, and nothing kept: the first block is noughts; and it is made again. -/
structure NmS (E : Int) (m : St) : Prop where
  e : E = 3
  wait : m.wait.length ≤ 5000
  room : Room (crashS m [])
  ref : refV (crashS m []) 0 = 0
  rd : readB (crashS m []) 0 = nought
  wide : Wide (readV (crashS m []) 0) 10000
  claims : (readV (crashS m []) 0).claims < 1000000000
  again : mkE 300 32 60 (readV (crashS m []) 0) = 0
theorem nm_stop {s : St} {s0 : Int → Nat → Int} (h : Dn 400 32 60 400 s s0 3 12) : NmS (mkE 400 32 60 (fuseV s 9)) (mkV 400 32 60 (fuseV s 9)) := by
  have ht : fuseV s 9 = { s with fuse := 9 } := by
    unfold fuseV
    rw [if_neg (by rw [h.live]; simp)]
    rfl
  rw [ht]
  obtain ⟨t, htt⟩ : ∃ t, ({ s with fuse := 9 } : St) = t := ⟨_, rfl⟩
  have t1 : t.n = 400 := by rw [← htt]; exact h.n
  have t2 : t.stopped = false := by rw [← htt]; exact h.live
  have t3 : t.fuse = 9 := by rw [← htt]
  have t4 : t.wait = [] := by rw [← htt]; exact h.wait
  have t5 : t.made = 12 := by rw [← htt]; exact h.made
  have t6 : t.reads = 3 := by rw [← htt]; exact h.reads
  have t7 : t.claims ≤ 5 := by rw [← htt]; exact h.claims
  have t8 : t.ops.length ≤ 5000 := by rw [← htt]; exact h.ops
  rw [htt]
  obtain ⟨q1, q2, q3⟩ := mk_stops (s := t) fine_small (by rw [t1]; omega) t2 (by rw [t3]; omega) (by rw [t3, mkN_small]; omega)
  obtain ⟨cs, hcs⟩ : ∃ cs, mkBs 400 32 60 = cs := ⟨_, rfl⟩
  have hlen : cs.length = 7 := by
    rw [← hcs]
    unfold mkBs
    rw [List.length_cons, List.length_map, List.length_range, mkN_small]
  have htake : (mkL 400 32 60 0).take t.fuse.toNat = [some (0, nought), none] ++ cs.map some := by
    have hL : mkL 400 32 60 0 = ([some (0, nought), none] ++ cs.map some) ++ ([none] ++ [some (0, YtlcdpmjdnihocaaP.superF 400 32 60), none]) := by
      unfold mkL mkA mkC
      rw [mkB_eq, hcs]
      simp
    rw [hL, t3]
    exact List.take_left' (by simp [hlen])
  rw [htake] at q2
  have hcl := claimV_hw t
  have w2 : (allV (claimV t) [some (0, nought), none]).wait = [] ∧ (allV (claimV t) [some (0, nought), none]).held = (holdAll (claimV t) [(0, nought)]).held := by
    obtain ⟨h1, h2⟩ := allV_writes [(0, nought)] (claimV t)
    rw [hcl.2, t4] at h2
    have h := allV_bar (allV (claimV t) [some (0, nought)])
    rw [← allV_append] at h
    refine ⟨h.2, ?_⟩
    have e : (allV (claimV t) [some ((0, nought) : Cel)]).wait = [(0, nought)] := h2
    rw [show [some ((0, nought) : Cel)] ++ [none] = [some (0, nought), none] from rfl, e] at h
    rw [h.1]
    exact holdAll_held h1 _
  obtain ⟨v1, v2⟩ := allV_writes cs (allV (claimV t) [some (0, nought), none])
  rw [← allV_append] at v1 v2
  obtain ⟨r1, r2, r3⟩ := allV_rest ([some (0, nought), none] ++ cs.map some) (claimV t)
  have hops := allV_ops ([some (0, nought), none] ++ cs.map some) (claimV t)
  have hc : claimV t = { t with claims := t.claims + 1, claimed := true } := by unfold claimV; rw [t2]; rfl
  have g0 : gt (allV (claimV t) ([some (0, nought), none] ++ cs.map some)) 0 = nought := by
    unfold gt
    rw [v1, w2.2]
    exact (holdV_get (claimV t) 0 can_nought 0).trans (if_pos rfl)
  rw [w2.1, List.nil_append] at v2
  generalize allV (claimV t) ([some (0, nought), none] ++ cs.map some) = a at *
  have c1 : a.n = 400 := by rw [r1, hc]; exact t1
  have c2 : a.reads = 3 := by rw [r2, hc]; exact t6
  have c3 : a.claims ≤ 6 := by rw [r3, hc]; show t.claims + 1 ≤ 6; omega
  have c4 : a.made = 21 := by
    have : (mkV 400 32 60 t).made = a.made := by rw [q2]
    rw [← this, q3, t5, t3]
    rfl
  rw [q2]
  have hcr := crash_nil { a with stopped := true }
  obtain ⟨c, hcc⟩ : ∃ c, crashS { a with stopped := true } [] = c := ⟨_, rfl⟩
  have d1 : c.n = 400 := by rw [← hcc, hcr]; exact c1
  have d2 : c.stopped = false := by rw [← hcc, hcr]
  have d3 : c.fuse = -1 := by rw [← hcc, hcr]
  have d4 : c.wait = [] := by rw [← hcc, hcr]
  have d5 : c.made = 21 := by rw [← hcc, hcr]; exact c4
  have d6 : c.reads = 3 := by rw [← hcc, hcr]; exact c2
  have d7 : c.claims ≤ 6 := by rw [← hcc, hcr]; exact c3
  have d8 : c.ops = [] := by rw [← hcc, hcr]; rfl
  have d9 : gt c 0 = nought := by rw [← hcc, hcr]; exact g0
  have hr : refV c 0 = 0 := by unfold refV; rw [d2, if_neg (by simp), if_pos (by rw [d1]; omega)]
  have hv : readV c 0 = readS c := by unfold readV; rw [if_pos hr]
  refine ⟨q1, ?_, ?_, ?_, ?_, ?_, ?_, ?_⟩
  · show a.wait.length ≤ 5000
    rw [v2, hlen]
    omega
  · rw [hcc]; exact ⟨by rw [d8]; simp, by rw [d5]; omega, by rw [d6]; omega, by omega⟩
  · rw [hcc]; exact hr
  · rw [hcc]
    unfold readB
    rw [if_pos hr, curV_last, d4]
    exact d9
  · rw [hcc, hv]
    exact ⟨by show c.ops.length + _ < _; rw [d8]; simp, by show c.made + _ < _; rw [d5]; omega, by show c.reads + 1 < _; rw [d6]; omega, by show c.claims < _; omega⟩
  · rw [hcc, hv]
    show c.claims < _
    omega
  · rw [hcc, hv]
    exact (mk_done (s := readS c) fine_three (by show (300 : Int) ≤ c.n; rw [d1]; omega) d2 (.inl d3)).1
theorem nm_bytes : (Ytlcdpmjdnihocaa.coF 400 32 60 33 64 = 2 ∧ Ytlcdpmjdnihocaa.coF 400 32 60 33 66 = 2 ∧ Ytlcdpmjdnihocaa.coF 400 32 60 33 68 = 32 ∧ Ytlcdpmjdnihocaa.coF 400 32 60 33 72 = 1 ∧ Ytlcdpmjdnihocaa.coF 400 32 60 33 76 = 38) ∧ (Ytlcdpmjdnihocaa.coF 400 32 60 37 3 = 255 ∧ Ytlcdpmjdnihocaa.coF 400 32 60 37 4 = 127 ∧ Ytlcdpmjdnihocaa.coF 400 32 60 37 5 = 0) ∧ (Ytlcdpmjdnihocaa.coF 400 32 60 38 0 = 1 ∧ Ytlcdpmjdnihocaa.coF 400 32 60 38 2 = 46 ∧ Ytlcdpmjdnihocaa.coF 400 32 60 38 16 = 1 ∧ Ytlcdpmjdnihocaa.coF 400 32 60 38 18 = 46 ∧ Ytlcdpmjdnihocaa.coF 400 32 60 38 19 = 46 ∧ Ytlcdpmjdnihocaa.coF 400 32 60 38 20 = 0) := by
  refine ⟨⟨?_, ?_, ?_, ?_, ?_⟩, ⟨?_, ?_, ?_⟩, ?_, ?_, ?_, ?_, ?_, ?_⟩ <;> kernel_rfl
theorem dataAt_small : YtlcdpmjdnihocaaP.dataAt 400 32 60 = 38 := by
  unfold YtlcdpmjdnihocaaP.dataAt YtlcdpmjdnihocaaP.bitsAt YtlcdpmjdnihocaaP.nodeB YtlcdpmjdnihocaaP.bitsB
  decide
theorem nm_reads {s : St} {s0 : Int → Nat → Int} (h : Dn 400 32 60 400 s s0 0 12) :
    (Room s ∧ readB s 33 = Ytlcdpmjdnihocaa.coF 400 32 60 33 ∧ refV s 33 = 0) ∧ (Room (readV s 33) ∧ readB (readV s 33) 37 = Ytlcdpmjdnihocaa.coF 400 32 60 37 ∧ refV (readV s 33) 37 = 0) ∧ (Room (readV (readV s 33) 37) ∧ readB (readV (readV s 33) 37) 38 = Ytlcdpmjdnihocaa.coF 400 32 60 38 ∧ refV (readV (readV s 33) 37) 38 = 0) ∧ Dn 400 32 60 400 (readV (readV (readV s 33) 37) 38) s0 3 12 := by
  have g : ∀ (t : St) (j : Nat), Dn 400 32 60 400 t s0 j 12 → ∀ k, 33 ≤ k ∧ k ≤ 38 → gt t k = Ytlcdpmjdnihocaa.coF 400 32 60 k := fun t j ht k hk => by
    rw [ht.get k, if_neg (by omega)]
    exact lastV_co fine_small (by rw [dataAt_small]; omega) _
  obtain ⟨a1, a2, a3, _⟩ := h.read (k := 33) (by omega)
  obtain ⟨b1, b2, b3, _⟩ := a3.read (k := 37) (by omega)
  obtain ⟨c1, c2, c3, _⟩ := b3.read (k := 38) (by omega)
  exact ⟨⟨(h.room (by omega) (by omega)).1, a2.trans (g _ _ h 33 (by omega)), a1⟩, ⟨(a3.room (by omega) (by omega)).1, b2.trans (g _ _ a3 37 (by omega)), b1⟩, ⟨(b3.room (by omega) (by omega)).1, c2.trans (g _ _ b3 38 (by omega)), c1⟩, c3⟩
theorem zeroGeoN : ∀ w, (zeroValue 26).run Try.prog w = .ok (.agg #[.int .i64 0, .int .i64 0, .int .i64 0]) w := (zero_of_info (show (Try.prog.info? 26).map (fun i => (i.zero, i.size)) = some (some (.agg #[.int .i64 0, .int .i64 0, .int .i64 0]), 3) by kernel_rfl)).1
set_option maxRecDepth 20000 in
set_option maxHeartbeats 8000000 in
theorem law_names (w : World) : Calls Try.prog 4 #[] w fun e w' => e = .returned (.bool true) ∧ Below w.heap.size w w' := by
  have hnw := new_ok (n := 400) (by decide) w
  have HSt : Hid (∀ ks, Stays (SoP w ks)) := fun ks => soP_stays w ks
  have HMa : Hid (∀ ks V d, Has (SoP w ks) V d (newV 400) → Calls Try.prog 11 #[.pointer (some ⟨d, 0, none⟩), .agg #[.int .i64 401, .int .i64 32, .int .i64 60]] V fun e W' => e = .returned (.int .i64 2) ∧ Has (SoP w ks) W' d (newV 400)) := fun ks V d hV => by
    have h := make_ok (HSt.out ks) hV 401 32 60 (by unfold YtlcdpmjdnihocaaP.I64; omega) (wide_new 400) (by show (0 : Int) < _; omega)
    rwa [(nm_small (newV 400) rfl).1, (nm_small (newV 400) rfl).2] at h
  obtain ⟨GG, hGG⟩ : ∃ GG : Array Value, #[.int .i64 400, .int .i64 32, .int .i64 60] = GG := ⟨_, rfl⟩
  have hGi := ge_info 400 32 60
  rw [hGG] at hGi
  have HGi : Hid _ := hGi
  clear hGi
  have HG2 : Hid ((#[.int .i64 0, .int .i64 0, .int .i64 0] : Array Value).size = GG.size ∧ GG.all (·.oneCell') = true) := by rw [← hGG]; exact ⟨rfl, by simp [Value.oneCell']⟩
  have HMk : Hid (∀ ks V d s, Has (SoP w ks) V d s → Wide s 10000 → s.claims < 1000000000 → Calls Try.prog 11 #[.pointer (some ⟨d, 0, none⟩), .agg GG] V fun e W' => e = .returned (.int .i64 (mkE 400 32 60 s)) ∧ Has (SoP w ks) W' d (mkV 400 32 60 s)) := fun ks V d s hV hW hC => by
    rw [← hGG]
    exact make_ok (HSt.out ks) hV 400 32 60 (by unfold YtlcdpmjdnihocaaP.I64; omega) hW hC
  have HM3 : Hid (∀ ks V d s, Has (SoP w ks) V d s → Wide s 10000 → s.claims < 1000000000 → Calls Try.prog 11 #[.pointer (some ⟨d, 0, none⟩), .agg #[.int .i64 300, .int .i64 32, .int .i64 60]] V fun e W' => e = .returned (.int .i64 (mkE 300 32 60 s)) ∧ Has (SoP w ks) W' d (mkV 300 32 60 s)) := fun ks V d s hV hW hC => make_ok (HSt.out ks) hV 300 32 60 (by unfold YtlcdpmjdnihocaaP.I64; omega) hW hC
  have HMd : Hid (∀ ks V d s, Has (SoP w ks) V d s → Calls Try.prog 13 #[.pointer (some ⟨d, 0, none⟩)] V fun e W' => e = .returned (.int .i64 s.made) ∧ W' = V) := fun ks V d s hV => has_made hV
  have HD1 : Hid (mkE 400 32 60 (newV 400) = 0 ∧ Dn 400 32 60 400 (mkV 400 32 60 (newV 400)) (gt (newV 400)) 0 12) := by
    have h := dn_of (s := newV 400) (n := 400) fine_small rfl (by omega) rfl rfl rfl (by show (0 : Int) ≤ 4; omega) (by show (0 : Nat) ≤ 600; omega) 0 0 rfl rfl
    rw [mkN_small] at h
    exact h
  have hlv := fun u => lives_ok u
  have zg := zeroGeoN
  have HGG : Hid _ := hGG
  have HG0 : Hid ((newV 400).made = 0) := rfl
  clear hGG
  go_enter Try.func4, Try.ntmps4
  go_wp2_with (go_at_call 19; fail)
  refine hnw.mono ?_
  rintro e W1 ⟨L, rfl, hD, hL, hb⟩
  have HH : Hid (Has (SoP w []) W1 L.d (newV 400)) := has_solo hD hL hb (Below.refl _ _) (fun p hp => by simp at hp)
  clear hD hL hb hnw
  generalize L.d = d at *
  obtain ⟨W2, hW2⟩ : ∃ W2, W1.alloc (.cells GG 26) = W2 := ⟨_, rfl⟩
  have HH2 : Hid (Has (SoP w ((W1.heap.size, .cells GG 26) :: [])) W2 d (newV 400)) := hW2 ▸ HH.out.addO _
  have HW2 : Hid _ := hW2
  clear hW2 HH
  rw [← HGG.out] at HW2
  go_upto_region 3 with (first | refine Ytlcdpmjdnihocaa.wpList_stNew 26 rfl _ _ rfl W1.heap.size #[.int .i64 400, .int .i64 32, .int .i64 60] #[.int .i64 0, .int .i64 0, .int .i64 0] 26 (ge_info 400 32 60) rfl (by simp [Value.oneCell']) rfl rfl rfl ?_)
  rw [HW2.out]
  clear HW2 zg
  generalize W1.heap.size = g3 at *
  go_wp2_with (go_at_call 10; fail)
  refine (hlv _).mono ?_
  rintro e W3 ⟨rfl, hb⟩
  have HH3 : Hid (Has (SoP w [(g3, .cells GG 26)]) W3 d (newV 400)) := HH2.out.later (HSt.out _) hb
  clear HH2 hb hlv
  go_wp2_with (go_at_call 11; fail)
  refine (HMa.out _ _ _ HH3.out).mono ?_
  rintro e W4 ⟨rfl, h4⟩
  have HH4 : Hid (Has (SoP w [(g3, .cells GG 26)]) W4 d (newV 400)) := h4
  clear h4 HH3 HMa
  go_wp2_with (go_at_call 13; fail)
  refine (HMd.out _ _ _ _ HH4.out).mono ?_
  rintro e W5 ⟨rfl, he⟩
  obtain rfl := he.symm
  clear he
  rw [HG0.out]
  clear HG0
  go_wp2_with (first | (with_reducible refine Ytlcdpmjdnihocaa.isLoadR 26 ?_; refine Ytlcdpmjdnihocaa.wpList_ldR 26 Try.underlying26 rfl rfl _ rfl g3 rfl GG 26 (0, 0) HGi.out (HH4.out.rowO (List.mem_cons_self ..)) ?_) | (go_at_call 11; fail))
  refine (HMk.out _ _ _ _ HH4.out (wide_new 400) (by show (0 : Int) < _; omega)).mono ?_
  rintro e W6 ⟨rfl, h6⟩
  rw [HD1.out.1]
  have HD2 : Hid _ := HD1.out.2
  have HH6 : Hid (Has (SoP w [(g3, .cells GG 26)]) W6 d (mkV 400 32 60 (newV 400))) := h6
  clear h6 HH4 HD1
  generalize mkV 400 32 60 (newV 400) = s1 at *
  go_wp2_with (go_at_call 13; fail)
  refine (HMd.out _ _ _ _ HH6.out).mono ?_
  rintro e W7 ⟨rfl, he⟩
  obtain rfl := he.symm
  clear he HMd
  rw [HD2.out.made]
  go_upto_region 6 with fail
  obtain ⟨p1, p2, p3, p4⟩ := nm_reads HD2.out
  obtain ⟨b5, b6, b8⟩ := nm_bytes
  generalize Ytlcdpmjdnihocaa.coF 400 32 60 33 = B5 at *
  generalize Ytlcdpmjdnihocaa.coF 400 32 60 37 = B6 at *
  generalize Ytlcdpmjdnihocaa.coF 400 32 60 38 = B8 at *
  have HP1 : Hid _ := p1
  have HP2 : Hid _ := p2
  have HP3 : Hid _ := p3
  have HP4 : Hid _ := p4
  have HB5 : Hid _ := b5
  have HB6 : Hid _ := b6
  have HB8 : Hid _ := b8
  clear p1 p2 p3 p4 b5 b6 b8 HD2
  have hz := zeroBk
  have hbk := buildBk
  have HQ := nm_stop HP4.out
  obtain ⟨Nt, hNt⟩ : ∃ Nt, nought = Nt := ⟨_, rfl⟩
  have HQr : Hid _ := HQ.rd
  rw [hNt] at hz hbk HQr
  have HQ' : Hid _ := HQ
  clear hNt HQ
  have hR := has_read (HSt.out _) HH6.out HP1.out.1 (33 : Int)
  rw [HP1.out.2.1, HP1.out.2.2] at hR
  go_wp2_with (go_at_call 20; fail)
  refine hR.mono ?_
  rintro e Y1 ⟨rfl, hx⟩
  obtain ⟨X1, hX⟩ : ∃ X1, Y1.alloc (.cells (blk B5) 46) = X1 := ⟨_, rfl⟩
  have HX1 : Hid (Has (SoP w ((Y1.heap.size, .cells (blk B5) 46) :: [(g3, .cells GG 26)])) X1 d (readV s1 33)) := hX ▸ hx.addO _
  have HXe : Hid _ := hX
  clear hx hX hR HH6
  go_upto_region 7 with (first | refine wpList_store58_new rfl _ _ rfl B5 Nt Y1.heap.size rfl rfl rfl ?_)
  rw [HXe.out]
  clear HXe
  generalize Y1.heap.size = a5 at *
  generalize readV s1 33 = s2 at *
  have hR := has_read (HSt.out _) HX1.out HP2.out.1 (37 : Int)
  rw [HP2.out.2.1, HP2.out.2.2] at hR
  go_wp2_with (go_at_call 20; fail)
  refine hR.mono ?_
  rintro e Y2 ⟨rfl, hx⟩
  obtain ⟨X2, hX⟩ : ∃ X2, Y2.alloc (.cells (blk B6) 46) = X2 := ⟨_, rfl⟩
  have HX2 : Hid (Has (SoP w ((Y2.heap.size, .cells (blk B6) 46) :: ((a5, .cells (blk B5) 46) :: [(g3, .cells GG 26)]))) X2 d (readV s2 37)) := hX ▸ hx.addO _
  have HXe : Hid _ := hX
  clear hx hX hR HX1
  go_upto_region 8 with (first | refine wpList_store58_new rfl _ _ rfl B6 Nt Y2.heap.size rfl rfl rfl ?_)
  rw [HXe.out]
  clear HXe
  generalize Y2.heap.size = a6 at *
  generalize readV s2 37 = s3 at *
  have hR := has_read (HSt.out _) HX2.out HP3.out.1 (38 : Int)
  rw [HP3.out.2.1, HP3.out.2.2] at hR
  go_wp2_with (go_at_call 20; fail)
  refine hR.mono ?_
  rintro e Y3 ⟨rfl, hx⟩
  obtain ⟨X3, hX⟩ : ∃ X3, Y3.alloc (.cells (blk B8) 46) = X3 := ⟨_, rfl⟩
  have HX3 : Hid (Has (SoP w ((Y3.heap.size, .cells (blk B8) 46) :: ((a6, .cells (blk B6) 46) :: ((a5, .cells (blk B5) 46) :: [(g3, .cells GG 26)])))) X3 d (readV s3 38)) := hX ▸ hx.addO _
  have HXe : Hid _ := hX
  clear hx hX hR HX2
  go_upto_region 9 with (first | refine wpList_store58_new rfl _ _ rfl B8 Nt Y3.heap.size rfl rfl rfl ?_)
  rw [HXe.out]
  clear HXe
  generalize Y3.heap.size = a8 at *
  generalize readV s3 38 = s4 at *
  have c5_64 : X3.cell? ⟨a5, 64, none⟩ = some (.int .u8 2) := (cell_of_row _ _ 64 _ _ _ (HX3.out.rowO (List.mem_cons_of_mem _ (List.mem_cons_of_mem _ (List.mem_cons_self ..))))).trans (by rw [blk_get _ _ (by omega), HB5.out.1])
  have c5_66 : X3.cell? ⟨a5, 66, none⟩ = some (.int .u8 2) := (cell_of_row _ _ 66 _ _ _ (HX3.out.rowO (List.mem_cons_of_mem _ (List.mem_cons_of_mem _ (List.mem_cons_self ..))))).trans (by rw [blk_get _ _ (by omega), HB5.out.2.1])
  have c5_68 : X3.cell? ⟨a5, 68, none⟩ = some (.int .u8 32) := (cell_of_row _ _ 68 _ _ _ (HX3.out.rowO (List.mem_cons_of_mem _ (List.mem_cons_of_mem _ (List.mem_cons_self ..))))).trans (by rw [blk_get _ _ (by omega), HB5.out.2.2.1])
  have c5_72 : X3.cell? ⟨a5, 72, none⟩ = some (.int .u8 1) := (cell_of_row _ _ 72 _ _ _ (HX3.out.rowO (List.mem_cons_of_mem _ (List.mem_cons_of_mem _ (List.mem_cons_self ..))))).trans (by rw [blk_get _ _ (by omega), HB5.out.2.2.2.1])
  have c5_76 : X3.cell? ⟨a5, 76, none⟩ = some (.int .u8 38) := (cell_of_row _ _ 76 _ _ _ (HX3.out.rowO (List.mem_cons_of_mem _ (List.mem_cons_of_mem _ (List.mem_cons_self ..))))).trans (by rw [blk_get _ _ (by omega), HB5.out.2.2.2.2])
  have c6_3 : X3.cell? ⟨a6, 3, none⟩ = some (.int .u8 255) := (cell_of_row _ _ 3 _ _ _ (HX3.out.rowO (List.mem_cons_of_mem _ (List.mem_cons_self ..)))).trans (by rw [blk_get _ _ (by omega), HB6.out.1])
  have c6_4 : X3.cell? ⟨a6, 4, none⟩ = some (.int .u8 127) := (cell_of_row _ _ 4 _ _ _ (HX3.out.rowO (List.mem_cons_of_mem _ (List.mem_cons_self ..)))).trans (by rw [blk_get _ _ (by omega), HB6.out.2.1])
  have c6_5 : X3.cell? ⟨a6, 5, none⟩ = some (.int .u8 0) := (cell_of_row _ _ 5 _ _ _ (HX3.out.rowO (List.mem_cons_of_mem _ (List.mem_cons_self ..)))).trans (by rw [blk_get _ _ (by omega), HB6.out.2.2])
  have c8_0 : X3.cell? ⟨a8, 0, none⟩ = some (.int .u8 1) := (cell_of_row _ _ 0 _ _ _ (HX3.out.rowO (List.mem_cons_self ..))).trans (by rw [blk_get _ _ (by omega), HB8.out.1])
  have c8_2 : X3.cell? ⟨a8, 2, none⟩ = some (.int .u8 46) := (cell_of_row _ _ 2 _ _ _ (HX3.out.rowO (List.mem_cons_self ..))).trans (by rw [blk_get _ _ (by omega), HB8.out.2.1])
  have c8_16 : X3.cell? ⟨a8, 16, none⟩ = some (.int .u8 1) := (cell_of_row _ _ 16 _ _ _ (HX3.out.rowO (List.mem_cons_self ..))).trans (by rw [blk_get _ _ (by omega), HB8.out.2.2.1])
  have c8_18 : X3.cell? ⟨a8, 18, none⟩ = some (.int .u8 46) := (cell_of_row _ _ 18 _ _ _ (HX3.out.rowO (List.mem_cons_self ..))).trans (by rw [blk_get _ _ (by omega), HB8.out.2.2.2.1])
  have c8_19 : X3.cell? ⟨a8, 19, none⟩ = some (.int .u8 46) := (cell_of_row _ _ 19 _ _ _ (HX3.out.rowO (List.mem_cons_self ..))).trans (by rw [blk_get _ _ (by omega), HB8.out.2.2.2.2.1])
  have c8_20 : X3.cell? ⟨a8, 20, none⟩ = some (.int .u8 0) := (cell_of_row _ _ 20 _ _ _ (HX3.out.rowO (List.mem_cons_self ..))).trans (by rw [blk_get _ _ (by omega), HB8.out.2.2.2.2.2])
  clear HB5 HB6 HB8
  go_upto_region 10 with fail
  clear c5_64 c5_66 c5_68 c5_72 c5_76 c6_3 c6_4 c6_5 c8_0 c8_2 c8_16 c8_18 c8_19 c8_20
  go_wp2_with (go_at_call 14; fail)
  refine (has_fuse (HSt.out _) HX3.out 9 (by omega)).mono ?_
  rintro e X4 ⟨rfl, h4⟩
  have HX4 : Hid (Has (SoP w ((a8, .cells (blk B8) 46) :: ((a6, .cells (blk B6) 46) :: ((a5, .cells (blk B5) 46) :: [(g3, .cells GG 26)])))) X4 d (fuseV s4 9)) := h4
  have HWd : Hid (Wide (fuseV s4 9) 10000 ∧ (fuseV s4 9).claims < 1000000000) := ⟨wide_fuse (HP4.out.room (by omega) (by omega)).2.1 9, fuse_claims (HP4.out.room (by omega) (by omega)).2.2 9⟩
  clear h4 HX3 HP4
  go_wp2_with (first | (with_reducible refine Ytlcdpmjdnihocaa.isLoadR 26 ?_; refine Ytlcdpmjdnihocaa.wpList_ldR 26 Try.underlying26 rfl rfl _ rfl g3 rfl GG 26 (0, 0) HGi.out (HX4.out.rowO (List.mem_cons_of_mem _ (List.mem_cons_of_mem _ (List.mem_cons_of_mem _ (List.mem_cons_self ..))))) ?_) | (go_at_call 11; fail))
  refine (HMk.out _ _ _ _ HX4.out HWd.out.1 HWd.out.2).mono ?_
  rintro e X5 ⟨rfl, h5⟩
  have HX5 : Hid (Has (SoP w ((a8, .cells (blk B8) 46) :: ((a6, .cells (blk B6) 46) :: ((a5, .cells (blk B5) 46) :: [(g3, .cells GG 26)])))) X5 d (mkV 400 32 60 (fuseV s4 9))) := h5
  rw [HQ'.out.e]
  clear h5 HX4 HWd HMk
  generalize mkV 400 32 60 (fuseV s4 9) = s5 at *
  go_wp2_with (go_at_call 15; fail)
  refine (has_crash_le (kl := []) (HSt.out _) HX5.out ⟨none, 0, rfl, fun h => absurd h (by simp)⟩ (by have := HQ'.out.wait; omega) (by simp)).mono ?_
  rintro e X6 ⟨rfl, h6⟩
  have HX6 : Hid (Has (SoP w ((a8, .cells (blk B8) 46) :: ((a6, .cells (blk B6) 46) :: ((a5, .cells (blk B5) 46) :: [(g3, .cells GG 26)])))) X6 d (crashS s5 [])) := h6
  have HQ2 : Hid (Room (crashS s5 []) ∧ readB (crashS s5 []) 0 = Nt ∧ refV (crashS s5 []) 0 = 0) := ⟨HQ'.out.room, HQr.out, HQ'.out.ref⟩
  have HQ3 : Hid (Wide (readV (crashS s5 []) 0) 10000 ∧ (readV (crashS s5 []) 0).claims < 1000000000 ∧ mkE 300 32 60 (readV (crashS s5 []) 0) = 0) := ⟨HQ'.out.wide, HQ'.out.claims, HQ'.out.again⟩
  clear h6 HX5 HQ' HQr
  generalize crashS s5 [] = s6 at *
  go_upto_region 12 with fail
  have hR := has_read (HSt.out _) HX6.out HQ2.out.1 (0 : Int)
  rw [HQ2.out.2.1, HQ2.out.2.2] at hR
  go_wp2_with (go_at_call 20; fail)
  refine hR.mono ?_
  rintro e Y7 ⟨rfl, hx⟩
  obtain ⟨X7, hX⟩ : ∃ X7, Y7.alloc (.cells (blk Nt) 46) = X7 := ⟨_, rfl⟩
  have HX7 : Hid (Has (SoP w ((Y7.heap.size, .cells (blk Nt) 46) :: ((a8, .cells (blk B8) 46) :: ((a6, .cells (blk B6) 46) :: ((a5, .cells (blk B5) 46) :: [(g3, .cells GG 26)]))))) X7 d (readV s6 0)) := hX ▸ hx.addO _
  have HXe : Hid _ := hX
  clear hx hX hR HX6
  go_upto_region 13 with (first | refine wpList_store58_new rfl _ _ rfl Nt Nt Y7.heap.size rfl rfl rfl ?_)
  rw [HXe.out]
  clear HXe
  generalize Y7.heap.size = a12 at *
  generalize readV s6 0 = s7 at *
  have hse : sameB Nt Nt = true := sameB_self Nt
  have hr12 : X7.heap[a12]? = some (.cells (blk Nt) 46) := HX7.out.rowO (List.mem_cons_self ..)
  have HR12 : Hid _ := hr12
  have HBi : Hid ((Try.prog.info? 46).map (·.size) = some (blk Nt).size) := by show _ = _; rw [blk_size]; exact Ytlcdpmjdnihocaa.size77
  clear hr12
  go_wp2_with (first | refine wpList_build58w rfl rfl hbk ?_ | refine wpList_eq58 rfl _ _ rfl Nt Nt true rfl rfl hse ?_ | (with_reducible refine Ytlcdpmjdnihocaa.isLoadR 46 ?_; refine Ytlcdpmjdnihocaa.wpList_ldR 46 Try.underlying46 rfl rfl _ rfl a12 rfl (blk Nt) 46 (0, 0) HBi.out HR12.out ?_) | (go_at_call 11; fail))
  refine (HM3.out _ _ _ _ HX7.out HQ3.out.1 HQ3.out.2.1).mono ?_
  rintro e X8 ⟨rfl, h8⟩
  rw [HQ3.out.2.2]
  have HBel : Hid (Below w.heap.size w X8) := h8.belowO
  clear h8 HX7 HR12 HQ3 HM3 hse hbk hz
  go_wp2_with fail
  go_ret
  exact ⟨rfl, HBel.out⟩
end Go.Proofs.YtlcdpmjdnihocaaD
