/- Crash: of what is pending that is held which is kept, in order; nothing is pending then, there is no fuse, nobody's claim; for every disk and every choice. -/
import Derived.Test.YtembocfghkmieaaBarrier
namespace Go.Proofs.Ytembocfghkmieaa
open Go.RowKit
variable {w : World} {L : Loc} {s : St}

/-- v is a list of bools in memory. -/
def BoolsAt (w : World) (v : Value) (l : List Bool) : Prop := ∃ p c, v = .slice p l.length c ∧ (0 < l.length → ∃ b off, p = some ⟨b, off, none⟩ ∧ ∀ i x, l[i]? = some x → w.cell? ⟨b, off + i, none⟩ = some (.bool x))
theorem BoolsAt.kept {w w' : World} {v : Value} {l : List Bool} {T : Nat → Prop} (h : BoolsAt w v l) (hf : Fr T w w') (hT : ∀ b x off, w.cell? ⟨b, off, none⟩ = some (.bool x) → ¬ T b) : BoolsAt w' v l := by
  obtain ⟨p, c, h1, h2⟩ := h
  refine ⟨p, c, h1, fun hl => ?_⟩
  obtain ⟨b, off, h3, h4⟩ := h2 hl
  refine ⟨b, off, h3, fun i x hx => ?_⟩
  have h5 := h4 i x hx
  have hlt : b < w.heap.size := by
    by_cases q : b < w.heap.size
    · exact q
    · unfold World.cell? at h5
      simp only [Array.getElem?_eq_none (show w.heap.size ≤ b by omega)] at h5
      simp at h5
  rw [← h5]
  exact World.cell?_of_block (hf.block b hlt (hT b x _ h5))
/-- Those that are kept. -/
def keptL : List Cel → List Bool → List Cel
  | c :: t, true :: k => c :: keptL t k
  | _ :: t, false :: k => keptL t k
  | _, _ => []
theorem keptL_snoc (c : Cel) (b : Bool) : ∀ (l : List Cel) (k : List Bool), l.length = k.length → keptL (l ++ [c]) (k ++ [b]) = keptL l k ++ (if b then [c] else [])
  | [], [], _ => by cases b <;> rfl
  | x :: l, y :: k, h => by
    have ih := keptL_snoc c b l k (by simpa using h)
    cases y
    · exact ih
    · show x :: keptL (l ++ [c]) (k ++ [b]) = _
      rw [ih]; rfl
  | [], _ :: _, h => by simp at h
  | _ :: _, [], h => by simp at h
theorem keptL_take : ∀ (l : List Cel) (k : List Bool) (n : Nat), l.length ≤ n ∨ k.length ≤ n → keptL (l.take n) (k.take n) = keptL l k
  | [], k, n, _ => by simp [keptL]
  | x :: l, [], n, _ => by cases n <;> simp [keptL]
  | x :: l, y :: k, 0, h => by simp at h
  | x :: l, y :: k, n + 1, h => by
    have ih := keptL_take l k n (by simpa using h)
    cases y
    · exact ih
    · show x :: keptL (l.take n) (k.take n) = x :: keptL l k
      rw [ih]
/-- Behind the power's going. -/
def crashS (s : St) (k : List Bool) : St := { holdAll s (keptL s.wait k) with done := [], wait := [], fuse := -1, stopped := false, claimed := false }
theorem crashS_ok {k : List Bool} (h : Ok (holdAll s (keptL s.wait k))) : Ok (crashS s k) :=
  ⟨h.n, h.held, fun c hc => by simp [crashS] at hc, ⟨by show (-1 : Int) ≤ -1; omega, by show (-1 : Int) ≤ _; omega⟩, h.made, h.reads, h.claims⟩
set_option maxRecDepth 20000 in
theorem crash_none {v : Value} (h : NoneAt w v) (kv : Value) : Calls Try.prog 35 #[v, kv] w fun e w' => e = .returned (.int .i64 1) ∧ w' = w := by
  go_enter Try.func35, Try.ntmps35
  go_wp2_with (first | (go_at_call 64; refine (none_yes h).mono ?_; rintro e W ⟨rfl, rfl⟩))
  go_ret
  exact ⟨rfl, rfl⟩
theorem bool_no_map {w : World} {b hb off : Nat} {m : Int → Option Value} {x : Bool} (h : w.cell? ⟨b, off, none⟩ = some (.bool x)) (hm : MapIs Try.prog 3 w hb m) : b ≠ hb := fun e => by
  obtain ⟨es, ck, hh⟩ := hm.isMap
  rw [e] at h
  unfold World.cell? at h
  simp only [hh] at h
  simp at h
set_option maxRecDepth 20000 in
set_option maxHeartbeats 2000000 in
theorem crash_of (h : DiskAt w L s) {kv : Value} {kl : List Bool} (hkv : BoolsAt w kv kl) (hwl : s.wait.length < 68719476736) (hkl : kl.length < 9223372036854775807) :
    Calls Try.prog 35 #[.pointer (some ⟨L.d, 0, none⟩), kv] w fun e w' => e = .returned (.int .i64 0) ∧ ∃ L', DiskAt w' L' (crashS s kl) ∧ Goes w w' L L' := by
  have h0 := h.c0
  have hP := pending_of h
  obtain ⟨p, cp, hp1, hp2, hp3⟩ := h.pend
  rw [hp1] at hP
  obtain ⟨q, cq, rfl, hq⟩ := hkv
  have HD : Hid (DiskAt w.drew L s) := h.fr (Fr.drew (T := fun _ => False) w) fun _ _ q => q
  have HG2 : Hid (Goes w w.drew L L) := ⟨rfl, fun _ q => .inl q, Fr.drew w⟩
  have HP : Hid (0 < s.wait.length → ∃ g, L.hv.ownBlock = some g ∧ p = some ⟨g, s.done.length * 1026, none⟩) := hp3
  have HK : Hid (0 < kl.length → ∃ b off, q = some ⟨b, off, none⟩ ∧ ∀ i x, kl[i]? = some x → w.cell? ⟨b, off + i, none⟩ = some (.bool x)) := hq
  have hM := h.held
  clear h hp1 hp3 hq
  generalize hm : s.wait.length = m at *
  generalize hn : kl.length = n at *
  rcases Nat.lt_or_ge n m with hmn | hmn
  · have hmn' : (n : Int) < m := by omega
    go_enter Try.func35, Try.ntmps35
    go_wp2_with (first | (go_at_call 64; refine (none_no h0).mono ?_; rintro e W ⟨rfl, he⟩; obtain rfl := he.symm) | (go_at_call 68; refine hP.mono ?_; rintro e W1 ⟨rfl, rfl⟩))
    clear hP
    generalize hV : w.drew = V at *
    go_loopw [16] (fun s16 wx => ∃ k : Nat, k ≤ n ∧ s16 = .int .i64 k ∧ Hid (DiskAt wx L (holdAll s (keptL (s.wait.take k) (kl.take k)))) ∧ Hid (Goes w wx L L) ∧ Hid (Fr (fun i => i = L.hb) w wx)) (fun s16 _ => n - (intOf s16).toNat)
    case atStart => exact ⟨0, by omega, rfl, HD.out, HG2.out, by rw [← hV]; exact Fr.drew w⟩
    case round =>
      obtain ⟨k, hk, rfl, HDk, HGk, HFk⟩ := hrel
      by_cases hk2 : (k : Int) < n
      · have hkw : k < s.wait.length := by omega
        have hkk : k < kl.length := by omega
        have hkm : (k : Int) < (m : Int) := by omega
        have hkn : (k : Int) < (n : Int) := by omega
        obtain ⟨g, hg, rfl⟩ := HP.out (by omega)
        obtain ⟨b, off, rfl, hcell⟩ := HK.out (by omega)
        have hc : s.wait[k]? = some s.wait[k] := List.getElem?_eq_getElem hkw
        have hx : kl[k]? = some kl[k] := List.getElem?_eq_getElem hkk
        generalize s.wait[k] = c at hc
        generalize kl[k] = x at hx
        have hcx := hcell k x hx
        have hbl : b ≠ L.hb := bool_no_map hcx hM
        have hblt : b < w.heap.size := by
          by_cases q : b < w.heap.size
          · exact q
          · unfold World.cell? at hcx
            simp only [Array.getElem?_eq_none (show w.heap.size ≤ b by omega)] at hcx
            simp at hcx
        have hcx' : wr.cell? ⟨b, off + k, none⟩ = some (.bool x) := (World.cell?_of_block (HFk.out.block b hblt hbl)).trans hcx
        have hks := keptL_snoc c x (s.wait.take k) (kl.take k) (by rw [List.length_take, List.length_take]; omega)
        rw [← take_snoc hc, ← show kl.take (k + 1) = kl.take k ++ [x] by rw [List.take_add_one, hx]; rfl] at hks
        have hop : (holdAll s (keptL (s.wait.take k) (kl.take k))).ops[s.done.length + k]? = some (wrec c) := by rw [holdAll_ops]; exact ops_wait s hc
        have HDd : DiskAt wr.drew L (holdAll s (keptL (s.wait.take k) (kl.take k))) := HDk.out.fr (Fr.drew (T := fun _ => False) wr) fun _ _ q => q
        have hpos := HDk.out.histPos hg hop
        have hblk := HDd.histBlk hg hop
        have hcw := HDd.ok.wait c (by rw [holdAll_wait]; exact List.mem_of_getElem? hc)
        rw [holdAll_n] at hcw
        have HH := hold_of HDd (by rw [holdAll_n]; exact hcw.1) hcw.2 hblk
        have e1 : (s.done.length + k) * 1026 = s.done.length * 1026 + k * 1026 := Nat.add_mul _ _ _
        rw [e1] at hpos HH
        have hpos' : wr.cell? ⟨g, s.done.length * 1026 + k * 1026 + 1, none⟩ = some (.int .i64 c.1) := hpos
        cases x
        · rw [if_neg (by simp), List.append_nil] at hks
          have HD2 : Hid (DiskAt wr L (holdAll s (keptL (s.wait.take (k + 1)) (kl.take (k + 1))))) := hks ▸ HDk.out
          clear HH hpos hblk hop hc hx e1 HDk hcw HDd hks hcx hcell
          go_wp2
          exact ⟨⟨k + 1, by omega, by go_num, HD2.out, HGk.out, HFk.out⟩, by simp [intOf]; omega⟩
        · rw [if_pos rfl] at hks
          rw [← holdAll_snoc, ← hks] at HH
          have HH2 : Hid (Calls Try.prog 61 #[.pointer (some ⟨L.d, 0, none⟩), .int .i64 c.1, .pointer (some ⟨g, s.done.length * 1026 + k * 1026 + 2, none⟩)] wr.drew fun e w' => e = .returned (.tuple #[]) ∧ DiskAt w' L (holdAll s (keptL (s.wait.take (k + 1)) (kl.take (k + 1)))) ∧ Goes w w' L L ∧ Fr (fun i => i = L.hb) w w') :=
            Calls.mono HH fun e w' ⟨h1, h2, h3⟩ => ⟨h1, h2, (HGk.out.trans ⟨rfl, fun _ q => .inl q, Fr.drew wr⟩).trans (Goes.hold h3), (HFk.out.trans (Fr.drew wr) fun _ _ q => q).trans h3 fun _ _ q => q⟩
          generalize s.done.length * 1026 = D at *
          clear HH hpos hblk hop hc hx e1 HDk hcw HDd HGk hks hcx hcell HFk
          go_wp2
          go_still_tail 10, (by kernel_rfl)
          change wpList _ _ _ _ _ (World.drew _)
          go_wp2_with (go_at_call 61; fail)
          refine HH2.out.mono ?_
          rintro e W2 ⟨rfl, hD2, hG2, hF2⟩
          have HD2 : Hid (DiskAt W2 L (holdAll s (keptL (s.wait.take (k + 1)) (kl.take (k + 1))))) := hD2
          have HG3 : Hid (Goes w W2 L L) := hG2
          have HF3 : Hid (Fr (fun i => i = L.hb) w W2) := hF2
          clear hD2 hG2 HH2 hF2
          go_wp2
          exact ⟨⟨k + 1, by omega, by go_num, HD2.out, HG3.out, HF3.out⟩, by simp [intOf]; omega⟩
      · obtain rfl : k = n := by omega
        have hD := HDk.out
        rw [keptL_take _ _ _ (by omega)] at hD
        have hG := HGk.out
        clear HDk HGk HP HK HFk
        have hok := crashS_ok (k := kl) hD.ok
        have k3 := hD.c3
        have f3 := hD.free 3
        obtain ⟨p', c', h1, _⟩ := hD.shape
        rw [h1] at k3
        have hR6 : RawAt (wr.setCell ⟨L.d, 3, none⟩ (.slice none 0 0)) ⟨L.d, L.hb, L.lb, .slice none 0 0⟩ ((dkRow L (holdAll s (keptL s.wait kl))).setIfInBounds 3 (.slice none 0 0)) (heldV (holdAll s (keptL s.wait kl))) (lateV (holdAll s (keptL s.wait kl))) [] := by
          have hr := hD.raw.cell 3 (.slice none 0 0)
          exact ⟨hr.row, hr.held, hr.late, World.ownsRow_nil _ 0 108 1026, hr.ne⟩
        have hF6 : Fr (fun i => i = L.d) wr (wr.setCell ⟨L.d, 3, none⟩ (.slice none 0 0)) := Fr.setCell wr L.d 3 _
        clear hD
        go_wp2_with (go_at_call 72; fail)
        generalize wr.setCell ⟨L.d, 3, none⟩ (.slice none 0 0) = W6 at *
        refine (nothing_of (d := L.d) (n := (holdAll s (keptL s.wait kl)).n) (hb := L.hb) (p := none) (m := 0) (c := 0) (bh := ((holdAll s (keptL s.wait kl)).done.length : Int)) (lb := L.lb) (fu := (holdAll s (keptL s.wait kl)).fuse) (st := (holdAll s (keptL s.wait kl)).stopped) (ma := (holdAll s (keptL s.wait kl)).made) (re := (holdAll s (keptL s.wait kl)).reads) (cl := (holdAll s (keptL s.wait kl)).claims) (cd := (holdAll s (keptL s.wait kl)).claimed) hR6.row).mono ?_
        rintro e W7 ⟨rfl, hrow7, hM7, hF7⟩
        have hlb : L.hb < W6.heap.size := hR6.held.lt
        have hR7 := (hR6.rowTo hrow7 hF7).lateNew (b := W6.heap.size) (by show L.hb ≠ _; omega) hM7
        have c6 : W7.cell? ⟨L.d, 6, none⟩ = some (.int .i64 (holdAll s (keptL s.wait kl)).fuse) := Joins.cell_of_block hrow7 6
        have c7 : W7.cell? ⟨L.d, 7, none⟩ = some (.bool (holdAll s (keptL s.wait kl)).stopped) := Joins.cell_of_block hrow7 7
        have c11 : W7.cell? ⟨L.d, 11, none⟩ = some (.bool (holdAll s (keptL s.wait kl)).claimed) := Joins.cell_of_block hrow7 11
        have f6 : W7.frozen? ⟨L.d, 6, none⟩ = false := Joins.unfrozen_of_block hrow7 6
        have f7 : W7.frozen? ⟨L.d, 7, none⟩ = false := Joins.unfrozen_of_block hrow7 7
        have f11 : W7.frozen? ⟨L.d, 11, none⟩ = false := Joins.unfrozen_of_block hrow7 11
        have hD8 : Hid (DiskAt (((W7.setCell ⟨L.d, 6, none⟩ (.int .i64 (-1))).setCell ⟨L.d, 7, none⟩ (.bool false)).setCell ⟨L.d, 11, none⟩ (.bool false)) ⟨L.d, L.hb, W6.heap.size, .slice none 0 0⟩ (crashS s kl)) :=
          RawAt.disk (((hR7.cell 6 (.int .i64 (-1))).cell 7 (.bool false)).cell 11 (.bool false)) hok
        have hF8 : Fr (fun i => i = L.d) wr (((W7.setCell ⟨L.d, 6, none⟩ (.int .i64 (-1))).setCell ⟨L.d, 7, none⟩ (.bool false)).setCell ⟨L.d, 11, none⟩ (.bool false)) :=
          (hF6.trans hF7 fun _ _ q => q).trans (((Fr.setCell _ L.d 6 _).trans (Fr.setCell _ L.d 7 _) fun _ _ q => q).trans (Fr.setCell _ L.d 11 _) fun _ _ q => q) fun _ _ q => q
        have hG8 : Hid (Goes w (((W7.setCell ⟨L.d, 6, none⟩ (.int .i64 (-1))).setCell ⟨L.d, 7, none⟩ (.bool false)).setCell ⟨L.d, 11, none⟩ (.bool false)) L ⟨L.d, L.hb, W6.heap.size, .slice none 0 0⟩) := by
          refine hG.trans (Goes.of (T := fun i => i = L.d) rfl (fun i hi => ?_) hF8 fun i _ q => .inl q)
          rcases hi with q | q | q | q
          · exact .inl (.inl q)
          · exact .inl (.inr (.inl q))
          · have q' : i = W6.heap.size := q
            have := hF6.size
            exact .inr (by omega)
          · simp [Value.ownBlock] at q
        clear hR7 hrow7 hM7 hF7 hR6 hF6 hG hok hF8
        go_wp2
        go_ret
        exact ⟨rfl, _, hD8.out, hG8.out⟩
  · have hmn' : (m : Int) ≤ n := by omega
    go_enter Try.func35, Try.ntmps35
    go_wp2_with (first | (go_at_call 64; refine (none_no h0).mono ?_; rintro e W ⟨rfl, he⟩; obtain rfl := he.symm) | (go_at_call 68; refine hP.mono ?_; rintro e W1 ⟨rfl, rfl⟩))
    clear hP
    generalize hV : w.drew = V at *
    go_loopw [16] (fun s16 wx => ∃ k : Nat, k ≤ m ∧ s16 = .int .i64 k ∧ Hid (DiskAt wx L (holdAll s (keptL (s.wait.take k) (kl.take k)))) ∧ Hid (Goes w wx L L) ∧ Hid (Fr (fun i => i = L.hb) w wx)) (fun s16 _ => m - (intOf s16).toNat)
    case atStart => exact ⟨0, by omega, rfl, HD.out, HG2.out, by rw [← hV]; exact Fr.drew w⟩
    case round =>
      obtain ⟨k, hk, rfl, HDk, HGk, HFk⟩ := hrel
      by_cases hk2 : (k : Int) < m
      · have hkw : k < s.wait.length := by omega
        have hkk : k < kl.length := by omega
        have hkm : (k : Int) < (m : Int) := by omega
        have hkn : (k : Int) < (n : Int) := by omega
        obtain ⟨g, hg, rfl⟩ := HP.out (by omega)
        obtain ⟨b, off, rfl, hcell⟩ := HK.out (by omega)
        have hc : s.wait[k]? = some s.wait[k] := List.getElem?_eq_getElem hkw
        have hx : kl[k]? = some kl[k] := List.getElem?_eq_getElem hkk
        generalize s.wait[k] = c at hc
        generalize kl[k] = x at hx
        have hcx := hcell k x hx
        have hbl : b ≠ L.hb := bool_no_map hcx hM
        have hblt : b < w.heap.size := by
          by_cases q : b < w.heap.size
          · exact q
          · unfold World.cell? at hcx
            simp only [Array.getElem?_eq_none (show w.heap.size ≤ b by omega)] at hcx
            simp at hcx
        have hcx' : wr.cell? ⟨b, off + k, none⟩ = some (.bool x) := (World.cell?_of_block (HFk.out.block b hblt hbl)).trans hcx
        have hks := keptL_snoc c x (s.wait.take k) (kl.take k) (by rw [List.length_take, List.length_take]; omega)
        rw [← take_snoc hc, ← show kl.take (k + 1) = kl.take k ++ [x] by rw [List.take_add_one, hx]; rfl] at hks
        have hop : (holdAll s (keptL (s.wait.take k) (kl.take k))).ops[s.done.length + k]? = some (wrec c) := by rw [holdAll_ops]; exact ops_wait s hc
        have HDd : DiskAt wr.drew L (holdAll s (keptL (s.wait.take k) (kl.take k))) := HDk.out.fr (Fr.drew (T := fun _ => False) wr) fun _ _ q => q
        have hpos := HDk.out.histPos hg hop
        have hblk := HDd.histBlk hg hop
        have hcw := HDd.ok.wait c (by rw [holdAll_wait]; exact List.mem_of_getElem? hc)
        rw [holdAll_n] at hcw
        have HH := hold_of HDd (by rw [holdAll_n]; exact hcw.1) hcw.2 hblk
        have e1 : (s.done.length + k) * 1026 = s.done.length * 1026 + k * 1026 := Nat.add_mul _ _ _
        rw [e1] at hpos HH
        have hpos' : wr.cell? ⟨g, s.done.length * 1026 + k * 1026 + 1, none⟩ = some (.int .i64 c.1) := hpos
        cases x
        · rw [if_neg (by simp), List.append_nil] at hks
          have HD2 : Hid (DiskAt wr L (holdAll s (keptL (s.wait.take (k + 1)) (kl.take (k + 1))))) := hks ▸ HDk.out
          clear HH hpos hblk hop hc hx e1 HDk hcw HDd hks hcx hcell
          go_wp2
          exact ⟨⟨k + 1, by omega, by go_num, HD2.out, HGk.out, HFk.out⟩, by simp [intOf]; omega⟩
        · rw [if_pos rfl] at hks
          rw [← holdAll_snoc, ← hks] at HH
          have HH2 : Hid (Calls Try.prog 61 #[.pointer (some ⟨L.d, 0, none⟩), .int .i64 c.1, .pointer (some ⟨g, s.done.length * 1026 + k * 1026 + 2, none⟩)] wr.drew fun e w' => e = .returned (.tuple #[]) ∧ DiskAt w' L (holdAll s (keptL (s.wait.take (k + 1)) (kl.take (k + 1)))) ∧ Goes w w' L L ∧ Fr (fun i => i = L.hb) w w') :=
            Calls.mono HH fun e w' ⟨h1, h2, h3⟩ => ⟨h1, h2, (HGk.out.trans ⟨rfl, fun _ q => .inl q, Fr.drew wr⟩).trans (Goes.hold h3), (HFk.out.trans (Fr.drew wr) fun _ _ q => q).trans h3 fun _ _ q => q⟩
          generalize s.done.length * 1026 = D at *
          clear HH hpos hblk hop hc hx e1 HDk hcw HDd HGk hks hcx hcell HFk
          go_wp2
          go_still_tail 10, (by kernel_rfl)
          change wpList _ _ _ _ _ (World.drew _)
          go_wp2_with (go_at_call 61; fail)
          refine HH2.out.mono ?_
          rintro e W2 ⟨rfl, hD2, hG2, hF2⟩
          have HD2 : Hid (DiskAt W2 L (holdAll s (keptL (s.wait.take (k + 1)) (kl.take (k + 1))))) := hD2
          have HG3 : Hid (Goes w W2 L L) := hG2
          have HF3 : Hid (Fr (fun i => i = L.hb) w W2) := hF2
          clear hD2 hG2 HH2 hF2
          go_wp2
          exact ⟨⟨k + 1, by omega, by go_num, HD2.out, HG3.out, HF3.out⟩, by simp [intOf]; omega⟩
      · obtain rfl : k = m := by omega
        have hD := HDk.out
        rw [keptL_take _ _ _ (by omega)] at hD
        have hG := HGk.out
        clear HDk HGk HP HK HFk
        have hok := crashS_ok (k := kl) hD.ok
        have k3 := hD.c3
        have f3 := hD.free 3
        obtain ⟨p', c', h1, _⟩ := hD.shape
        rw [h1] at k3
        have hR6 : RawAt (wr.setCell ⟨L.d, 3, none⟩ (.slice none 0 0)) ⟨L.d, L.hb, L.lb, .slice none 0 0⟩ ((dkRow L (holdAll s (keptL s.wait kl))).setIfInBounds 3 (.slice none 0 0)) (heldV (holdAll s (keptL s.wait kl))) (lateV (holdAll s (keptL s.wait kl))) [] := by
          have hr := hD.raw.cell 3 (.slice none 0 0)
          exact ⟨hr.row, hr.held, hr.late, World.ownsRow_nil _ 0 108 1026, hr.ne⟩
        have hF6 : Fr (fun i => i = L.d) wr (wr.setCell ⟨L.d, 3, none⟩ (.slice none 0 0)) := Fr.setCell wr L.d 3 _
        clear hD
        go_wp2_with (go_at_call 72; fail)
        generalize wr.setCell ⟨L.d, 3, none⟩ (.slice none 0 0) = W6 at *
        refine (nothing_of (d := L.d) (n := (holdAll s (keptL s.wait kl)).n) (hb := L.hb) (p := none) (m := 0) (c := 0) (bh := ((holdAll s (keptL s.wait kl)).done.length : Int)) (lb := L.lb) (fu := (holdAll s (keptL s.wait kl)).fuse) (st := (holdAll s (keptL s.wait kl)).stopped) (ma := (holdAll s (keptL s.wait kl)).made) (re := (holdAll s (keptL s.wait kl)).reads) (cl := (holdAll s (keptL s.wait kl)).claims) (cd := (holdAll s (keptL s.wait kl)).claimed) hR6.row).mono ?_
        rintro e W7 ⟨rfl, hrow7, hM7, hF7⟩
        have hlb : L.hb < W6.heap.size := hR6.held.lt
        have hR7 := (hR6.rowTo hrow7 hF7).lateNew (b := W6.heap.size) (by show L.hb ≠ _; omega) hM7
        have c6 : W7.cell? ⟨L.d, 6, none⟩ = some (.int .i64 (holdAll s (keptL s.wait kl)).fuse) := Joins.cell_of_block hrow7 6
        have c7 : W7.cell? ⟨L.d, 7, none⟩ = some (.bool (holdAll s (keptL s.wait kl)).stopped) := Joins.cell_of_block hrow7 7
        have c11 : W7.cell? ⟨L.d, 11, none⟩ = some (.bool (holdAll s (keptL s.wait kl)).claimed) := Joins.cell_of_block hrow7 11
        have f6 : W7.frozen? ⟨L.d, 6, none⟩ = false := Joins.unfrozen_of_block hrow7 6
        have f7 : W7.frozen? ⟨L.d, 7, none⟩ = false := Joins.unfrozen_of_block hrow7 7
        have f11 : W7.frozen? ⟨L.d, 11, none⟩ = false := Joins.unfrozen_of_block hrow7 11
        have hD8 : Hid (DiskAt (((W7.setCell ⟨L.d, 6, none⟩ (.int .i64 (-1))).setCell ⟨L.d, 7, none⟩ (.bool false)).setCell ⟨L.d, 11, none⟩ (.bool false)) ⟨L.d, L.hb, W6.heap.size, .slice none 0 0⟩ (crashS s kl)) :=
          RawAt.disk (((hR7.cell 6 (.int .i64 (-1))).cell 7 (.bool false)).cell 11 (.bool false)) hok
        have hF8 : Fr (fun i => i = L.d) wr (((W7.setCell ⟨L.d, 6, none⟩ (.int .i64 (-1))).setCell ⟨L.d, 7, none⟩ (.bool false)).setCell ⟨L.d, 11, none⟩ (.bool false)) :=
          (hF6.trans hF7 fun _ _ q => q).trans (((Fr.setCell _ L.d 6 _).trans (Fr.setCell _ L.d 7 _) fun _ _ q => q).trans (Fr.setCell _ L.d 11 _) fun _ _ q => q) fun _ _ q => q
        have hG8 : Hid (Goes w (((W7.setCell ⟨L.d, 6, none⟩ (.int .i64 (-1))).setCell ⟨L.d, 7, none⟩ (.bool false)).setCell ⟨L.d, 11, none⟩ (.bool false)) L ⟨L.d, L.hb, W6.heap.size, .slice none 0 0⟩) := by
          refine hG.trans (Goes.of (T := fun i => i = L.d) rfl (fun i hi => ?_) hF8 fun i _ q => .inl q)
          rcases hi with q | q | q | q
          · exact .inl (.inl q)
          · exact .inl (.inr (.inl q))
          · have q' : i = W6.heap.size := q
            have := hF6.size
            exact .inr (by omega)
          · simp [Value.ownBlock] at q
        clear hR7 hrow7 hM7 hF7 hR6 hF6 hG hok hF8
        go_wp2
        go_ret
        exact ⟨rfl, _, hD8.out, hG8.out⟩
end Go.Proofs.Ytembocfghkmieaa
