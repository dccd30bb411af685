/- Lists of numbers in memory: appended to, held against each other; the row of a cache told; no condition. -/
import Derived.Test.YtencclpcebpgmaaFlushC
import Derived.Maps.AppendAt
import Derived.Maps.OwnOps
import Derived.Maps.OwnSet
namespace Go.Proofs.Ytencclpcebpgmaa
open Go.RowKit Go.Maps
/-- Numbers that lie in memory. -/
def IntsAt (w : World) (p : Option Addr) (zs : List Int) : Prop := 0 < zs.length → ∃ b off, p = some ⟨b, off, none⟩ ∧ b < w.heap.size ∧ ∀ j x, zs[j]? = some x → w.cell? ⟨b, off + j, none⟩ = some (.int .i64 x)
theorem ints_of_row {w : World} {base : Nat} {v : Value} {zs : List Int} (h : w.ownsRow base 3 1 v zs.length (zs.map (Value.int .i64))) : ∃ p c, v = .slice p zs.length c ∧ IntsAt w p zs ∧ zs.length ≤ c ∧ ∀ b off, p = some ⟨b, off, none⟩ → base ≤ b := by
  rcases h.2 with ⟨h1, h2⟩ | ⟨g, cap, cur, h1, hg, hh, hc, _⟩
  · exact ⟨none, 0, by rw [h1, h2], fun q => by omega, by omega, fun _ _ q => by cases q⟩
  · refine ⟨_, cap, h1, fun _ => ⟨g, 0, rfl, (h.lt g (by rw [h1]; rfl)).2, fun j x hx => ?_⟩, hc, fun b off q => by injection q with q; injection q with q1; omega⟩
    have q := h.cells (g := g) (by rw [h1]; rfl) j (.int .i64 x) (by rw [List.getElem?_map, hx]; rfl)
    rw [Go.WideShapes.add_plain] at q
    exact q
theorem IntsAt.later {w W : World} {p : Option Addr} {l : List Int} (h : IntsAt w p l) (hb : Below w.heap.size w W) : IntsAt W p l := fun h0 => by
  obtain ⟨b, off, h1, h2, h3⟩ := h h0
  exact ⟨b, off, h1, Nat.lt_of_lt_of_le h2 hb.size, fun j x hx => (hb.cell (p := ⟨b, off + j, none⟩) h2).trans (h3 j x hx)⟩
theorem belowN {B : Nat} {w W : World} (h : Below B w W) (q : Nat) : Below B w (W.drewN q) := h.trans ⟨rfl, rfl, rfl, Nat.le_refl _, fun _ _ => rfl⟩
set_option maxRecDepth 20000 in
set_option maxHeartbeats 1000000 in
theorem sameInts_any (s t : List Int) (p q : Option Addr) (cp cq : Nat) (w : World) (hls : s.length < 9223372036854775807) (hs : IntsAt w p s) (ht : IntsAt w q t) :
    Calls Try.prog 30 #[.slice p s.length cp, .slice q t.length cq] w fun e w' => e = .returned (.bool (decide (s = t))) ∧ Below w.heap.size w w' := by
  by_cases hl : s.length = t.length
  · have HS : Hid (IntsAt w p s) := hs
    have HT : Hid (IntsAt w q t) := ht
    have HR : Hid (decide (s = t) = decide (s.drop 0 = t.drop 0)) := rfl
    generalize decide (s = t) = res at *
    obtain ⟨n, hn⟩ : ∃ n, s.length = n := ⟨_, rfl⟩
    have hn2 : t.length = n := by omega
    rw [hn, hn2]
    rw [hn] at hls
    have HL : Hid (s.length = n ∧ t.length = n) := ⟨hn, hn2⟩
    clear hs ht hl hn hn2
    go_enter Try.func30, Try.ntmps30
    go_wp2
    go_loopw [5] (fun s5 wx => ∃ k : Nat, k ≤ n ∧ s5 = .int .i64 k ∧ Hid (Below w.heap.size w wx) ∧ Hid (res = decide (s.drop k = t.drop k))) (fun s5 _ => n - (intOf s5).toNat)
    case atStart => exact ⟨0, by omega, rfl, Below.refl _ _, HR.out⟩
    case round =>
      obtain ⟨k, hk, rfl, HB, HR2⟩ := hrel
      clear HR
      by_cases hk2 : (k : Int) < n
      · obtain ⟨hn, hn2⟩ := HL.out
        have hc : s[k]? = some s[k] := List.getElem?_eq_getElem (by omega)
        have hd : t[k]? = some t[k] := List.getElem?_eq_getElem (by omega)
        have hcd : s.drop k = s[k] :: s.drop (k + 1) := List.drop_eq_getElem_cons (by omega)
        have hdd : t.drop k = t[k] :: t.drop (k + 1) := List.drop_eq_getElem_cons (by omega)
        obtain ⟨b1, o1, rfl, l1, C1⟩ := HS.out (by omega)
        obtain ⟨b2, o2, rfl, l2, C2⟩ := HT.out (by omega)
        generalize s[k] = c at hc hcd
        generalize t[k] = d at hd hdd
        have q1 : wr.cell? ⟨b1, o1 + k, none⟩ = some (.int .i64 c) := (HB.out.cell (p := ⟨b1, o1 + k, none⟩) l1).trans (C1 k c hc)
        have q2 : wr.cell? ⟨b2, o2 + k, none⟩ = some (.int .i64 d) := (HB.out.cell (p := ⟨b2, o2 + k, none⟩) l2).trans (C2 k d hd)
        have hR := HR2.out
        rw [hcd, hdd] at hR
        clear HR2 C1 C2 hcd hdd hc hd hn hn2
        by_cases hcdd : c = d
        · subst hcdd
          have HR3 : Hid (res = decide (s.drop (k + 1) = t.drop (k + 1))) := by
            have e : res = decide (s.drop (k + 1) = t.drop (k + 1)) := by rw [hR]; simp
            exact e
          have g0 : decide (c = c) = true := by simp
          clear hR
          go_wp2
          go_quiet (fail)
          go_wp2
          exact ⟨⟨k + 1, by omega, by go_num, belowN HB.out _, HR3.out⟩, by simp [intOf]; omega⟩
        · have hr0 : res = false := by rw [hR]; simp [hcdd]
          have g0 : decide (c = d) = false := decide_eq_false hcdd
          clear hR
          subst hr0
          go_wp2
          go_quiet (fail)
          go_wp2
          go_ret
          exact ⟨rfl, belowN HB.out _⟩
      · obtain rfl : k = n := by omega
        have hr0 : res = true := by
          obtain ⟨hn, hn2⟩ := HL.out
          rw [HR2.out, List.drop_of_length_le (by omega), List.drop_of_length_le (by omega)]
          rfl
        subst hr0
        go_wp2
        go_ret
        exact ⟨rfl, HB.out⟩
  · have e : decide (s = t) = false := decide_eq_false fun q => hl (by rw [q])
    rw [e]
    have hlI : ¬ ((s.length : Int) = t.length) := by omega
    clear e hs ht
    go_enter Try.func30, Try.ntmps30
    go_wp2
    go_ret
    exact ⟨rfl, Below.refl _ _⟩
theorem info3i : (Try.prog.info? 3).map (fun i => (i.zero, i.size, i.bytes)) = some (some (.int .i64 0), 1, 8) := by kernel_rfl
theorem run_make54 (u : World) (n : Nat) (hn : n * 8 ≤ 281474976710656) :
    (Instr.makeSlice 54 (.int .i64 0) (.int .i64 (n : Int))).run Try.prog u = .ok (.slice (some ⟨u.heap.size, 0, none⟩) 0 n) (u.alloc (.cells (iRow nought n) 3)) := by
  obtain ⟨i0, hi0, hz0, hz1, hz2⟩ := info_parts info3i
  have h := run_make (P := Try.prog) u 54 3 i0 (.int .i64 0) Try.underlying54 hi0 hz0 .i64 .i64 0 n (by omega) (by omega) (by rw [hz2]; omega) (by omega)
  rw [Int.toNat_natCast, hz1] at h
  rw [h]
  simp [Value.cells, made_ints]
variable {w : World} {K : KLoc} {s : CSt}
def ordV (r : List Hld) : List Int := r.map (·.pos)
theorem info98j : ∃ j, Try.prog.info? 98 = some j := Option.isSome_iff_exists.1 (by kernel_rfl)
theorem neq71s (w : World) (a : Addr) : (binOp .neq 71 (.pointer (some a)) (.pointer (some a))).run Try.prog w = .ok (.bool false) w := by
  obtain ⟨j, hj⟩ := info98j
  exact neq_same w a Try.underlying71 hj
theorem neq71o {w : World} {a b : Nat} (h : a ≠ b) {ca cb : Array Value} {ta tb : TypeId} (ha : w.heap[a]? = some (.cells ca ta)) (hb : w.heap[b]? = some (.cells cb tb)) :
    (binOp .neq 71 (.pointer (some ⟨a, 0, none⟩)) (.pointer (some ⟨b, 0, none⟩))).run Try.prog w = .ok (.bool true) w := by
  obtain ⟨j, hj⟩ := info98j
  have hsz : j.size = 1028 := by have := size98; rw [hj] at this; simpa using this
  have h0 : (sameAddr (⟨a, 0, none⟩ : Addr) ⟨b, 0, none⟩).run Try.prog w = .ok false w := run_sameAddr_other w (fun q => h (by injection q)) ha hb
  have h1 : ∀ d : Nat, (Op.equalIn (d + 1) 71 (.pointer (some ⟨a, 0, none⟩)) (.pointer (some ⟨b, 0, none⟩))).run Try.prog w = .ok false w := fun d => by
    simp [Op.equalIn, run_underlying Try.underlying71, sizeOf, typeInfo, hj, hsz, h0]
  simp only [binOp]
  simp [Op.equal, Op.maxDepth, h1 9999]
def nextOf (b : List Nat) (e : Nat) : Nat := match b with
  | [] => e
  | x :: _ => x
theorem seg_next {M : Nat → Nd} {e : Nat} {l : List Nat} (hs : seg (Lnk M) e l e) : (M e).nx = nextOf l e := by
  cases l with
  | nil => exact hs.1
  | cons y t => exact hs.1.1
theorem seg_step {M : Nat → Nd} {e x : Nat} {a b : List Nat} (hs : seg (Lnk M) e (a ++ x :: b) e) : (M x).nx = nextOf b e := by
  have h2 := ((seg_append _ _ _ _ _ _).1 hs).2
  cases b with
  | nil => exact h2.1
  | cons y t => exact h2.1.1
set_option maxRecDepth 20000 in
set_option maxHeartbeats 4000000 in
theorem order_of (h : CacheAt w K s) : Calls Try.prog 31 #[ptr K.c] w fun e w' => ∃ v, e = .returned v ∧ w'.ownsRow w.heap.size 3 1 v (ordV s.row).length ((ordV s.row).map (Value.int .i64)) ∧ Below w.heap.size w w' := by
  have h0 := noneC_no h.c0
  have c3 := h.c3
  obtain ⟨D, hown, _, hsz⟩ := h.size_is
  have hle : s.row.length ≤ 4096 := by have a1 := h.ok.len; have a2 := h.ok.size; omega
  have hmk := fun u => run_make54 u (Maps.size D) (by omega)
  have hord : ordV s.row = K.ns.map (posOf K.M) := by unfold ordV; rw [h.holds, List.map_map]; rfl
  have hlen : K.ns.length ≤ 4096 := by rw [← h.len]; exact hle
  rw [hord]
  obtain ⟨i0, hi0, hz0, hz1, hz2⟩ := info_parts info3i
  have HC : Hid (CacheAt w K s) := h
  have h4 : (w.alloc (.cells (iRow nought (Maps.size D)) 3)).cell? ⟨K.c, 4, none⟩ = some (ptr K.e) := by
    have := (h.kept fun k hk => (below_new w (.cells (iRow nought (Maps.size D)) 3)).block k (h.lt k hk)).c4
    exact this
  have h3 : (w.alloc (.cells (iRow nought (Maps.size D)) 3)).cell? ⟨K.e, 3, none⟩ = some (ptr (nextOf K.ns K.e)) := by
    have := ((h.kept fun k hk => (below_new w (.cells (iRow nought (Maps.size D)) 3)).block k (h.lt k hk)).nodes K.e (.inl rfl)).c3
    rw [seg_next h.ring] at this
    exact this
  have hO0 : (w.alloc (.cells (iRow nought (Maps.size D)) 3)).ownsRow w.heap.size 3 1 (.slice (some ⟨w.heap.size, 0, none⟩) 0 (Maps.size D)) 0 [] :=
    ⟨rfl, .inr ⟨w.heap.size, Maps.size D, iRow nought (Maps.size D), rfl, Nat.le_refl _, heap_alloc_new _ _, Nat.zero_le _, by unfold maxLen; omega, by rw [iRow_size]; omega, by simp⟩⟩
  have HO0 : Hid ((w.alloc (.cells (iRow nought (Maps.size D)) 3)).ownsRow w.heap.size 3 1 (.slice (some ⟨w.heap.size, 0, none⟩) 0 (Maps.size D)) 0 []) := hO0
  have HB0 : Hid (Below w.heap.size w (w.alloc (.cells (iRow nought (Maps.size D)) 3))) := below_new _ _
  clear h hord hO0 hsz
  generalize hB : w.heap.size = B at *
  unfold ptr at h0 h3 h4 ⊢
  go_enter Try.func31, Try.ntmps31
  go_wp2_with (first | (go_at_call 55; refine h0.mono ?_; rintro e W ⟨rfl, he⟩; obtain rfl := he.symm) | (refine wpList_len_own _ rfl (.tmp 10) 70 rfl 3 71 Try.underlying70 valElem K.mb top D rfl hown ?_))
  clear h0 c3 hown hmk h3 h4
  go_loopg [3, 4] K.ns.length (fun k s3 s4 wx => ∃ a b, K.ns = a ++ b ∧ s4 = .pointer (some ⟨nextOf b K.e, 0, none⟩) ∧ k = b.length ∧ Hid (wx.ownsRow B 3 1 s3 a.length ((a.map (posOf K.M)).map (Value.int .i64))) ∧ Hid (Below B w wx))
  case atStart => exact ⟨[], K.ns, rfl, rfl, rfl, HO0.out, HB0.out⟩
  case round =>
    obtain ⟨a, b, hab, rfl, rfl, HO, HBx⟩ := hrel
    have hC : CacheAt wr K s := HC.out.kept fun k hk => HBx.out.block k (by rw [← hB]; exact HC.out.lt k hk)
    have c4 := hC.c4
    cases b with
    | nil =>
      have hne := neq71s
      have ha : K.ns = a := by simpa using hab
      have HO' : Hid (wr.ownsRow B 3 1 u3 (K.ns.map (posOf K.M)).length ((K.ns.map (posOf K.M)).map (Value.int .i64))) := by
        rw [ha, List.length_map]
        exact HO.out
      clear HO HO0 HB0 hC hab ha
      unfold ptr at c4
      rw [show nextOf [] K.e = K.e from rfl]
      go_wp2
      go_ret
      exact ⟨_, rfl, HO'.out, HBx.out⟩
    | cons x b' =>
      have hxm : x ∈ K.ns := by rw [hab]; simp
      have hxe : x ≠ K.e := fun q => (List.nodup_cons.1 hC.nd).1 (q ▸ hxm)
      have hrx := hC.nodes x (.inr hxm)
      have hne := neq71o hxe hrx (hC.nodes K.e (.inl rfl))
      have x0 := hrx.c0
      have hxn : wr.cell? ⟨x, 3, none⟩ = some (ptr (nextOf b' K.e)) := by
        have := hrx.c3
        rw [seg_step (a := a) (by rw [← hab]; exact hC.ring)] at this
        exact this
      have hxlt : x < wr.heap.size := (Array.getElem?_eq_some_iff.1 hrx).1
      have hBlt : B ≤ wr.heap.size := by have := HBx.out.size; omega
      have hxB : x < B := by rw [← hB]; exact HC.out.lt x (.inr (.inr (.inr hxm)))
      have hal : a.length + 1 ≤ 4096 := by rw [hab] at hlen; simp at hlen; omega
      have hab' : Hid (K.ns = (a ++ [x]) ++ b') := by
        have q : K.ns = (a ++ [x]) ++ b' := by rw [hab]; simp
        exact q
      have hown1 := HO.out
      have HB2 : Hid (∀ w2, (wr.alloc (.cells #[.int .i64 (posOf K.M x)] 3)).grownBy w2 u3.ownBlock → Below B wr w2) := fun w2 hg2 =>
        (((Below.refl B wr).alloc hBlt _).grown hg2 (by simp; omega) fun k hk => (World.ownsRow.lt hown1 k hk).1)
      unfold ptr at c4 hxn
      clear HO HO0 HB0 hC hab hrx
      have hpx : (K.M x).pos = posOf K.M x := rfl
      rw [hpx] at x0
      generalize posOf K.M x = px at *
      rw [show nextOf (x :: b') K.e = x from rfl]
      go_wp2_with (at_builtin; refine wpList_append_own_at _ rfl (.tmp 30) (.tmp 35) 54 rfl B 3 i0 (.int .i64 0) 1 8 Try.underlying54 hi0 hz0 hz1 hz2 rfl (by decide) u3 a.length _ rfl (hown1.alloc _) ⟨wr.heap.size, 0, none⟩ 1 1 [.int .i64 px] rfl rfl (cell_one_new _ _ _) (ints_oneCell .i64 [px]) (by unfold maxLen; omega) (by omega) (by simp; omega) ?_; intro v' w2 hown2 hg2 hnil hloc; have hb2 := HB2.out w2 hg2; have hxn2 := (hb2.cell (p := ⟨x, 3, none⟩) hxB).trans hxn; clear hg2 hloc hnil hxn x0 hne hown1 HB2)
      have HOn : Hid (w2.ownsRow B 3 1 v' (a ++ [x]).length (((a ++ [x]).map (posOf K.M)).map (Value.int .i64))) := by
        rw [List.map_append, List.map_append, List.length_append, List.map_cons, List.map_cons, show posOf K.M x = px from hpx]
        exact hown2
      go_roundg b'.length
      case measure => simp
      case rel => exact ⟨a ++ [x], b', hab'.out, rfl, rfl, HOn.out, HBx.out.trans hb2⟩
end Go.Proofs.Ytencclpcebpgmaa
