/- Several texts joined, each with its own remark; no condition. -/
import Derived.Test.YtencclpcebpgmaaP6
import Derived.Maps.AppendAt
import Derived.Maps.OwnOps
import Derived.Maps.OwnSet
import Derived.Test.YtencclpcebpgmaaP4
import Derived.Deep.DeepAppendWide
import Derived.Deep.Onto
import Derived.OneCell
/- Flush of a cache, in one form; no condition but that numbers do not pass their greatest. -/
namespace Go.Proofs.Ytencclpcebpgmaa
open Go.RowKit Go.Maps
variable {w : World} {K : KLoc} {L : Loc} {s : CSt} {t : St}

theorem write_any (h : DiskAt w L t) (hr : Room t) (k : Int) {f : Nat → Int} (hf : Can f) :
    Calls Try.prog 42 #[.pointer (some ⟨L.d, 0, none⟩), .int .i64 k, .agg (blk f)] w fun e w' => e = .returned (.int .i64 (writeE t k)) ∧ ∃ L', DiskAt w' L' (writeV t k f) ∧ Goes w w' L L' := by
  unfold writeE writeV
  by_cases hb : refV t k = 0
  · rw [if_pos hb, if_pos hb]
    cases hl : lets t
    · exact (write_dead h hr hb hl f).mono fun e W' ⟨h1, h2, h3⟩ => ⟨h1, L, h2, h3⟩
    · exact (write_ok h hr hb hl hf).mono fun e W' ⟨h1, L', h2, h3⟩ => ⟨h1, L', h2, h3⟩
  · rw [if_neg hb, if_neg hb]
    exact (write_bad h hb f).mono fun e W' ⟨h1, h2⟩ => ⟨h1, L, h.later h2, Goes.ofBelow L h2⟩
def unfast (r : List Hld) (k : Int) : List Hld := r.map fun x => if x.pos = k then ⟨x.pos, false, x.dat⟩ else x
def flushE (s : CSt) (t : St) (k : Int) : Int := if refV t k = 0 then (match atR s.row k with | some h => if h.fast then writeE t k else 0 | none => 0) else refV t k
def flushC (s : CSt) (t : St) (k : Int) : CSt := if refV t k = 0 then (match atR s.row k with | some h => if h.fast ∧ writeE t k = 0 then { s with row := unfast s.row k } else s | none => s) else s
def flushD (s : CSt) (t : St) (k : Int) : St := if refV t k = 0 then (match atR s.row k with | some h => if h.fast then writeV t k h.dat else t | none => t) else t
theorem unfast_split (h : CacheAt w K s) {p q : List Nat} {g : Nat} (hns : K.ns = p ++ g :: q) {k : Int} (hk : posOf K.M g = k) : unfast s.row k = p.map (hld K.M) ++ ⟨(K.M g).pos, false, (K.M g).dat⟩ :: q.map (hld K.M) := by
  have hnd := h.posNd
  rw [hns] at hnd
  have h4 := ((List.perm_middle.map (posOf K.M)).nodup_iff).1 hnd
  rw [List.map_cons, List.nodup_cons] at h4
  have hne : ∀ x ∈ p ++ q, posOf K.M x ≠ k := fun x hx e => h4.1 (List.mem_map.2 ⟨x, hx, by rw [e, hk]⟩)
  have hk' : (K.M g).pos = k := hk
  unfold unfast
  rw [h.holds, hns, List.map_append, List.map_append, List.map_cons, List.map_cons, List.map_map, List.map_map]
  have e1 : ∀ l : List Nat, (∀ x ∈ l, x ∈ p ++ q) → l.map ((fun x : Hld => if x.pos = k then ⟨x.pos, false, x.dat⟩ else x) ∘ hld K.M) = l.map (hld K.M) := fun l hl =>
    List.map_congr_left fun x hx => by
      have : (hld K.M x).pos ≠ k := hne x (hl x hx)
      simp [this]
  rw [e1 p fun x hx => by simp [hx], e1 q fun x hx => by simp [hx]]
  congr 2
  show (if (K.M g).pos = k then (⟨(K.M g).pos, false, (K.M g).dat⟩ : Hld) else hld K.M g) = _
  rw [if_pos hk']
set_option maxRecDepth 20000 in
set_option maxHeartbeats 4000000 in
theorem flushC_of (h : CD w K L s t) (hr : Room t) (k : Int) : Calls Try.prog 26 #[ptr K.c, .int .i64 k] w fun e w' => e = .returned (.int .i64 (flushE s t k)) ∧
    ∃ K' L', CD w' K' L' (flushC s t k) (flushD s t k) ∧ GoesC w w' K L K' L' := by
  have hR := refusesC_of h k
  have hmap := h.cache.map
  have c3 := h.cache.c3
  have c1 := h.cache.c1
  rw [h.d] at c1
  have z71 := zero71
  unfold flushE flushC flushD
  by_cases hb : refV t k = 0
  · rw [if_pos hb, if_pos hb, if_pos hb]
    rw [hb] at hR
    have hwf : (Lit.int .i64 k).wf = true := inTop.wf (inTop_of h.disk.ok (refV_ok hb).2)
    cases ha : atR s.row k with
    | none =>
      have hmv := mapV_none (atR_none h.cache ha)
      have HFin : Hid (∃ K' L', CD w K' L' s t ∧ GoesC w w K L K' L') := ⟨K, L, h, GoesC.refl _ _ _⟩
      clear h hb ha hr
      unfold nilp at z71
      unfold ptr at c1 hR ⊢
      go_enter Try.func26, Try.ntmps26
      go_wp2_with (first | (go_at_call 54; refine hR.mono ?_; rintro e W ⟨rfl, rfl⟩) | (refine wpList_lookM_none rfl (.tmp 19) (.tmp 20) 70 rfl 71 Try.underlying3 keyed3 Try.underlying70 rfl hmap (z71 _) k hwf rfl hmv ?_))
      go_ret
      exact ⟨rfl, HFin.out⟩
    | some x =>
      obtain ⟨p, g, q, hns, hx, hg, _, _⟩ := atR_some h.cache ha
      have hgm : g ∈ K.ns := by rw [hns]; simp
      have hmv : mapV K.M K.ns k = some (ptr g) := by rw [← hg]; exact mapV_some h.cache.posNd hgm
      obtain ⟨pp, qq, hrow⟩ := h.node hgm hx
      have g1 := hrow.c1
      simp only
      cases hxf : x.fast
      · rw [hxf] at g1
        rw [if_neg (by simp), if_neg (by simp), if_neg (by simp)]
        have HFin : Hid (∃ K' L', CD w K' L' s t ∧ GoesC w w K L K' L') := ⟨K, L, h, GoesC.refl _ _ _⟩
        clear h hb ha hr hns hx hg hgm hrow
        unfold nilp at z71
        unfold ptr at c1 hR hmv ⊢
        go_enter Try.func26, Try.ntmps26
        go_wp2_with (first | (go_at_call 54; refine hR.mono ?_; rintro e W ⟨rfl, rfl⟩) | (refine wpList_lookM_some rfl (.tmp 19) (.tmp 20) 70 rfl 71 Try.underlying3 keyed3 Try.underlying70 rfl hmap (z71 _) k hwf rfl _ hmv ?_))
        go_ret
        exact ⟨rfl, HFin.out⟩
      · rw [hxf] at g1
        rw [if_pos rfl, if_pos rfl]
        simp only [true_and]
        have hB : BlkAt w g 4 x.dat := hrow.bytes
        have hcan : Can x.dat := (h.cache.ok.pos x (by rw [h.cache.holds]; exact List.mem_map.2 ⟨g, hgm, hx⟩)).2
        have hDd : CD w.drew K L s t := h.later ⟨rfl, rfl, rfl, Nat.le_refl _, fun _ _ => rfl⟩
        have hwr := write_any hDd.disk hr k hcan
        have HF : Hid (∀ W2 L2, DiskAt W2 L2 (writeV t k x.dat) → Goes w.drew W2 L L2 →
            (writeE t k ≠ 0 → ∃ K' L', CD W2 K' L' s (writeV t k x.dat) ∧ GoesC w W2 K L K' L') ∧
            W2.cell? ⟨g, 1, none⟩ = some (.bool true) ∧ W2.frozen? ⟨g, 1, none⟩ = false ∧ W2.cell? ⟨K.c, 5, none⟩ = some (.int .i64 (fastN s.row : Int)) ∧ W2.frozen? ⟨K.c, 5, none⟩ = false ∧ K.c ≠ g ∧ (1 ≤ (fastN s.row : Int) ∧ (fastN s.row : Int) ≤ 4096) ∧
            (∃ K' L', CD ((W2.setCell ⟨g, 1, none⟩ (.bool false)).setCell ⟨K.c, 5, none⟩ (.int .i64 ((fastN s.row : Int) - 1))) K' L' { s with row := unfast s.row k } (writeV t k x.dat) ∧
              GoesC w ((W2.setCell ⟨g, 1, none⟩ (.bool false)).setCell ⟨K.c, 5, none⟩ (.int .i64 ((fastN s.row : Int) - 1))) K L K' L')) := by
          intro W2 L2 hD2 hG2
          obtain ⟨b1, b2⟩ := hDd.disks hD2 hG2
          have hGd : GoesC w w.drew K L K L := GoesC.ofBelow K L ⟨rfl, rfl, rfl, Nat.le_refl _, fun _ _ => rfl⟩
          obtain ⟨p2, q2, hrow2⟩ := b1.node hgm hx
          have e1 := hrow2.c1
          rw [hxf] at e1
          have hsp := unfast_split b1.cache hns hg
          have hfm : (K.M g).fast = true := by have := congrArg Hld.fast hx; rw [hxf] at this; exact this
          have hcnt : fastN s.row = fastN (p.map (hld K.M) ++ ⟨(K.M g).pos, false, (K.M g).dat⟩ :: q.map (hld K.M)) + 1 := by
            rw [h.cache.holds, hns]
            simp [fastN, List.countP_append, hld, hfm]
            omega
          have hle : (fastN s.row : Int) ≤ 4096 := by
            have a1 := fastN_le s.row
            have a2 := h.cache.ok.len
            have a3 := h.cache.ok.size
            omega
          obtain ⟨a1, a2⟩ := b1.cache.flag hns false (m := (fastN s.row : Int) - 1) (by rw [hcnt]; omega) rfl
          rw [← hsp] at a1
          obtain ⟨d1, d2⟩ := b1.caches a1 rfl rfl (fun _ q => .inl q) a2
          exact ⟨fun _ => ⟨K, L2, b1, hGd.trans b2⟩, e1, hrow2.free 1, b1.cache.c5, b1.cache.free 5, (b1.cache.cne (.inr hgm)).symm, ⟨by omega, hle⟩, _, L2, d1, hGd.trans (b2.trans d2)⟩
        clear h hb ha hr hns hx hg hgm hrow hDd
        have HW : Hid (Calls Try.prog 42 _ _ _) := hwr
        clear hwr
        generalize hE : writeE t k = E at *
        generalize writeV t k x.dat = t' at *
        generalize hn : (fastN s.row : Int) = n at *
        have HE : Hid (E = 0 ∨ E ≠ 0) := Classical.em _
        have hBd : BlkAt w g 4 x.dat := hB
        generalize x.dat = f at *
        unfold nilp at z71
        unfold ptr at c1 hR hmv ⊢
        go_enter Try.func26, Try.ntmps26
        go_wp2_with (first | (go_at_call 54; refine hR.mono ?_; rintro e W ⟨rfl, rfl⟩) | (refine wpList_lookM_some rfl (.tmp 19) (.tmp 20) 70 rfl 71 Try.underlying3 keyed3 Try.underlying70 rfl hmap (z71 _) k hwf rfl _ hmv ?_))
        go_still_tail 9, (by kernel_rfl)
        refine wpStill_loadM rfl (.tmp 40) rfl g 4 rfl f hBd ?_
        refine wpStill_nil ?_
        change wpList _ _ _ _ _ (World.drew _)
        clear hB hBd hmap hR c3 g1 hwf z71 hmv
        go_wp2_with (go_at_call 42; fail)
        refine HW.out.mono ?_
        rintro e W2 ⟨rfl, L2, hD2, hG2⟩
        obtain ⟨a1, g1, fg, d5, f5, hcg, hn1, a2⟩ := HF.out W2 L2 hD2 hG2
        have HA1 : Hid _ := a1
        have HA2 : Hid _ := a2
        have hw5 : IntKind.i64.wrap (n - 1) = n - 1 := by rw [IntKind.wrap_i64]; omega
        clear HF HW hD2 hG2 a1 a2
        rcases HE.out with rfl | hE0
        · have HR : Hid _ := HA2.out
          clear HA1 HA2 HE
          go_wp2
          go_ret
          exact ⟨rfl, HR.out⟩
        · have HR : Hid _ := HA1.out hE0
          have hne : (E != 0) = true := by simp [hE0]
          clear HA1 HA2 HE
          go_wp2
          go_ret
          exact ⟨rfl, HR.out⟩
  · rw [if_neg hb, if_neg hb, if_neg hb]
    have hne : (refV t k != 0) = true := by simp [hb]
    have HFin : Hid (∃ K' L', CD w K' L' s t ∧ GoesC w w K L K' L') := ⟨K, L, h, GoesC.refl _ _ _⟩
    clear h hb hr
    generalize refV t k = r at *
    unfold ptr at *
    go_enter Try.func26, Try.ntmps26
    go_wp2_with (first | (go_at_call 54; refine hR.mono ?_; rintro e W ⟨rfl, rfl⟩))
    go_ret
    exact ⟨rfl, HFin.out⟩
end Go.Proofs.Ytencclpcebpgmaa
/- Lists of numbers in memory: appended to, held against each other; the row of a cache told; no condition. -/
namespace Go.Proofs.Ytencclpcebpgmaa
open Go.RowKit Go.Maps
/-- Numbers that lie in memory. -/
def IntsAt (w : World) (p : Option Addr) (zs : List Int) : Prop := 0 < zs.length → ∃ b off, p = some ⟨b, off, none⟩ ∧ b < w.heap.size ∧ ∀ j x, zs[j]? = some x → w.cell? ⟨b, off + j, none⟩ = some (.int .i64 x)
theorem ints_of_row {w : World} {base : Nat} {v : Value} {zs : List Int} (h : w.ownsRow base 3 1 v zs.length (zs.map (Value.int .i64))) : ∃ p c, v = .slice p zs.length c ∧ IntsAt w p zs ∧ zs.length ≤ c ∧ ∀ b off, p = some ⟨b, off, none⟩ → base ≤ b := by
  rcases h.2 with ⟨h1, h2⟩ | ⟨g, cap, cur, h1, hg, hh, hc, _⟩
  · exact ⟨none, 0, by rw [h1, h2], fun q => by omega, by omega, fun _ _ q => by cases q⟩
  · refine ⟨_, cap, h1, fun _ => ⟨g, 0, rfl, (h.lt g (by rw [h1]; rfl)).2, fun j x hx => ?_⟩, hc, fun b off q => by injection q with q; injection q with q1; omega⟩
    have q := h.cells (g := g) (by rw [h1]; rfl) j (.int .i64 x) (by rw [List.getElem?_map, hx]; rfl)
    rw [Go.WideShapes.add_plain] at q
    exact q
theorem IntsAt.later {w W : World} {p : Option Addr} {l : List Int} (h : IntsAt w p l) (hb : Below w.heap.size w W) : IntsAt W p l := fun h0 => by
  obtain ⟨b, off, h1, h2, h3⟩ := h h0
  exact ⟨b, off, h1, Nat.lt_of_lt_of_le h2 hb.size, fun j x hx => (hb.cell (p := ⟨b, off + j, none⟩) h2).trans (h3 j x hx)⟩
theorem belowN {B : Nat} {w W : World} (h : Below B w W) (q : Nat) : Below B w (W.drewN q) := h.trans ⟨rfl, rfl, rfl, Nat.le_refl _, fun _ _ => rfl⟩
set_option maxRecDepth 20000 in
set_option maxHeartbeats 1000000 in
theorem sameInts_any (s t : List Int) (p q : Option Addr) (cp cq : Nat) (w : World) (hls : s.length < 9223372036854775807) (hs : IntsAt w p s) (ht : IntsAt w q t) :
    Calls Try.prog 30 #[.slice p s.length cp, .slice q t.length cq] w fun e w' => e = .returned (.bool (decide (s = t))) ∧ Below w.heap.size w w' := by
  by_cases hl : s.length = t.length
  · have HS : Hid (IntsAt w p s) := hs
    have HT : Hid (IntsAt w q t) := ht
    have HR : Hid (decide (s = t) = decide (s.drop 0 = t.drop 0)) := rfl
    generalize decide (s = t) = res at *
    obtain ⟨n, hn⟩ : ∃ n, s.length = n := ⟨_, rfl⟩
    have hn2 : t.length = n := by omega
    rw [hn, hn2]
    rw [hn] at hls
    have HL : Hid (s.length = n ∧ t.length = n) := ⟨hn, hn2⟩
    clear hs ht hl hn hn2
    go_enter Try.func30, Try.ntmps30
    go_wp2
    go_loopw [5] (fun s5 wx => ∃ k : Nat, k ≤ n ∧ s5 = .int .i64 k ∧ Hid (Below w.heap.size w wx) ∧ Hid (res = decide (s.drop k = t.drop k))) (fun s5 _ => n - (intOf s5).toNat)
    case atStart => exact ⟨0, by omega, rfl, Below.refl _ _, HR.out⟩
    case round =>
      obtain ⟨k, hk, rfl, HB, HR2⟩ := hrel
      clear HR
      by_cases hk2 : (k : Int) < n
      · obtain ⟨hn, hn2⟩ := HL.out
        have hc : s[k]? = some s[k] := List.getElem?_eq_getElem (by omega)
        have hd : t[k]? = some t[k] := List.getElem?_eq_getElem (by omega)
        have hcd : s.drop k = s[k] :: s.drop (k + 1) := List.drop_eq_getElem_cons (by omega)
        have hdd : t.drop k = t[k] :: t.drop (k + 1) := List.drop_eq_getElem_cons (by omega)
        obtain ⟨b1, o1, rfl, l1, C1⟩ := HS.out (by omega)
        obtain ⟨b2, o2, rfl, l2, C2⟩ := HT.out (by omega)
        generalize s[k] = c at hc hcd
        generalize t[k] = d at hd hdd
        have q1 : wr.cell? ⟨b1, o1 + k, none⟩ = some (.int .i64 c) := (HB.out.cell (p := ⟨b1, o1 + k, none⟩) l1).trans (C1 k c hc)
        have q2 : wr.cell? ⟨b2, o2 + k, none⟩ = some (.int .i64 d) := (HB.out.cell (p := ⟨b2, o2 + k, none⟩) l2).trans (C2 k d hd)
        have hR := HR2.out
        rw [hcd, hdd] at hR
        clear HR2 C1 C2 hcd hdd hc hd hn hn2
        by_cases hcdd : c = d
        · subst hcdd
          have HR3 : Hid (res = decide (s.drop (k + 1) = t.drop (k + 1))) := by
            have e : res = decide (s.drop (k + 1) = t.drop (k + 1)) := by rw [hR]; simp
            exact e
          have g0 : decide (c = c) = true := by simp
          clear hR
          go_wp2
          go_quiet (fail)
          go_wp2
          exact ⟨⟨k + 1, by omega, by go_num, belowN HB.out _, HR3.out⟩, by simp [intOf]; omega⟩
        · have hr0 : res = false := by rw [hR]; simp [hcdd]
          have g0 : decide (c = d) = false := decide_eq_false hcdd
          clear hR
          subst hr0
          go_wp2
          go_quiet (fail)
          go_wp2
          go_ret
          exact ⟨rfl, belowN HB.out _⟩
      · obtain rfl : k = n := by omega
        have hr0 : res = true := by
          obtain ⟨hn, hn2⟩ := HL.out
          rw [HR2.out, List.drop_of_length_le (by omega), List.drop_of_length_le (by omega)]
          rfl
        subst hr0
        go_wp2
        go_ret
        exact ⟨rfl, HB.out⟩
  · have e : decide (s = t) = false := decide_eq_false fun q => hl (by rw [q])
    rw [e]
    have hlI : ¬ ((s.length : Int) = t.length) := by omega
    clear e hs ht
    go_enter Try.func30, Try.ntmps30
    go_wp2
    go_ret
    exact ⟨rfl, Below.refl _ _⟩
theorem info3i : (Try.prog.info? 3).map (fun i => (i.zero, i.size, i.bytes)) = some (some (.int .i64 0), 1, 8) := by kernel_rfl
theorem run_make54 (u : World) (n : Nat) (hn : n * 8 ≤ 281474976710656) :
    (Instr.makeSlice 54 (.int .i64 0) (.int .i64 (n : Int))).run Try.prog u = .ok (.slice (some ⟨u.heap.size, 0, none⟩) 0 n) (u.alloc (.cells (iRow nought n) 3)) := by
  obtain ⟨i0, hi0, hz0, hz1, hz2⟩ := info_parts info3i
  have h := run_make (P := Try.prog) u 54 3 i0 (.int .i64 0) Try.underlying54 hi0 hz0 .i64 .i64 0 n (by omega) (by omega) (by rw [hz2]; omega) (by omega)
  rw [Int.toNat_natCast, hz1] at h
  rw [h]
  simp [Value.cells, made_ints]
variable {w : World} {K : KLoc} {s : CSt}
def ordV (r : List Hld) : List Int := r.map (·.pos)
theorem info98j : ∃ j, Try.prog.info? 98 = some j := Option.isSome_iff_exists.1 (by kernel_rfl)
theorem neq71s (w : World) (a : Addr) : (binOp .neq 71 (.pointer (some a)) (.pointer (some a))).run Try.prog w = .ok (.bool false) w := by
  obtain ⟨j, hj⟩ := info98j
  exact neq_same w a Try.underlying71 hj
theorem neq71o {w : World} {a b : Nat} (h : a ≠ b) {ca cb : Array Value} {ta tb : TypeId} (ha : w.heap[a]? = some (.cells ca ta)) (hb : w.heap[b]? = some (.cells cb tb)) :
    (binOp .neq 71 (.pointer (some ⟨a, 0, none⟩)) (.pointer (some ⟨b, 0, none⟩))).run Try.prog w = .ok (.bool true) w := by
  obtain ⟨j, hj⟩ := info98j
  have hsz : j.size = 1028 := by have := size98; rw [hj] at this; simpa using this
  have h0 : (sameAddr (⟨a, 0, none⟩ : Addr) ⟨b, 0, none⟩).run Try.prog w = .ok false w := run_sameAddr_other w (fun q => h (by injection q)) ha hb
  have h1 : ∀ d : Nat, (Op.equalIn (d + 1) 71 (.pointer (some ⟨a, 0, none⟩)) (.pointer (some ⟨b, 0, none⟩))).run Try.prog w = .ok false w := fun d => by
    simp [Op.equalIn, run_underlying Try.underlying71, sizeOf, typeInfo, hj, hsz, h0]
  simp only [binOp]
  simp [Op.equal, Op.maxDepth, h1 9999]
def nextOf (b : List Nat) (e : Nat) : Nat := match b with
  | [] => e
  | x :: _ => x
theorem seg_next {M : Nat → Nd} {e : Nat} {l : List Nat} (hs : seg (Lnk M) e l e) : (M e).nx = nextOf l e := by
  cases l with
  | nil => exact hs.1
  | cons y t => exact hs.1.1
theorem seg_step {M : Nat → Nd} {e x : Nat} {a b : List Nat} (hs : seg (Lnk M) e (a ++ x :: b) e) : (M x).nx = nextOf b e := by
  have h2 := ((seg_append _ _ _ _ _ _).1 hs).2
  cases b with
  | nil => exact h2.1
  | cons y t => exact h2.1.1
set_option maxRecDepth 20000 in
set_option maxHeartbeats 4000000 in
theorem order_of (h : CacheAt w K s) : Calls Try.prog 31 #[ptr K.c] w fun e w' => ∃ v, e = .returned v ∧ w'.ownsRow w.heap.size 3 1 v (ordV s.row).length ((ordV s.row).map (Value.int .i64)) ∧ Below w.heap.size w w' := by
  have h0 := noneC_no h.c0
  have c3 := h.c3
  obtain ⟨D, hown, _, hsz⟩ := h.size_is
  have hle : s.row.length ≤ 4096 := by have a1 := h.ok.len; have a2 := h.ok.size; omega
  have hmk := fun u => run_make54 u (Maps.size D) (by omega)
  have hord : ordV s.row = K.ns.map (posOf K.M) := by unfold ordV; rw [h.holds, List.map_map]; rfl
  have hlen : K.ns.length ≤ 4096 := by rw [← h.len]; exact hle
  rw [hord]
  obtain ⟨i0, hi0, hz0, hz1, hz2⟩ := info_parts info3i
  have HC : Hid (CacheAt w K s) := h
  have h4 : (w.alloc (.cells (iRow nought (Maps.size D)) 3)).cell? ⟨K.c, 4, none⟩ = some (ptr K.e) := by
    have := (h.kept fun k hk => (below_new w (.cells (iRow nought (Maps.size D)) 3)).block k (h.lt k hk)).c4
    exact this
  have h3 : (w.alloc (.cells (iRow nought (Maps.size D)) 3)).cell? ⟨K.e, 3, none⟩ = some (ptr (nextOf K.ns K.e)) := by
    have := ((h.kept fun k hk => (below_new w (.cells (iRow nought (Maps.size D)) 3)).block k (h.lt k hk)).nodes K.e (.inl rfl)).c3
    rw [seg_next h.ring] at this
    exact this
  have hO0 : (w.alloc (.cells (iRow nought (Maps.size D)) 3)).ownsRow w.heap.size 3 1 (.slice (some ⟨w.heap.size, 0, none⟩) 0 (Maps.size D)) 0 [] :=
    ⟨rfl, .inr ⟨w.heap.size, Maps.size D, iRow nought (Maps.size D), rfl, Nat.le_refl _, heap_alloc_new _ _, Nat.zero_le _, by unfold maxLen; omega, by rw [iRow_size]; omega, by simp⟩⟩
  have HO0 : Hid ((w.alloc (.cells (iRow nought (Maps.size D)) 3)).ownsRow w.heap.size 3 1 (.slice (some ⟨w.heap.size, 0, none⟩) 0 (Maps.size D)) 0 []) := hO0
  have HB0 : Hid (Below w.heap.size w (w.alloc (.cells (iRow nought (Maps.size D)) 3))) := below_new _ _
  clear h hord hO0 hsz
  generalize hB : w.heap.size = B at *
  unfold ptr at h0 h3 h4 ⊢
  go_enter Try.func31, Try.ntmps31
  go_wp2_with (first | (go_at_call 55; refine h0.mono ?_; rintro e W ⟨rfl, he⟩; obtain rfl := he.symm) | (refine wpList_len_own _ rfl (.tmp 10) 70 rfl 3 71 Try.underlying70 valElem K.mb top D rfl hown ?_))
  clear h0 c3 hown hmk h3 h4
  go_loopg [3, 4] K.ns.length (fun k s3 s4 wx => ∃ a b, K.ns = a ++ b ∧ s4 = .pointer (some ⟨nextOf b K.e, 0, none⟩) ∧ k = b.length ∧ Hid (wx.ownsRow B 3 1 s3 a.length ((a.map (posOf K.M)).map (Value.int .i64))) ∧ Hid (Below B w wx))
  case atStart => exact ⟨[], K.ns, rfl, rfl, rfl, HO0.out, HB0.out⟩
  case round =>
    obtain ⟨a, b, hab, rfl, rfl, HO, HBx⟩ := hrel
    have hC : CacheAt wr K s := HC.out.kept fun k hk => HBx.out.block k (by rw [← hB]; exact HC.out.lt k hk)
    have c4 := hC.c4
    cases b with
    | nil =>
      have hne := neq71s
      have ha : K.ns = a := by simpa using hab
      have HO' : Hid (wr.ownsRow B 3 1 u3 (K.ns.map (posOf K.M)).length ((K.ns.map (posOf K.M)).map (Value.int .i64))) := by
        rw [ha, List.length_map]
        exact HO.out
      clear HO HO0 HB0 hC hab ha
      unfold ptr at c4
      rw [show nextOf [] K.e = K.e from rfl]
      go_wp2
      go_ret
      exact ⟨_, rfl, HO'.out, HBx.out⟩
    | cons x b' =>
      have hxm : x ∈ K.ns := by rw [hab]; simp
      have hxe : x ≠ K.e := fun q => (List.nodup_cons.1 hC.nd).1 (q ▸ hxm)
      have hrx := hC.nodes x (.inr hxm)
      have hne := neq71o hxe hrx (hC.nodes K.e (.inl rfl))
      have x0 := hrx.c0
      have hxn : wr.cell? ⟨x, 3, none⟩ = some (ptr (nextOf b' K.e)) := by
        have := hrx.c3
        rw [seg_step (a := a) (by rw [← hab]; exact hC.ring)] at this
        exact this
      have hxlt : x < wr.heap.size := (Array.getElem?_eq_some_iff.1 hrx).1
      have hBlt : B ≤ wr.heap.size := by have := HBx.out.size; omega
      have hxB : x < B := by rw [← hB]; exact HC.out.lt x (.inr (.inr (.inr hxm)))
      have hal : a.length + 1 ≤ 4096 := by rw [hab] at hlen; simp at hlen; omega
      have hab' : Hid (K.ns = (a ++ [x]) ++ b') := by
        have q : K.ns = (a ++ [x]) ++ b' := by rw [hab]; simp
        exact q
      have hown1 := HO.out
      have HB2 : Hid (∀ w2, (wr.alloc (.cells #[.int .i64 (posOf K.M x)] 3)).grownBy w2 u3.ownBlock → Below B wr w2) := fun w2 hg2 =>
        (((Below.refl B wr).alloc hBlt _).grown hg2 (by simp; omega) fun k hk => (World.ownsRow.lt hown1 k hk).1)
      unfold ptr at c4 hxn
      clear HO HO0 HB0 hC hab hrx
      have hpx : (K.M x).pos = posOf K.M x := rfl
      rw [hpx] at x0
      generalize posOf K.M x = px at *
      rw [show nextOf (x :: b') K.e = x from rfl]
      go_wp2_with (at_builtin; refine wpList_append_own_at _ rfl (.tmp 30) (.tmp 35) 54 rfl B 3 i0 (.int .i64 0) 1 8 Try.underlying54 hi0 hz0 hz1 hz2 rfl (by decide) u3 a.length _ rfl (hown1.alloc _) ⟨wr.heap.size, 0, none⟩ 1 1 [.int .i64 px] rfl rfl (cell_one_new _ _ _) (ints_oneCell .i64 [px]) (by unfold maxLen; omega) (by omega) (by simp; omega) ?_; intro v' w2 hown2 hg2 hnil hloc; have hb2 := HB2.out w2 hg2; have hxn2 := (hb2.cell (p := ⟨x, 3, none⟩) hxB).trans hxn; clear hg2 hloc hnil hxn x0 hne hown1 HB2)
      have HOn : Hid (w2.ownsRow B 3 1 v' (a ++ [x]).length (((a ++ [x]).map (posOf K.M)).map (Value.int .i64))) := by
        rw [List.map_append, List.map_append, List.length_append, List.map_cons, List.map_cons, show posOf K.M x = px from hpx]
        exact hown2
      go_roundg b'.length
      case measure => simp
      case rel => exact ⟨a ++ [x], b', hab'.out, rfl, rfl, HOn.out, HBx.out.trans hb2⟩
end Go.Proofs.Ytencclpcebpgmaa
/- A block that a number says; no condition. -/
namespace Go.Proofs.Ytencclpcebpgmaa
open Go.RowKit Go.Maps

def fillF (x : Int) : Nat → Int := upd (upd (upd (upd nought 0 (x % 256)) 1 (x / 256)) 500 (x % 256)) 1023 (x % 251)
theorem built59f (a b c d : Int) (u : World) : (Instr.build 59 #[(0, .int .u8 a), (1, .int .u8 b), (500, .int .u8 c), (1023, .int .u8 d)]).run Try.prog u = .ok (.agg (blk (upd (upd (upd (upd nought 0 a) 1 b) 500 c) 1023 d))) u := by
  have z25 := zero25
  have hs := blk_set
  have hz := blk_size
  generalize nought = N at *
  have hne : blk N ≠ #[] := fun q => by have := hz N; rw [q] at this; simp at this
  simp [Instr.build, z25, run_underlying Try.underlying59, Try.sizeOf5, Instr.fill, Value.cells, hs, hne, hz]
theorem wpList_build59f {ops : Array Oper} {rest : List Oper} {o : Oper} {A : Act} {w : World} {Q : Exit → Act → World → Prop} (hgd : o.guard = none) (x0 x1 x2 x3 : Operand) (ho : o.op = .build 59 #[(0, x0), (1, x1), (500, x2), (1023, x3)])
    (a b c d : Int) (h0 : A.eval x0 = .int .u8 a) (h1 : A.eval x1 = .int .u8 b) (h2 : A.eval x2 = .int .u8 c) (h3 : A.eval x3 = .int .u8 d) {F : Nat → Int} (hF : upd (upd (upd (upd nought 0 a) 1 b) 500 c) 1023 d = F)
    (h : wpList Try.prog ops Q rest (A.put o.dst (.agg (blk F))) w) : wpList Try.prog ops Q (o :: rest) A w :=
  wpList_plain hgd fun _ hK => by
    have e := built59f a b c d w
    rw [hF] at e
    have e' : (execOp A.eval o).run Try.prog w = .ok (.value (.agg (blk F))) w := by
      generalize blk F = Z at *
      simp [execOp, ho, h0, h1, h2, h3, e]
    unfold Oper.wp
    rw [e']
    exact hK _ _ h
set_option maxRecDepth 20000 in
set_option maxHeartbeats 1000000 in
theorem fill_any (x : Int) (hx : 0 ≤ x ∧ x < 65536) (w : World) : Calls Try.prog 35 #[.int .u16 x] w fun e w' => e = .returned (.agg (blk (fillF x))) ∧ Below w.heap.size w w' := by
  have z25 := zero25
  have hF : upd (upd (upd (upd nought 0 (x % 256)) 1 (x / 256)) 500 (x % 256)) 1023 (x % 251) = fillF x := rfl
  have HF : Hid (upd (upd (upd (upd nought 0 (x % 256)) 1 (x / 256)) 500 (x % 256)) 1023 (x % 251) = fillF x) := hF
  clear hF
  generalize fillF x = F at *
  go_enter Try.func35, Try.ntmps35
  have hq : IntKind.u16.wrap (x.tdiv 256) % 256 = x / 256 := by
    rw [IntKind.wrap_u16, Int.tdiv_eq_ediv_of_nonneg hx.1]
    omega
  go_wp2_with (first | refine wpList_build59f rfl (.tmp 4) (.tmp 7) (.tmp 9) (.tmp 12) rfl _ _ _ _ rfl rfl rfl rfl (F := F) (by rw [hq]; exact HF.out) ?_ | refine wpList_store25_new rfl (.tmp 2) (.tmp 13) rfl F _ rfl rfl ?_)
  exact ret25 rfl w.heap.size F rfl (heap_alloc_new _ _) rfl ⟨rfl, below_new _ _⟩
theorem fill_can (x : Int) (hx : 0 ≤ x ∧ x < 65536) : Can (fillF x) := by
  refine ⟨fun i => ?_, fun i hi => ?_⟩
  · unfold fillF upd nought
    (repeat' split) <;> omega
  · unfold fillF upd nought
    rw [if_neg (by omega), if_neg (by omega), if_neg (by omega), if_neg (by omega)]
theorem fill_inj {x y : Int} (h : fillF x = fillF y) : x = y := by
  have h0 := congrFun h 0
  have h1 := congrFun h 1
  simp [fillF, upd] at h0 h1
  omega
theorem fill_zero : fillF 0 = nought := by
  funext i
  unfold fillF upd nought
  (repeat' split) <;> rfl
theorem sameB_refl (f : Nat → Int) : sameB f f = true := by
  unfold sameB
  simp
theorem fill_same {x y : Int} (hx : 0 ≤ x ∧ x < 65536) (hy : 0 ≤ y ∧ y < 65536) : sameB (fillF x) (fillF y) = decide (x = y) := by
  by_cases h : x = y
  · subst h
    rw [sameB_refl]
    simp
  · have : sameB (fillF x) (fillF y) = false := by
      cases hs : sameB (fillF x) (fillF y)
      · rfl
      · exact absurd (fill_inj (((fill_can x hx).same (fill_can y hy)).1 hs)) h
    rw [this]
    simp [h]
end Go.Proofs.Ytencclpcebpgmaa
/- Regions whose order is drawn, walked step by step: what only reads may come at any time, what acts comes where nothing else may, two that act come in either order; S holds all along. -/
namespace Go.Proofs.Ytencclpcebpgmaa
open Go.RowKit

/-- A step: what only reads (.inl i), what acts alone (.inr (.inl i)), two that act in either order (.inr (.inr (i, j))). -/
abbrev Stp : Type := Nat ⊕ (Nat ⊕ (Nat × Nat))
abbrev StO : Type := Oper ⊕ (Oper ⊕ (Oper × Oper))
def Stp.many : Stp → Nat
  | .inl _ => 1
  | .inr (.inl _) => 1
  | .inr (.inr _) => 2
def manyOf : List Stp → Nat
  | [] => 0
  | s :: r => Stp.many s + manyOf r
section
variable {P : Program} {ops : Array Oper} {Q : Exit → Act → World → Prop} {S : World → Prop}
def stB (ops : Array Oper) : List Stp → Array Bool → Bool
  | [], listed => (Region.ready .any ops listed).isEmpty
  | .inl i :: r, listed => (Region.ready .any ops listed).contains i && Region.free .any ops listed i && (ops[i]?).isSome && stB ops r (listed.setIfInBounds i true)
  | .inr (.inl i) :: r, listed => (Region.ready .any ops listed == [i]) && (ops[i]?).isSome && stB ops r (listed.setIfInBounds i true)
  | .inr (.inr (i, j)) :: r, listed => (Region.ready .any ops listed == [i, j]) && (ops[i]?).isSome && (ops[j]?).isSome && (Region.ready .any ops (listed.setIfInBounds i true) == [j]) && (Region.ready .any ops (listed.setIfInBounds j true) == [i]) &&
      stB ops r ((listed.setIfInBounds i true).setIfInBounds j true) && stB ops r ((listed.setIfInBounds j true).setIfInBounds i true)
def inSt (ol : List Oper) : List Stp → List StO
  | [] => []
  | .inl i :: r => match ol[i]? with
    | some o => .inl o :: inSt ol r
    | none => inSt ol r
  | .inr (.inl i) :: r => match ol[i]? with
    | some o => .inr (.inl o) :: inSt ol r
    | none => inSt ol r
  | .inr (.inr (i, j)) :: r => match ol[i]?, ol[j]? with
    | some x, some y => .inr (.inr (x, y)) :: inSt ol r
    | _, _ => inSt ol r
def wpSt (P : Program) (ops : Array Oper) (Q : Exit → Act → World → Prop) (S : World → Prop) : List StO → Act → World → Prop
  | [], a, w => Q .normal a w
  | .inl o :: r, a, w => ∃ v, YieldsIf P ops S o v a ∧ wpSt P ops Q S r (a.put o.dst v) w
  | .inr (.inl o) :: r, a, w => wpAct P ops Q S o (wpSt P ops Q S r) a w
  | .inr (.inr (x, y)) :: r, a, w => wpAct P ops Q S x (wpAct P ops Q S y (wpSt P ops Q S r)) a w ∧ wpAct P ops Q S y (wpAct P ops Q S x (wpSt P ops Q S r)) a w
theorem wpSt_any {ol : List Oper} (hs : Region.noSelect ol.toArray = true) (hQ : ∀ d v c a w, Q (.panic c) (a.put d v) w → Q (.panic c) a w) : ∀ (l : List Stp) (listed : Array Bool) (a : Act) (w : World), S w →
    stB ol.toArray l listed = true → wpSt P ol.toArray Q S (inSt ol l) a w → wpAnyH P .any ol.toArray Q S (manyOf l) listed a w
  | [], listed, a, w, _, hB, h => wpAnyH_done (by simpa [stB] using hB) h _
  | .inl i :: r, listed, a, w, hS, hB, h => by
    simp only [stB, Bool.and_eq_true] at hB
    obtain ⟨⟨⟨h1, h2⟩, h3⟩, h4⟩ := hB
    obtain ⟨o, hi⟩ := Option.isSome_iff_exists.1 h3
    have hi' : ol[i]? = some o := by simpa using hi
    simp only [inSt, hi', wpSt] at h
    obtain ⟨v, hy, hr⟩ := h
    rw [show manyOf (.inl i :: r) = manyOf r + 1 by simp [manyOf, Stp.many]; omega]
    exact wpAnyH_take hi hs h2 h1 (fun c a w => hQ _ _ c a w) hy hS (wpSt_any hs hQ r _ _ w hS h4 hr)
  | .inr (.inl i) :: r, listed, a, w, hS, hB, h => by
    simp only [stB, Bool.and_eq_true, beq_iff_eq] at hB
    obtain ⟨⟨h1, h3⟩, h2⟩ := hB
    obtain ⟨o, hi⟩ := Option.isSome_iff_exists.1 h3
    have hi' : ol[i]? = some o := by simpa using hi
    simp only [inSt, hi', wpSt] at h
    rw [show manyOf (.inr (.inl i) :: r) = manyOf r + 1 by simp [manyOf, Stp.many]; omega]
    refine wpAnyH_all h1 (by simp) fun j hj => ?_
    obtain rfl : j = i := by simpa using hj
    exact wpOp_act hi (fun a' w' hS' hK => wpSt_any hs hQ r _ a' w' hS' h2 hK) h
  | .inr (.inr (i, j)) :: r, listed, a, w, hS, hB, h => by
    simp only [stB, Bool.and_eq_true, beq_iff_eq] at hB
    obtain ⟨⟨⟨⟨⟨⟨h1, h2⟩, h3⟩, h4⟩, h5⟩, h6⟩, h7⟩ := hB
    obtain ⟨x, hx⟩ := Option.isSome_iff_exists.1 h2
    obtain ⟨y, hy⟩ := Option.isSome_iff_exists.1 h3
    have hx' : ol[i]? = some x := by simpa using hx
    have hy' : ol[j]? = some y := by simpa using hy
    simp only [inSt, hx', hy', wpSt] at h
    rw [show manyOf (.inr (.inr (i, j)) :: r) = (manyOf r + 1) + 1 by simp [manyOf, Stp.many]; omega]
    refine wpAnyH_all h1 (by simp) fun k hk => ?_
    simp only [List.mem_cons, List.not_mem_nil, or_false] at hk
    rcases hk with rfl | rfl
    · refine wpOp_act hx (fun a' w' hS' hK => ?_) h.1
      refine wpAnyH_all h4 (by simp) fun k hk => ?_
      obtain rfl : k = j := by simpa using hk
      exact wpOp_act hy (fun a' w' hS' hK => wpSt_any hs hQ r _ a' w' hS' h6 hK) hK
    · refine wpOp_act hy (fun a' w' hS' hK => ?_) h.2
      refine wpAnyH_all h5 (by simp) fun k hk => ?_
      obtain rfl : k = i := by simpa using hk
      exact wpOp_act hx (fun a' w' hS' hK => wpSt_any hs hQ r _ a' w' hS' h7 hK) hK
/-- A region that draws its order, walked by these steps. -/
theorem wp_region_steps {id : Nat} {a : Act} {w : World} {ol : List Oper} (l : List Stp) (hm : P.follows .mixedOrders = true) (hl : manyOf l = ol.length)
    (hB : (Region.noSelect ol.toArray && stB ol.toArray l (Array.replicate ol.toArray.size false)) = true) (hQ : ∀ d v c a w, Q (.panic c) (a.put d v) w → Q (.panic c) a w)
    (hS : S w.drew) (h : wpSt P ol.toArray Q S (inSt ol l) a w.drew) : (Code.region id ol.toArray true).wp P Q a w := by
  simp only [Bool.and_eq_true] at hB
  have h1 := wpSt_any hB.1 hQ l _ a w.drew hS hB.2 h
  rw [hl] at h1
  exact wp_region_held hm (by simpa using h1)
variable {r : List StO} {a : Act} {w : World} {o x y : Oper} {K : Act → World → Prop}
theorem wpSt_nil (h : Q .normal a w) : wpSt P ops Q S [] a w := h
theorem wpSt_yield {v : Value} (hw : Region.wanted o (yielded ops a.tmps) = true) (hr : ∀ u, S u → (execOp a.eval o).run P u = .ok (.value v) u) (h : wpSt P ops Q S r (a.put o.dst v) w) : wpSt P ops Q S (.inl o :: r) a w :=
  ⟨v, .inl ⟨hw, hr⟩, h⟩
theorem wpSt_move (hw : Region.wanted o (yielded ops a.tmps) = true) (x : Operand) (ho : o.op = .move x) (h : wpSt P ops Q S r (a.put o.dst (a.eval x)) w) : wpSt P ops Q S (.inl o :: r) a w :=
  wpSt_yield hw (fun u _ => by simp [execOp, ho]) h
theorem wpSt_skip (hw : Region.wanted o (yielded ops a.tmps) = false) (h : wpSt P ops Q S r (a.put o.dst undef) w) : wpSt P ops Q S (.inl o :: r) a w := ⟨undef, .inr ⟨hw, rfl⟩, h⟩
theorem wpSt_act (h : wpAct P ops Q S o (wpSt P ops Q S r) a w) : wpSt P ops Q S (.inr (.inl o) :: r) a w := h
theorem wpSt_fork (h1 : wpAct P ops Q S x (wpAct P ops Q S y (wpSt P ops Q S r)) a w) (h2 : wpAct P ops Q S y (wpAct P ops Q S x (wpSt P ops Q S r)) a w) : wpSt P ops Q S (.inr (.inr (x, y)) :: r) a w := ⟨h1, h2⟩
theorem act_skip (hS : S w) (hw : Region.wanted o (yielded ops a.tmps) = false) (h : K (a.put o.dst undef) w) : wpAct P ops Q S o K a w := by
  unfold wpAct
  rw [hw]
  exact ⟨hS, h⟩
theorem act_makes {w' : World} {v : Value} (hw : Region.wanted o (yielded ops a.tmps) = true) (hr : (execOp a.eval o).run P w = .ok (.value v) w') (hS : S w') (h : K (a.put o.dst v) w') : wpAct P ops Q S o K a w := by
  unfold wpAct
  rw [if_pos hw]
  unfold Oper.wp
  rw [hr]
  exact ⟨hS, h⟩
theorem act_call (hw : Region.wanted o (yielded ops a.tmps) = true) (f : FuncId) (xs : List Operand) (ts : Array TypeId)
    (ho : o.op = .call { callee := .value (.func f), args := xs.toArray, argTypes := ts }) (hc : ∀ args u, (callFunc f args).run P u = .ok (.enter f args) u) (args : List Value) (hx : xs.map a.eval = args)
    (h : Calls P f args.toArray w fun e w' => ∃ v, e = .returned v ∧ S w' ∧ K (a.put o.dst v) w') : wpAct P ops Q S o K a w := by
  unfold wpAct
  rw [if_pos hw]
  unfold Oper.wp execOp
  have e : (do let d ← resolve a.eval { callee := .value (.func f), args := xs.toArray, argTypes := ts } o.type; invoke d.target d.args : Sem Next).run P w = .ok (.enter f args.toArray) w := by
    have hx' : xs.toArray.map a.eval = args.toArray := by rw [← hx]; simp
    simp only [resolve, hx']
    simp [Act.eval, Deferred.ofValue, invoke, hc]
  simp only [ho]
  rw [e]
  unfold Oper.upon
  exact h.mono fun e w' ⟨v, he, h1, h2⟩ => by subst he; exact ⟨h1, h2⟩
end
end Go.Proofs.Ytencclpcebpgmaa
/- A cache and its disk that a function made itself, with blocks beside them that stay: each call once more, in one form; no condition but that numbers do not pass their greatest. -/
namespace Go.Proofs.Ytencclpcebpgmaa
open Go.RowKit Go.Maps

structure CS (w W : World) (K : KLoc) (L : Loc) (s : CSt) (t : St) (ks : List (Nat × Obj)) : Prop where
  cd : CD W K L s t
  newK : ∀ k, K.has k → w.heap.size ≤ k
  newL : ∀ k, L.has k → w.heap.size ≤ k
  below : Below w.heap.size w W
  keep : ∀ p ∈ ks, W.heap[p.1]? = some p.2 ∧ ¬ K.has p.1 ∧ ¬ L.has p.1
def Sit (w W : World) (c d : Nat) (s : CSt) (t : St) (ks : List (Nat × Obj)) : Prop := ∃ K L, K.c = c ∧ L.d = d ∧ CS w W K L s t ks
variable {w W : World} {c d : Nat} {s : CSt} {t : St} {ks : List (Nat × Obj)} {K : KLoc} {L : Loc}
theorem CS.goes {W' : World} {K' : KLoc} {L' : Loc} {s' : CSt} {t' : St} (h : CS w W K L s t ks) (hD : CD W' K' L' s' t') (hG : GoesC W W' K L K' L') : CS w W' K' L' s' t' ks := by
  have hsz := h.below.size
  refine ⟨hD, fun k hk => ?_, fun k hk => ?_, h.below.trans (hG.fr.below (fun i q => q.elim (h.newK i) (h.newL i)) hsz), fun p hp => ?_⟩
  · rcases hG.ownK k hk with q | q
    · exact h.newK k q
    · omega
  · rcases hG.ownL k hk with q | q
    · exact h.newL k q
    · omega
  · obtain ⟨h1, h2, h3⟩ := h.keep p hp
    have hlt := (Array.getElem?_eq_some_iff.1 h1).1
    refine ⟨(hG.fr.block p.1 hlt fun q => q.elim h2 h3).trans h1, fun q => ?_, fun q => ?_⟩
    · rcases hG.ownK p.1 q with q | q
      · exact h2 q
      · omega
    · rcases hG.ownL p.1 q with q | q
      · exact h3 q
      · omega
theorem Sit.goes {W' : World} {K' : KLoc} {L' : Loc} {s' : CSt} {t' : St} (hc : K.c = c) (hd : L.d = d) (h : CS w W K L s t ks) (hD : CD W' K' L' s' t') (hG : GoesC W W' K L K' L') : Sit w W' c d s' t' ks := ⟨K', L', hG.c.trans hc, hG.d.trans hd, h.goes hD hG⟩
theorem Sit.later {W' : World} (h : Sit w W c d s t ks) (hb : Below W.heap.size W W') : Sit w W' c d s t ks := by
  obtain ⟨K, L, hc, hd, h⟩ := h
  exact Sit.goes hc hd h (h.cd.later hb) (GoesC.ofBelow K L hb)
theorem Sit.drew (h : Sit w W c d s t ks) : Sit w W.drew c d s t ks := h.later ⟨rfl, rfl, rfl, Nat.le_refl _, fun _ _ => rfl⟩
theorem Sit.add (h : Sit w W c d s t ks) (o : Obj) : Sit w (W.alloc o) c d s t ((W.heap.size, o) :: ks) := by
  obtain ⟨K, L, hc, hd, h⟩ := h
  have h2 := h.goes (h.cd.later (below_new W o)) (GoesC.ofBelow K L (below_new W o))
  refine ⟨K, L, hc, hd, h2.cd, h2.newK, h2.newL, h2.below, fun p hp => ?_⟩
  rcases List.mem_cons.1 hp with rfl | hp
  · exact ⟨heap_alloc_new W o, fun q => by have := h.cd.cache.lt _ q; simp only at this; omega, fun q => by have := h.cd.disk.lt _ q; simp only at this; omega⟩
  · exact h2.keep p hp
/-- A block beside is written. -/
theorem Sit.setRow {g : Nat} {cs cs' : Array Value} {ty : TypeId} (h : Sit w W c d s t ((g, .cells cs ty) :: ks)) (hg : w.heap.size ≤ g) (hks : ∀ p ∈ ks, p.1 ≠ g) : Sit w (W.setRow g cs') c d s t ((g, .cells cs' ty) :: ks) := by
  obtain ⟨K, L, hc, hd, h⟩ := h
  obtain ⟨h1, h2, h3⟩ := h.keep _ (List.mem_cons_self ..)
  refine ⟨K, L, hc, hd, h.cd.setRow h2 h3 _, h.newK, h.newL, h.below.trans ⟨rfl, rfl, rfl, by simp, fun k hk => setRow_other W g k _ (by omega)⟩, fun p hp => ?_⟩
  rcases List.mem_cons.1 hp with rfl | hp
  · exact ⟨setRow_heap _ _ _ _ _ _ h1, h2, h3⟩
  · obtain ⟨a1, a2, a3⟩ := h.keep p (List.mem_cons_of_mem _ hp)
    exact ⟨(setRow_other W g p.1 _ (hks p hp)).trans a1, a2, a3⟩
theorem Sit.blk (h : Sit w W c d s t ks) {g : Nat} {o : Obj} (hm : (g, o) ∈ ks) : W.heap[g]? = some o := by
  obtain ⟨K, L, hc, hd, h⟩ := h
  exact (h.keep _ hm).1
theorem Sit.below (h : Sit w W c d s t ks) : Below w.heap.size w W := by
  obtain ⟨K, L, hc, hd, h⟩ := h
  exact h.below
theorem Sit.ok (h : Sit w W c d s t ks) : COk s ∧ Ok t := by
  obtain ⟨K, L, hc, hd, h⟩ := h
  exact ⟨h.cd.cache.ok, h.cd.disk.ok⟩
theorem Sit.drop (h : Sit w W c d s t ks) {ks' : List (Nat × Obj)} (hs : ∀ p ∈ ks', p ∈ ks) : Sit w W c d s t ks' := by
  obtain ⟨K, L, hc, hd, h⟩ := h
  exact ⟨K, L, hc, hd, h.cd, h.newK, h.newL, h.below, fun p hp => h.keep p (hs p hp)⟩
/-- A cache of a disk. -/
theorem sit_new {n : Int} (h : Sits w W d t ks) (hs : 1 ≤ n ∧ n ≤ 4096) :
    Calls Try.prog 11 #[ptr d, .int .i64 n] W fun e W' => ∃ c, e = .returned (.tuple #[ptr c, .int .i64 0]) ∧ Sit w W' c d (newC n) t ks := by
  obtain ⟨L, rfl, h⟩ := h
  refine (newC_ok h.disk hs).mono ?_
  rintro e W' ⟨rfl, h1, h2⟩
  have hsz := h.below.size
  refine ⟨_, rfl, newK W L.d, L, rfl, rfl, ⟨h1, h.disk.later h2, rfl, ?_⟩, ?_, h.new, below_next h.below h2, fun p hp => ?_⟩
  · rintro k hk hl
    have := h.disk.lt k hl
    rcases hk with q | q | q | q
    · simp only [newK] at q; omega
    · simp only [newK] at q; omega
    · simp only [newK] at q; omega
    · simp [newK] at q
  · rintro k (q | q | q | q)
    · simp only [newK] at q; omega
    · simp only [newK] at q; omega
    · simp only [newK] at q; omega
    · simp [newK] at q
  · obtain ⟨a1, a2⟩ := h.keep p hp
    have hlt := (Array.getElem?_eq_some_iff.1 a1).1
    refine ⟨heap_kept a1 h2, ?_, a2⟩
    rintro (q | q | q | q)
    · simp only [newK] at q; omega
    · simp only [newK] at q; omega
    · simp only [newK] at q; omega
    · simp [newK] at q
theorem sit_read (h : Sit w W c d s t ks) (hr : Room t) (k : Int) : Calls Try.prog 24 #[ptr c, .int .i64 k] W fun e W' => e = .returned (.tuple #[.agg (blk (rdB s t k)), .int .i64 (usedE s t k)]) ∧ Sit w W' c d (rdC s t k) (rdD s t k) ks := by
  obtain ⟨K, L, rfl, rfl, h⟩ := h
  exact (readC_of h.cd hr k).mono fun e W' ⟨h1, K', L', h2, h3⟩ => ⟨h1, Sit.goes rfl rfl h h2 h3⟩
theorem sit_put (h : Sit w W c d s t ks) (k : Int) {f : Nat → Int} (hf : Can f) : Calls Try.prog 25 #[ptr c, .int .i64 k, .agg (Go.Proofs.Ytencclpcebpgmaa.blk f)] W fun e W' => e = .returned (.int .i64 (usedE s t k)) ∧ Sit w W' c d (putC s t k f) t ks := by
  obtain ⟨K, L, rfl, rfl, h⟩ := h
  exact (putC_of h.cd k hf).mono fun e W' ⟨h1, K', L', h2, h3⟩ => ⟨h1, Sit.goes rfl rfl h h2 h3⟩
theorem sit_flush (h : Sit w W c d s t ks) (hr : Room t) (k : Int) : Calls Try.prog 26 #[ptr c, .int .i64 k] W fun e W' => e = .returned (.int .i64 (flushE s t k)) ∧ Sit w W' c d (flushC s t k) (flushD s t k) ks := by
  obtain ⟨K, L, rfl, rfl, h⟩ := h
  exact (flushC_of h.cd hr k).mono fun e W' ⟨h1, K', L', h2, h3⟩ => ⟨h1, Sit.goes rfl rfl h h2 h3⟩
theorem sit_fast (h : Sit w W c d s t ks) : Calls Try.prog 27 #[ptr c] W fun e W' => e = .returned (.int .i64 (fastN s.row : Int)) ∧ W' = W := by
  obtain ⟨K, L, rfl, rfl, h⟩ := h
  exact fast_of h.cd.cache
theorem sit_len (h : Sit w W c d s t ks) : Calls Try.prog 29 #[ptr c] W fun e W' => e = .returned (.int .i64 (s.row.length : Int)) ∧ W' = W := by
  obtain ⟨K, L, rfl, rfl, h⟩ := h
  exact len_of_cache h.cd.cache
theorem sit_order (h : Sit w W c d s t ks) : Calls Try.prog 31 #[ptr c] W fun e W' => ∃ p cap, e = .returned (.slice p (ordV s.row).length cap) ∧ IntsAt W' p (ordV s.row) ∧ (ordV s.row).length ≤ cap ∧ Below W.heap.size W W' ∧ (∀ b off, p = some ⟨b, off, none⟩ → W.heap.size ≤ b) := by
  obtain ⟨K, L, rfl, rfl, h⟩ := h
  refine (order_of h.cd.cache).mono ?_
  rintro e W' ⟨v, rfl, h1, h2⟩
  obtain ⟨p, cp, rfl, h3, h4, h5⟩ := ints_of_row h1
  exact ⟨p, cp, rfl, h3, h4, h2, h5⟩
theorem dsit_read (h : Sit w W c d s t ks) (hr : Room t) (k : Int) : Calls Try.prog 37 #[ptr d, .int .i64 k] W fun e W' => e = .returned (.tuple #[.agg (Go.Proofs.Ytencclpcebpgmaa.blk (readB t k)), .int .i64 (refV t k)]) ∧ Sit w W' c d s (readV t k) ks := by
  obtain ⟨K, L, rfl, rfl, h⟩ := h
  unfold readB readV
  by_cases hb : refV t k = 0
  · rw [if_pos hb, if_pos hb, hb]
    refine (read_ok h.cd.disk hr hb).mono ?_
    rintro e W' ⟨rfl, h2, h3⟩
    obtain ⟨a1, a2⟩ := h.cd.disks h2 h3
    exact ⟨rfl, Sit.goes rfl rfl h a1 a2⟩
  · rw [if_neg hb, if_neg hb]
    refine (read_bad h.cd.disk hb).mono ?_
    rintro e W' ⟨rfl, h2⟩
    exact ⟨rfl, Sit.later ⟨K, L, rfl, rfl, h⟩ h2⟩
theorem dsit_made (h : Sit w W c d s t ks) : Calls Try.prog 16 #[ptr d] W fun e W' => e = .returned (.int .i64 t.made) ∧ W' = W := by
  obtain ⟨K, L, rfl, rfl, h⟩ := h
  exact made_of h.cd.disk
theorem dsit_reads (h : Sit w W c d s t ks) : Calls Try.prog 15 #[ptr d] W fun e W' => e = .returned (.int .i64 t.reads) ∧ W' = W := by
  obtain ⟨K, L, rfl, rfl, h⟩ := h
  exact reads_of h.cd.disk
/-- New of a size that is none. -/
theorem newC_bad (hD : DiskAt W L t) {n : Int} (hs : n < 1 ∨ 4096 < n) : Calls Try.prog 11 #[ptr L.d, .int .i64 n] W fun e W' => e = .returned (.tuple #[nilp, .int .i64 2]) ∧ W' = W := by
  have hl := len_of hD
  have hn := hD.ok.n
  have hz0 : ¬ t.n = 0 := by omega
  clear hD
  unfold ptr nilp
  rcases hs with hs | hs
  · go_enter Try.func11, Try.ntmps11
    go_wp2_with (first | (go_at_call 41; refine hl.mono ?_; rintro e W ⟨rfl, rfl⟩))
    go_ret2
    exact ⟨rfl, rfl⟩
  · have hs' : ¬ n < 1 := by omega
    go_enter Try.func11, Try.ntmps11
    go_wp2_with (first | (go_at_call 41; refine hl.mono ?_; rintro e W ⟨rfl, rfl⟩))
    go_ret2
    exact ⟨rfl, rfl⟩
theorem newC_none {v : Value} (h : NoneAt W v) (n : Int) : Calls Try.prog 11 #[v, .int .i64 n] W fun e W' => e = .returned (.tuple #[nilp, .int .i64 1]) ∧ W' = W := by
  have hl := len_none h
  clear h
  unfold nilp
  go_enter Try.func11, Try.ntmps11
  go_wp2_with (first | (go_at_call 41; refine hl.mono ?_; rintro e W ⟨rfl, rfl⟩))
  go_ret2
  exact ⟨rfl, rfl⟩
theorem sit_bad (h : Sit w W c d s t ks) {n : Int} (hs : n < 1 ∨ 4096 < n) : Calls Try.prog 11 #[ptr d, .int .i64 n] W fun e W' => e = .returned (.tuple #[nilp, .int .i64 2]) ∧ W' = W := by
  obtain ⟨K, L, rfl, rfl, h⟩ := h
  exact newC_bad h.cd.disk hs
end Go.Proofs.Ytencclpcebpgmaa
/- The cache of the document's examples; what the laws look at first; no condition. -/
namespace Go.Proofs.Ytencclpcebpgmaa
open Go.RowKit Go.Maps
variable {w W : World} {c d : Nat} {s : CSt} {t : St} {ks : List (Nat × Obj)}

set_option maxRecDepth 20000 in
theorem ten_any (hB : Below w.heap.size w W) (hk : ∀ p ∈ ks, W.heap[p.1]? = some p.2) :
    Calls Try.prog 34 #[] W fun e W' => ∃ c d, e = .returned (.tuple #[ptr d, ptr c, .bool true]) ∧ Sit w W' c d (newC 2) (newV 10) ks := by
  have hn := sits_new (n := 10) (by decide) hB hk
  have HN : Hid (Calls Try.prog 38 _ _ _) := hn
  clear hn hB hk
  go_enter Try.func34, Try.ntmps34
  go_wp2_with (go_at_call 38; fail)
  refine HN.out.mono ?_
  rintro e W1 ⟨d, rfl, h1⟩
  have HC : Hid (Calls Try.prog 11 _ _ _) := sit_new h1 (n := 2) (by omega)
  clear HN h1
  go_wp2_with (go_at_call 11; fail)
  refine HC.out.mono ?_
  rintro e W2 ⟨c, rfl, h2⟩
  have H2 : Hid (Sit w W2 c d (newC 2) (newV 10) ks) := h2
  clear HC h2
  unfold ptr
  go_wp2
  go_ret3
  exact ⟨c, d, rfl, H2.out⟩
end Go.Proofs.Ytencclpcebpgmaa
/- Images as a law builds them: blocks with their numbers, one behind the other; no condition. -/
namespace Go.Proofs.Ytencclpcebpgmaa
open Go.RowKit Go.Maps
/-- The cells of a block with its number. -/
def celRow (c : Cel) : List Value := .int .i64 c.1 :: (blk c.2).toList
def celCells (l : List Cel) : List Value := l.flatMap celRow
theorem celRow_len (c : Cel) : (celRow c).length = 1025 := by simp [celRow, blk_size]
theorem celCells_len : ∀ l : List Cel, (celCells l).length = l.length * 1025
  | [] => rfl
  | r :: t => by
    have ih := celCells_len t
    have h1 := celRow_len r
    show (celRow r ++ celCells t).length = _
    rw [List.length_append, ih, h1, List.length_cons]
    omega
theorem celCells_append (a b : List Cel) : celCells (a ++ b) = celCells a ++ celCells b := by simp [celCells]
theorem celCells_one (c : Cel) : celCells [c] = celRow c := by simp [celCells]
theorem celRow_one (c : Cel) : ∀ v ∈ celRow c, v.oneCell' = true := by
  intro v hv
  simp only [celRow, List.mem_cons] at hv
  rcases hv with rfl | h
  · rfl
  · have := blk_one c.2
    rw [Array.all_eq_true_iff_forall_mem] at this
    exact this v (by simpa using h)theorem info85 : (Try.prog.info? 94).map (fun i => (i.zero, i.size, i.bytes)) = some (some (.agg (celRow (0, nought)).toArray), 1025, 1032) := by kernel_rfl
theorem zero85 : ∀ w, (zeroValue 94).run Try.prog w = .ok (.agg (celRow (0, nought)).toArray) w := by
  obtain ⟨i0, hi0, hz0, hz1, hz2⟩ := info_parts info85
  exact (zero_of_info (t := 94) (P := Try.prog) (by rw [hi0]; exact congrArg some (Prod.ext hz0 hz1))).1
theorem size85 : (Try.prog.info? 94).map (·.size) = some 1025 := by
  obtain ⟨i0, hi0, hz0, hz1, hz2⟩ := info_parts info85
  rw [hi0]
  exact congrArg some hz1
theorem cel_size (c : Cel) : (celRow c).toArray.size = 1025 := by rw [List.size_toArray, celRow_len]
theorem fill_cel (p : Int) (f : Nat → Int) (Z : Array Value) (hZ : Z.size = 1025) (place : Nat → Option (Nat × Nat)) (h0 : place 0 = some (0, 1)) (h1 : place 1 = some (1, 1024)) :
    Instr.fill place Z [(0, .int .i64 p), (1, .agg (blk f))] = some (celRow (p, f)).toArray := by
  have hb := blk_size f
  unfold Instr.fill
  rw [h0]
  simp only [Value.cells, List.size_toArray, List.length_cons, List.length_nil, hZ]
  rw [if_neg (by simp)]
  unfold Instr.fill
  rw [h1]
  simp only [Value.cells, hb]
  rw [fold_over 0 #[.int .i64 p] Z (by rw [hZ]; simp)]
  rw [if_neg (by simp [hZ])]
  rw [fold_over 1 (blk f) _ (by simp [hZ, hb])]
  have hl : Z.toList.length = 1025 := by rw [Array.length_toList, hZ]
  obtain ⟨z0, r, hz, hr⟩ : ∃ z0 r, Z.toList = z0 :: r ∧ r.length = 1024 := by
    cases hz : Z.toList with
    | nil => rw [hz, List.length_nil] at hl; omega
    | cons z0 r => exact ⟨z0, r, rfl, by rw [hz, List.length_cons] at hl; omega⟩
  rw [hz]
  simp only [List.take_zero, List.nil_append, List.take_succ_cons, List.drop_succ_cons, List.drop_zero, List.singleton_append, List.size_toArray, List.length_cons, List.length_nil, hb, Nat.zero_add, Nat.reduceAdd]
  unfold Instr.fill
  rw [List.drop_eq_nil_of_le (by omega), List.append_nil]
  rfl
theorem build85 (p : Int) (f : Nat → Int) (u : World) : (Instr.build 94 #[(0, .int .i64 p), (1, .agg (blk f))]).run Try.prog u = .ok (.agg (celRow (p, f)).toArray) u := by
  have z := zero85
  have hZ : (celRow (0, nought)).toArray.size = 1025 := cel_size _
  generalize (celRow (0, nought)).toArray = Z at *
  have hf := fill_cel p f Z hZ
  simp [Instr.build, z, run_underlying Try.underlying94, Value.cells]
  rw [hf _ rfl rfl]
  simp only [Sem.run_pure]
theorem wpList_build85 {ops : Array Oper} {rest : List Oper} {o : Oper} {a : Act} {w : World} {Q : Exit → Act → World → Prop} (hgd : o.guard = none) (x y : Operand) (ho : o.op = .build 94 #[(0, x), (1, y)])
    (p : Int) (f : Nat → Int) (hx : a.eval x = .int .i64 p) (hy : a.eval y = .agg (blk f)) (h : wpList Try.prog ops Q rest (a.put o.dst (.agg (celRow (p, f)).toArray)) w) : wpList Try.prog ops Q (o :: rest) a w :=
  wpList_plain hgd fun _ hK => by
    have e := build85 p f w
    generalize (celRow (p, f)).toArray = Z at *
    have e' : (execOp a.eval o).run Try.prog w = .ok (.value (.agg Z)) w := by simp [execOp, ho, hx, hy, e]
    unfold Oper.wp
    rw [e']
    exact hK _ _ h
theorem build30 (c : Cel) (u : World) : (Instr.buildSlice 90 1 #[(0, .agg (celRow c).toArray)]).run Try.prog u = .ok (.slice (some ⟨u.heap.size, 0, none⟩) 1 1) (u.alloc (.cells (celRow c).toArray 94)) :=
  build1 90 94 1025 _ _ Try.underlying90 Try.sizeOf94 (by omega) zero85 (cel_size c) u
theorem slice_ofC {w : World} {base e size : Nat} {v : Value} {n : Nat} {xs : List Value} (h : w.ownsRow base e size v n xs) (hn : 0 < n) : ∃ g cap, v = .slice (some ⟨g, 0, none⟩) n cap := by
  rcases h.2 with ⟨_, h⟩ | ⟨g, cap', _, h, _⟩
  · omega
  · exact ⟨g, cap', h⟩
theorem fm_len {α : Type} (row : α → List Value) (n : Nat) (hr : ∀ x, (row x).length = n) : ∀ l : List α, (l.flatMap row).length = l.length * n
  | [] => by simp
  | x :: t => by rw [List.flatMap_cons, List.length_append, hr x, fm_len row n hr t, List.length_cons, Nat.add_mul]; omega
theorem fm_get {α : Type} (row : α → List Value) (n : Nat) (hr : ∀ x, (row x).length = n) : ∀ (l : List α) (i j : Nat) (r : α), l[i]? = some r → j < n → (l.flatMap row)[i * n + j]? = (row r)[j]?
  | [], i, j, r, h, _ => by simp at h
  | x :: t, 0, j, r, h, hj => by
    have h' : x = r := by simpa using h
    subst h'
    rw [List.flatMap_cons, Nat.zero_mul, Nat.zero_add, List.getElem?_append_left (by rw [hr]; exact hj)]
  | x :: t, i + 1, j, r, h, hj => by
    have h' : t[i]? = some r := by simpa using h
    rw [List.flatMap_cons, List.getElem?_append_right (by rw [hr, Nat.add_mul]; omega), hr, show (i + 1) * n + j - n = i * n + j by rw [Nat.add_mul]; omega]
    exact fm_get row n hr t i j r h' hj
/-- An element of a list of blocks with numbers in memory. -/
theorem cel_at {w : World} {base g n cap : Nat} {l : List Cel} (h : w.ownsRow base 94 1025 (.slice (some ⟨g, 0, none⟩) n cap) n (celCells l)) {k K : Nat} {c : Cel} (hK : K = k * 1025) (hk : l[k]? = some c) :
    w.cell? ⟨g, K, none⟩ = some (.int .i64 c.1) ∧ BlkAt w g (K + 1) c.2 := by
  have hc := h.cells (g := g) rfl
  have key : ∀ j, j < 1025 → ∀ v, (celRow c)[j]? = some v → w.cell? ⟨g, K + j, none⟩ = some v := fun j hj v hv => by
    have q0 := (fm_get celRow 1025 celRow_len l k j c hk hj).trans hv
    rw [← hK] at q0
    have q := hc (K + j) v q0
    rwa [Go.WideShapes.add_plain, Nat.zero_add] at q
  clear hK hk hc h
  refine ⟨key 0 (by omega) _ rfl, fun j v hv => ?_⟩
  have hj : j < 1024 := by have := (List.getElem?_eq_some_iff.1 hv).1; rwa [blk_list_len] at this
  rw [Nat.add_assoc, Nat.add_comm 1 j]
  refine key (j + 1) (by omega) v ?_
  rw [show (celRow c)[j + 1]? = (blk c.2).toList[j]? by simp only [celRow, List.getElem?_cons_succ]]
  exact hv
theorem neq58 (f g : Nat → Int) (b : Bool) (hb : sameB f g = b) (u : World) : (binOp .neq 59 (.agg (blk f)) (.agg (blk g))).run Try.prog u = .ok (.bool (!b)) u := by
  have h := eq25 f g u
  rw [hb] at h
  generalize blk f = F at *
  generalize blk g = G at *
  simp only [binOp, Op.equal, Op.maxDepth, Sem.run_bind, h, Result.andThen_ok, Sem.run_pure]
theorem neqg58 (x y : Operand) (F G : Array Value) (u : World) : (eqGuard .neq 59 x y (.agg F) (.agg G)).run Try.prog u = .ok () u := by
  unfold eqGuard
  simp
theorem wpList_pushC {ops : Array Oper} {rest : List Oper} {o : Oper} {a : Act} {W : World} {Q : Exit → Act → World → Prop} (hgd : o.guard = none) (x y : Operand)
    (ho : o.op = .call { callee := .builtin .append, args := #[x, y], argTypes := #[90, 90] }) (B : Nat) (v : Value) (wl : List Cel) (c : Cel) (hx : a.eval x = v)
    (hy : a.eval y = .slice (some ⟨W.heap.size, 0, none⟩) 1 1) (hown : W.ownsRow B 94 1025 v wl.length (celCells wl)) (hB : B ≤ W.heap.size) (hn : wl.length < 1000)
    (h : ∀ v' W', W'.ownsRow B 94 1025 v' (wl ++ [c]).length (celCells (wl ++ [c])) → (W.alloc (.cells (celRow c).toArray 94)).grownBy W' v.ownBlock → Below B W W' → (∀ k, v'.ownBlock = some k → v.ownBlock = some k ∨ W.heap.size < k) → wpList Try.prog ops Q rest (a.put o.dst v') W') :
    wpList Try.prog ops Q (o :: rest) a (W.alloc (.cells (celRow c).toArray 94)) := by
  obtain ⟨i0, hi0, hz0, hz1, hz2⟩ := info_parts info85
  have hown1 := World.ownsRow.alloc hown (.cells (celRow c).toArray 94)
  have hnews : ∀ j u, (celRow c)[j]? = some u → (W.alloc (.cells (celRow c).toArray 94)).cell? ((⟨W.heap.size, 0, none⟩ : Addr).add j) = some u := fun j u hu => by
    rw [Go.WideShapes.add_plain, Nat.zero_add, cell_of_row _ _ j _ 94 _ (heap_alloc_new W _), List.getElem?_toArray]
    exact hu
  refine wpList_append_own_at _ hgd x y 90 ho B 94 i0 _ 1025 1032 Try.underlying90 hi0 hz0 hz1 hz2 (cel_size _) (by decide) v wl.length (celCells wl) hx hown1 ⟨W.heap.size, 0, none⟩ 1 1 (celRow c) hy (by rw [celRow_len]) hnews (celRow_one c)
    (by unfold maxLen; omega) (by omega) (by simp; omega) ?_
  intro v' W' h1 h2 h3 h4
  refine h v' W' (by rw [List.length_append, celCells_append, celCells_one]; exact h1) h2 (((Below.refl _ _).alloc hB _).grown h2 (by simp; omega) fun k hk => (World.ownsRow.lt hown k hk).1) fun k hk => ?_
  rcases h4 with q | q
  · exact .inl (q ▸ hk)
  · rw [q] at hk
    injection hk with hk
    simp at hk
    exact .inr (by omega)
theorem info59b : (Try.prog.info? 59).map (fun i => (i.zero, i.size, i.bytes)) = some (some (.agg (blk nought)), 1024, 1024) := by kernel_rfl
theorem build49 (f : Nat → Int) (u : World) : (Instr.buildSlice 49 1 #[(0, .agg (blk f))]).run Try.prog u = .ok (.slice (some ⟨u.heap.size, 0, none⟩) 1 1) (u.alloc (.cells (blk f) 59)) :=
  build1 49 59 1024 _ _ Try.underlying49 Try.sizeOf59 (by omega) zero25 (blk_size f) u
/-- A list of so many blocks, whatever they are. -/
def Blocks (w : World) (B : Nat) (v : Value) (n : Nat) : Prop := ∃ cs, w.ownsRow B 59 1024 v n cs
theorem blk_ones (f : Nat → Int) : ∀ v ∈ (blk f).toList, v.oneCell' = true := by
  intro v hv
  have := blk_one f
  rw [Array.all_eq_true_iff_forall_mem] at this
  exact this v (by simpa using hv)
theorem wpList_pushB {ops : Array Oper} {rest : List Oper} {o : Oper} {a : Act} {W : World} {Q : Exit → Act → World → Prop} (hgd : o.guard = none) (x y : Operand)
    (ho : o.op = .call { callee := .builtin .append, args := #[x, y], argTypes := #[49, 49] }) (B : Nat) (v : Value) (n : Nat) (f : Nat → Int) (hx : a.eval x = v)
    (hy : a.eval y = .slice (some ⟨W.heap.size, 0, none⟩) 1 1) (hown : Blocks W B v n) (hB : B ≤ W.heap.size) (hn : n < 1000)
    (h : ∀ v' W', Blocks W' B v' (n + 1) → (W.alloc (.cells (blk f) 59)).grownBy W' v.ownBlock → Below B W W' → (∀ k, v'.ownBlock = some k → v.ownBlock = some k ∨ W.heap.size < k) → wpList Try.prog ops Q rest (a.put o.dst v') W') :
    wpList Try.prog ops Q (o :: rest) a (W.alloc (.cells (blk f) 59)) := by
  obtain ⟨i0, hi0, hz0, hz1, hz2⟩ := info_parts info59b
  obtain ⟨cs, hown⟩ := hown
  have hown1 := World.ownsRow.alloc hown (.cells (blk f) 59)
  have hnews : ∀ j u, (blk f).toList[j]? = some u → (W.alloc (.cells (blk f) 59)).cell? ((⟨W.heap.size, 0, none⟩ : Addr).add j) = some u := fun j u hu => by
    rw [Go.WideShapes.add_plain, Nat.zero_add, cell_of_row _ _ j _ 59 _ (heap_alloc_new W _)]
    simpa using hu
  refine wpList_append_own_at _ hgd x y 49 ho B 59 i0 _ 1024 1024 Try.underlying49 hi0 hz0 hz1 hz2 (blk_size _) (by decide) v n cs hx hown1 ⟨W.heap.size, 0, none⟩ 1 1 (blk f).toList hy (by rw [blk_list_len]) hnews (blk_ones f)
    (by unfold maxLen; omega) (by omega) (by simp; omega) ?_
  intro v' W' h1 h2 h3 h4
  refine h v' W' ⟨_, h1⟩ h2 (((Below.refl _ _).alloc hB _).grown h2 (by simp; omega) fun k hk => (World.ownsRow.lt hown k hk).1) fun k hk => ?_
  rcases h4 with q | q
  · exact .inl (q ▸ hk)
  · rw [q] at hk
    injection hk with hk
    simp at hk
    exact .inr (by omega)
end Go.Proofs.Ytencclpcebpgmaa
/- Lists of anything in memory of their own: they grow, are copied, told apart; one cell of a row written; no condition but a bound of their bytes. -/
namespace Go.Proofs.Ytencclpcebpgmaa
open Go.RowKit Go.Maps
section
variable {w W W' : World} {v v' : Value}
theorem append_gen {st e : TypeId} {i : TypeInfo} {z : Value} {size bytes : Nat} (ht : Try.prog.underlying st = some (.slice e)) (hi : Try.prog.info? e = some i) (hz : i.zero = some z) (hsize : i.size = size) (hby : i.bytes = bytes) (hzs : z.cells.size = size) (hsz : 0 < size)
    {B : Nat} {n : Nat} {xs : List Value} (hown : W.ownsRow B e size v n xs) {ad : Addr} {m c : Nat} {news : List Value} (hm : 0 < m) (hl : news.length = m * size)
    (hnews : ∀ j u, news[j]? = some u → W.cell? (ad.add j) = some u) (h1 : ∀ u ∈ news, u.oneCell' = true) (h63 : n + m ≤ maxLen) (hbytes : ((n + m) + (n + m) / 4 + 192) * bytes ≤ 281474976710656) (hB : B ≤ W.heap.size) (ty : TypeId) :
    ∃ v' w', (Builtin.append_ #[st, st] ty #[v, .slice (some ad) m c]).run Try.prog W = .ok v' w' ∧ w'.ownsRow B e size v' (n + m) (xs ++ news) ∧ Fr (fun k => v.ownBlock = some k) W w' ∧ ∀ k, v'.ownBlock = some k → v.ownBlock = some k ∨ W.heap.size ≤ k := by
  obtain ⟨v', w', hr, h2, hg, _⟩ := run_append_own_wide (P := Try.prog) W B st ty e i z size bytes ht hi hz hsize hby hzs hsz v n xs hown ad m c news hl hnews h1 h63 hbytes hB
  refine ⟨v', w', hr, h2, Fr.ofGrown hg, fun k hk => ?_⟩
  have hmx : n + m ≤ 9223372036854775807 := by simp only [maxLen] at h63; omega
  have hmb : m * i.bytes ≤ 281474976710656 := by
    rw [hby]
    exact Nat.le_trans (Nat.mul_le_mul_right _ (by omega)) hbytes
  subst hsize
  subst hby
  rcases hown.2 with ⟨rfl, rfl⟩ | ⟨g, cap, cur, rfl, _, hg', hnc, hcm, hcs, htake⟩
  · rw [run_append_nil (P := Try.prog) W st ty e i _ ht hi hz ad m c news hl hnews hm (by omega) hmb] at hr
    injection hr with q1 q2
    rw [← q1] at hk
    injection hk with hk
    exact .inr (by rw [← hk]; exact Nat.le_refl _)
  · by_cases hroom : n + m ≤ cap
    · have hfit : n * i.size + news.length ≤ cur.size := by rw [hl, hcs, ← Nat.add_mul]; exact Nat.mul_le_mul_right _ hroom
      rw [run_append_room (P := Try.prog) W st ty e i ht hi g n cap cur hg' ad m c news hl hnews h1 hroom hfit] at hr
      injection hr with q1 q2
      rw [← q1] at hk
      exact .inl hk
    · rw [run_append_grow (P := Try.prog) W st ty e i _ ht hi hz ⟨g, 0, none⟩ n cap xs hown.1 (hown.cells (g := g) rfl) ad m c news hl hnews (by omega) (by omega) (growslice_fits_wide (by omega) hbytes)] at hr
      injection hr with q1 q2
      rw [← q1] at hk
      injection hk with hk
      exact .inr (by rw [← hk]; exact Nat.le_refl _)
theorem exec_push {o : Oper} {a : Act} {s y : Operand} {st : TypeId} {ad : Addr} {m c : Nat} (ho : o.op = .call { callee := .builtin .append, args := #[s, y], argTypes := #[st, st] }) (hs : a.eval s = v) (hx : a.eval y = .slice (some ad) m c)
    (hr : (Builtin.append_ #[st, st] o.type #[v, .slice (some ad) m c]).run Try.prog W = .ok v' W') : (execOp a.eval o).run Try.prog W = .ok (.value v') W' := by
  simp [execOp, ho, resolve, invoke, builtin, hs, hx, hr, Result.andThen]
end
section
variable {W : World} {o : Oper} {a : Act}
theorem exec_mv {x : Operand} {v : Value} (ho : o.op = .move x) (hx : a.eval x = v) : (execOp a.eval o).run Try.prog W = .ok (.value v) W := by
  unfold execOp
  simp [ho, hx]
theorem wpList_exec {ops : Array Oper} {rest : List Oper} {Q : Exit → Act → World → Prop} {v : Value} {W' : World} (hgd : o.guard = none) (hr : (execOp a.eval o).run Try.prog W = .ok (.value v) W') (h : wpList Try.prog ops Q rest (a.put o.dst v) W') : wpList Try.prog ops Q (o :: rest) a W := by
  refine wpList_plain hgd fun K' hK' => ?_
  unfold Oper.wp
  rw [hr]
  exact hK' _ _ h
end
section
variable {α : Type} {en : α → List Value} {sz : Nat}
theorem fml (hr : ∀ x, (en x).length = sz) : ∀ l : List α, (l.flatMap en).length = l.length * sz
  | [] => by simp
  | x :: t => by rw [List.flatMap_cons, List.length_append, hr, fml hr t, List.length_cons, Nat.add_mul, Nat.one_mul, Nat.add_comm]
/-- A row with some cells written over. -/
def putE (cur : Array Value) (off : Nat) (r : List Value) : Array Value := (cur.toList.take off ++ r ++ cur.toList.drop (off + r.length)).toArray
theorem own_set (hr : ∀ x, (en x).length = sz) {B e g n c i : Nat} {w : World} {l : List α} {x : α} (h : w.ownsRow B e sz (.slice (some ⟨g, 0, none⟩) n c) n (l.flatMap en)) (hl : l.length = n) (hi : i < n) :
    ∃ cur, w.heap[g]? = some (.cells cur e) ∧ i * sz + sz ≤ cur.size ∧ (w.setRow g (putE cur (i * sz) (en x))).ownsRow B e sz (.slice (some ⟨g, 0, none⟩) n c) n ((l.set i x).flatMap en) := by
  obtain ⟨_, h2⟩ := h
  rcases h2 with ⟨q, _⟩ | ⟨g', cap, cur, hv, hB, hg, hnc, hcm, hcs, ht⟩
  · simp at q
  · injection hv with q1 q2 q3
    injection q1 with q1
    injection q1 with q1
    subst q1; subst q3
    have el : l = l.take i ++ l[i] :: l.drop (i + 1) := by rw [← List.drop_eq_getElem_cons (by omega), List.take_append_drop]
    have es : l.set i x = l.take i ++ x :: l.drop (i + 1) := List.set_eq_take_append_cons_drop.trans (if_pos (by omega))
    have hA : ((l.take i).flatMap en).length = i * sz := by rw [fml hr, List.length_take, Nat.min_eq_left (by omega)]
    have hC : ((l.drop (i + 1)).flatMap en).length = (n - (i + 1)) * sz := by rw [fml hr, List.length_drop, hl]
    have hF : l.flatMap en = (l.take i).flatMap en ++ (en l[i] ++ (l.drop (i + 1)).flatMap en) := by
      conv => lhs; rw [el]
      rw [List.flatMap_append, List.flatMap_cons]
    have hcur : cur.toList = (l.take i).flatMap en ++ (en l[i] ++ ((l.drop (i + 1)).flatMap en ++ cur.toList.drop (n * sz))) := by
      conv => lhs; rw [← List.take_append_drop (n * sz) cur.toList]
      rw [ht, hF, List.append_assoc, List.append_assoc]
    have hmul : i * sz + (sz + (n - (i + 1)) * sz) = n * sz := by
      rw [← Nat.add_assoc, show i * sz + sz = (i + 1) * sz by rw [Nat.add_mul, Nat.one_mul], ← Nat.add_mul]
      congr 1
      omega
    have hle : n * sz ≤ cur.size := by rw [hcs]; exact Nat.mul_le_mul_right _ hnc
    have hne : (l.set i x).flatMap en = (l.take i).flatMap en ++ (en x ++ (l.drop (i + 1)).flatMap en) := by rw [es, List.flatMap_append, List.flatMap_cons]
    generalize (l.take i).flatMap en = A at *
    generalize (l.drop (i + 1)).flatMap en = C at *
    generalize cur.toList.drop (n * sz) = R at *
    have hp : putE cur (i * sz) (en x) = (A ++ (en x ++ (C ++ R))).toArray := by
      unfold putE
      rw [hr, hcur, ← hA, List.take_left, show A.length + sz = (A ++ en l[i]).length by rw [List.length_append, hr], ← List.append_assoc, List.drop_left, List.append_assoc]
    have hcl : cur.size = A.length + (sz + (C.length + R.length)) := by
      rw [← Array.length_toList, hcur, List.length_append, List.length_append, List.length_append, hr]
    refine ⟨cur, hg, by omega, ?_⟩
    rw [hp, hne]
    refine ⟨by rw [List.length_append, List.length_append, hr, hA, hC]; exact hmul, .inr ⟨g, c, _, rfl, hB, setRow_heap _ _ _ _ _ _ hg, hnc, hcm, ?_, ?_⟩⟩
    · rw [List.size_toArray, List.length_append, List.length_append, List.length_append, hr, ← hcl, hcs]
    · rw [List.toList_toArray, show n * sz = (A ++ (en x ++ C)).length by rw [List.length_append, List.length_append, hr, hA, hC]; exact hmul.symm, ← List.append_assoc, ← List.append_assoc, ← List.append_assoc, List.take_left]
theorem own_other {B e n g : Nat} {w : World} {v : Value} {xs : List Value} (h : w.ownsRow B e sz v n xs) (hg : v.ownBlock ≠ some g) (cs : Array Value) : (w.setRow g cs).ownsRow B e sz v n xs := by
  obtain ⟨h1, h2⟩ := h
  refine ⟨h1, ?_⟩
  rcases h2 with h2 | ⟨g', cap, cur, rfl, hB, hh, r⟩
  · exact .inl h2
  · refine .inr ⟨g', cap, cur, rfl, hB, ?_, r⟩
    rw [setRow_other w g g' cs fun q => hg (by rw [q]; rfl)]
    exact hh
theorem own_later {w w' : World} {base e size : Nat} {v : Value} {n : Nat} {xs : List Value} (h : w.ownsRow base e size v n xs) (hb : Below w.heap.size w w') : w'.ownsRow base e size v n xs := by
  obtain ⟨h1, h2⟩ := h
  refine ⟨h1, ?_⟩
  rcases h2 with h2 | ⟨g, cap, cur, hv, hg, hh, r⟩
  · exact .inl h2
  · exact .inr ⟨g, cap, cur, hv, hg, (hb.block g (Array.getElem?_eq_some_iff.1 hh).1).trans hh, r⟩
theorem own_frame {w w' : World} {base e size : Nat} {v : Value} {n : Nat} {xs : List Value} {T : Nat → Prop} (h : w.ownsRow base e size v n xs) (hf : Fr T w w') (hT : ∀ i, v.ownBlock = some i → ¬ T i) : w'.ownsRow base e size v n xs := by
  obtain ⟨h1, h2⟩ := h
  refine ⟨h1, ?_⟩
  rcases h2 with h2 | ⟨g, cap, cur, rfl, hg, hh, r⟩
  · exact .inl h2
  · exact .inr ⟨g, cap, cur, rfl, hg, (hf.block g (Array.getElem?_eq_some_iff.1 hh).1 (hT g rfl)).trans hh, r⟩
theorem own_get (hr : ∀ x, (en x).length = sz) {B e g n c i : Nat} {w : World} {l : List α} {x : α} (h : w.ownsRow B e sz (.slice (some ⟨g, 0, none⟩) n c) n (l.flatMap en)) (hx : l[i]? = some x) : ∀ j v, (en x)[j]? = some v → w.cell? ⟨g, i * sz + j, none⟩ = some v := fun j v hv => by
  have hj : j < sz := by have := (List.getElem?_eq_some_iff.1 hv).1; rwa [hr] at this
  have hln := h.1
  rw [fml hr] at hln
  have hi : i < l.length := (List.getElem?_eq_some_iff.1 hx).1
  have hlt : i * sz + j < n * sz := by
    rw [← hln]
    have : (i + 1) * sz ≤ l.length * sz := Nat.mul_le_mul_right _ hi
    rw [Nat.add_mul, Nat.one_mul] at this
    omega
  rw [World.ownsRow.cellAt h _ hlt, fm_get (row := en) (n := sz) hr l i j x hx hj]
  exact hv
theorem own_form {w : World} {B e n : Nat} {v : Value} {xs : List Value} (h : w.ownsRow B e sz v n xs) : (v = .slice none 0 0 ∧ n = 0) ∨ ∃ g c, v = .slice (some ⟨g, 0, none⟩) n c ∧ g < w.heap.size := by
  rcases h.2 with q | ⟨g, c, cur, hv, _, hh, _⟩
  · exact .inl q
  · exact .inr ⟨g, c, hv, (Array.getElem?_eq_some_iff.1 hh).1⟩
/-- Append onto a list: the longer one, what stays, and that the shorter one is as it was. -/
theorem append_keep {st e : TypeId} {i : TypeInfo} {z : Value} {bytes : Nat} (ht : Try.prog.underlying st = some (.slice e)) (hi : Try.prog.info? e = some i) (hz : i.zero = some z) (hsize : i.size = sz) (hby : i.bytes = bytes) (hzs : z.cells.size = sz) (hsz : 0 < sz)
    {W : World} {v : Value} {B : Nat} {n : Nat} {xs : List Value} (hown : W.ownsRow B e sz v n xs) {ad : Addr} {m c : Nat} {news : List Value} (hm : 0 < m) (hl : news.length = m * sz)
    (hnews : ∀ j u, news[j]? = some u → W.cell? (ad.add j) = some u) (h1 : ∀ u ∈ news, u.oneCell' = true) (h63 : n + m ≤ maxLen) (hbytes : ((n + m) + (n + m) / 4 + 192) * bytes ≤ 281474976710656) (hB : B ≤ W.heap.size) (ty : TypeId) :
    ∃ v' w', (Builtin.append_ #[st, st] ty #[v, .slice (some ad) m c]).run Try.prog W = .ok v' w' ∧ w'.ownsRow B e sz v' (n + m) (xs ++ news) ∧ w'.ownsRow B e sz v n xs ∧ Fr (fun k => v.ownBlock = some k) W w' ∧ ∀ k, v'.ownBlock = some k → v.ownBlock = some k ∨ W.heap.size ≤ k := by
  obtain ⟨v', w', hr, h2, hg, h4⟩ := append_gen (W := W) (v := v) ht hi hz hsize hby hzs hsz hown (ad := ad) (m := m) (c := c) hm hl hnews h1 h63 hbytes hB ty
  refine ⟨v', w', hr, h2, ?_, hg, h4⟩
  have hmx : n + m ≤ 9223372036854775807 := by simp only [maxLen] at h63; omega
  subst hsize
  subst hby
  have hown' := hown
  rcases hown.2 with ⟨rfl, rfl⟩ | ⟨g, cap, cur, rfl, hBg, hg', hnc, hcm, hcs, htake⟩
  · exact ⟨hown.1, .inl ⟨rfl, rfl⟩⟩
  · by_cases hroom : n + m ≤ cap
    · have hfit : n * i.size + news.length ≤ cur.size := by rw [hl, hcs, ← Nat.add_mul]; exact Nat.mul_le_mul_right _ hroom
      rw [run_append_room (P := Try.prog) W st ty e i ht hi g n cap cur hg' ad m c news hl hnews h1 hroom hfit] at hr
      injection hr with q1 q2
      subst q1
      rcases h2.2 with ⟨q, _⟩ | ⟨g2, cap2, cur2, q, _, hh2, _, _, hcs2, ht2⟩
      · simp at q
      · injection q with q1 q2' q3
        injection q1 with q1
        injection q1 with q1
        subst q1; subst q3
        refine ⟨hown.1, .inr ⟨g, cap, cur2, rfl, hBg, hh2, hnc, hcm, hcs2, ?_⟩⟩
        have hx := hown.1
        rw [show cur2.toList.take (n * i.size) = (cur2.toList.take ((n + m) * i.size)).take (n * i.size) by rw [List.take_take, Nat.min_eq_left (Nat.mul_le_mul_right _ (by omega))], ht2, ← hx, List.take_left]
    · rw [run_append_grow (P := Try.prog) W st ty e i _ ht hi hz ⟨g, 0, none⟩ n cap xs hown.1 (hown.cells (g := g) rfl) ad m c news hl hnews (by omega) (by omega) (growslice_fits_wide (by omega) hbytes)] at hr
      injection hr with q1 q2
      rw [← q2]
      exact World.ownsRow.alloc (show W.drew.ownsRow B e i.size _ n xs from hown') _
/-- Marks in a list. -/
def mks (mk : Nat → α) (n : Nat) : List α := (List.range n).map mk
theorem mks_len (mk : Nat → α) (n : Nat) : (mks mk n).length = n := by simp [mks]
theorem mks_succ (mk : Nat → α) (n : Nat) : mks mk (n + 1) = mks mk n ++ [mk n] := by simp [mks, List.range_succ]
theorem mks_get (mk : Nat → α) (n i : Nat) (h : i < n) : (mks mk n)[i]? = some (mk i) := by simp [mks, h]
/-- l, its first i as marks. -/
def asM (mk : Nat → α) (l : List α) (i : Nat) : List α := mks mk i ++ l.drop i
theorem asM_len (mk : Nat → α) (l : List α) (i : Nat) (h : i ≤ l.length) : (asM mk l i).length = l.length := by
  unfold asM
  rw [List.length_append, mks_len, List.length_drop]
  omega
theorem asM_set (mk : Nat → α) (l : List α) (i : Nat) (h : i < l.length) : (asM mk l i).set i (mk i) = asM mk l (i + 1) := by
  unfold asM
  rw [mks_succ, List.set_append_right _ _ (by rw [mks_len]; omega), mks_len, Nat.sub_self, List.drop_eq_getElem_cons h, List.set_cons_zero, List.append_assoc]
  rfl
theorem asM_full (mk : Nat → α) (l : List α) : asM mk l l.length = mks mk l.length := by unfold asM; rw [List.drop_length, List.append_nil]
theorem asM_zero (mk : Nat → α) (l : List α) : asM mk l 0 = l := by unfold asM mks; simp
/-- Some are written full, one as far as i. -/
def fillU (mk : Nat → Nat → α) (fs : Nat → List α) (k i : Nat) : Nat → List α := fun j => if j < k then mks (mk j) (fs j).length else if j = k then asM (mk j) (fs j) i else fs j
theorem fillU_at (mk : Nat → Nat → α) (fs : Nat → List α) (k i : Nat) : fillU mk fs k i k = asM (mk k) (fs k) i := by unfold fillU; rw [if_neg (by omega), if_pos rfl]
theorem fillU_len (mk : Nat → Nat → α) (fs : Nat → List α) (k i : Nat) (h : i ≤ (fs k).length) (j : Nat) : (fillU mk fs k i j).length = (fs j).length := by
  unfold fillU
  split
  · rw [mks_len]
  · split
    · rename_i e
      subst e
      exact asM_len _ _ _ h
    · rfl
theorem fillU_zero (mk : Nat → Nat → α) (fs : Nat → List α) (j : Nat) : fillU mk fs 0 0 j = fs j := by
  unfold fillU
  rw [if_neg (by omega)]
  split
  · rw [asM_zero]
  · rfl
theorem fillU_next (mk : Nat → Nat → α) (fs : Nat → List α) (k j : Nat) : fillU mk fs k (fs k).length j = fillU mk fs (k + 1) 0 j := by
  unfold fillU
  by_cases h1 : j < k
  · rw [if_pos h1, if_pos (by omega)]
  · by_cases h2 : j = k
    · subst h2
      rw [if_neg h1, if_pos rfl, if_pos (by omega), asM_full]
    · rw [if_neg h1, if_neg h2, if_neg (by omega)]
      by_cases h3 : j = k + 1
      · rw [if_pos h3, asM_zero]
      · rw [if_neg h3]
theorem fillU_step (mk : Nat → Nat → α) (fs : Nat → List α) (k i j : Nat) (h : j ≠ k) : fillU mk fs k i j = fillU mk fs k (i + 1) j := by unfold fillU; simp [h]
/-- The lists' blocks. -/
def TV (K : Nat) (vs : Nat → Value) (i : Nat) : Prop := ∃ k, k < K ∧ (vs k).ownBlock = some i
/-- No two of the lists lie in one block, and none lies in their row's. -/
structure Apt (K gl : Nat) (vs : Nat → Value) : Prop where
  row : ∀ k, k < K → (vs k).ownBlock ≠ some gl
  two : ∀ j k, j < K → k < K → j ≠ k → ∀ b, (vs j).ownBlock = some b → (vs k).ownBlock ≠ some b
/-- The lists' row, the lists; nothing else has turned. -/
structure Lsts (en : α → List Value) (e sz : Nat) (K gl : Nat) (vs : Nat → Value) (w0 : World) (fs : Nat → List α) (w : World) : Prop where
  fr : Fr (TV K vs) w0 w
  head : ∀ k, k < K → w.cell? ⟨gl, k, none⟩ = some (vs k)
  own : ∀ k, k < K → w.ownsRow 0 e sz (vs k) (fs k).length ((fs k).flatMap en)
theorem Lsts.later {e K gl : Nat} {vs : Nat → Value} {w0 w w' : World} {fs : Nat → List α} (h : Lsts en e sz K gl vs w0 fs w) (hb : Below w.heap.size w w') : Lsts en e sz K gl vs w0 fs w' :=
  ⟨h.fr.trans (Fr.ofBelow (T := TV K vs) hb) (fun _ _ q => q), fun k hk => (hb.cell (p := ⟨gl, k, none⟩) (block_lt_of_cell (h.head k hk))).trans (h.head k hk), fun k hk => own_later (h.own k hk) hb⟩
theorem Lsts.next {e K gl : Nat} {mk : Nat → Nat → α} {vs : Nat → Value} {w0 w : World} {fs : Nat → List α} {k : Nat} (h : Lsts en e sz K gl vs w0 (fillU mk fs k (fs k).length) w) : Lsts en e sz K gl vs w0 (fillU mk fs (k + 1) 0) w :=
  ⟨h.fr, h.head, fun j hj => by rw [← fillU_next]; exact h.own j hj⟩
theorem Lsts.store (hr : ∀ x, (en x).length = sz) {e K gl : Nat} {mk : Nat → Nat → α} {vs : Nat → Value} {w0 w : World} {fs : Nat → List α} {k i g n c : Nat} (h : Lsts en e sz K gl vs w0 (fillU mk fs k i) w) (hap : Apt K gl vs) (hk : k < K)
    (hv : vs k = .slice (some ⟨g, 0, none⟩) n c) (hn : (fs k).length = n) (hi : i < n) :
    ∃ cur, w.heap[g]? = some (.cells cur e) ∧ i * sz + sz ≤ cur.size ∧ Lsts en e sz K gl vs w0 (fillU mk fs k (i + 1)) (w.setRow g (putE cur (i * sz) (en (mk k i)))) := by
  have ho := h.own k hk
  rw [fillU_len _ _ _ _ (by omega), hv, hn, fillU_at] at ho
  obtain ⟨cur, hg, hfit, hnew⟩ := own_set hr (x := mk k i) ho (by rw [asM_len _ _ _ (by omega)]; exact hn) hi
  rw [asM_set _ _ _ (by omega)] at hnew
  have hgl : gl ≠ g := fun q => hap.row k hk (by rw [hv, q]; rfl)
  refine ⟨cur, hg, hfit, ⟨h.fr.trans (Fr.setRow w g _) (fun j _ q => ⟨k, hk, by rw [hv, q]; rfl⟩), fun j hj => ?_, fun j hj => ?_⟩⟩
  · exact (World.cell?_of_block (a := ⟨gl, j, none⟩) (setRow_other w g gl _ hgl)).trans (h.head j hj)
  · by_cases q : j = k
    · subst q
      rw [fillU_len _ _ _ _ (by omega), hv, hn, fillU_at]
      exact hnew
    · have hj2 := own_other (h.own j hj) (g := g) (fun q2 => hap.two j k hj hk q g q2 (by rw [hv]; rfl)) (putE cur (i * sz) (en (mk k i)))
      rw [← fillU_step _ _ _ _ _ q]
      exact hj2
/-- What the lists hold still: marks. -/
def KeepC (en : α → List Value) (sz : Nat) (mk : Nat → α) (v : Value) (n : Nat) (w : World) : Prop := 0 < n → ∃ g c, v = .slice (some ⟨g, 0, none⟩) n c ∧ g < w.heap.size ∧ ∀ i, i < n → ∀ j u, (en (mk i))[j]? = some u → w.cell? ⟨g, i * sz + j, none⟩ = some u
theorem KeepC.of (hr : ∀ x, (en x).length = sz) {B e n : Nat} {mk : Nat → α} {v : Value} {w : World} (h : w.ownsRow B e sz v n ((mks mk n).flatMap en)) : KeepC en sz mk v n w := fun h0 => by
  rcases own_form h with ⟨_, q⟩ | ⟨g, c, rfl, hlt⟩
  · omega
  · exact ⟨g, c, rfl, hlt, fun i hi => own_get hr h (mks_get mk n i hi)⟩
theorem KeepC.frame {n : Nat} {mk : Nat → α} {v : Value} {w w' : World} {T : Nat → Prop} (h : KeepC en sz mk v n w) (hf : Fr T w w') (hT : ∀ i, v.ownBlock = some i → ¬ T i) : KeepC en sz mk v n w' := fun h0 => by
  obtain ⟨g, c, rfl, hlt, hc⟩ := h h0
  exact ⟨g, c, rfl, Nat.lt_of_lt_of_le hlt hf.size, fun i hi j u hu => (World.cell?_of_block (a := ⟨g, i * sz + j, none⟩) (hf.block g hlt (hT g rfl))).trans (hc i hi j u hu)⟩
/-- A longer list in the same block holds what the shorter one holds. -/
theorem KeepC.under (hr : ∀ x, (en x).length = sz) {B e n m : Nat} {mk : Nat → α} {v u : Value} {w : World} (h0 : KeepC en sz mk v n w ∨ ∃ g c, v = .slice (some ⟨g, 0, none⟩) n c) (hu : w.ownsRow B e sz u m ((mks mk m).flatMap en)) (hb : u.ownBlock = v.ownBlock) (hnm : n ≤ m) : KeepC en sz mk v n w := fun hn => by
  rcases own_form hu with ⟨_, q⟩ | ⟨g, c, rfl, hlt⟩
  · omega
  · have hv : ∃ g' c', v = .slice (some ⟨g', 0, none⟩) n c' := by
      rcases h0 with q | q
      · obtain ⟨g', c', q, _⟩ := q hn
        exact ⟨g', c', q⟩
      · exact q
    obtain ⟨g', c', rfl⟩ := hv
    have e1 : g = g' := by simpa [Value.ownBlock] using hb
    subst e1
    exact ⟨g, c', rfl, hlt, fun i hi => own_get hr hu (mks_get mk m i (by omega))⟩
/-- gv, but at k. -/
def updV (gv : Nat → Value) (k : Nat) (x : Value) : Nat → Value := fun j => if j = k then x else gv j
theorem range_updV (gv : Nat → Value) (k : Nat) (x : Value) : (List.range k).map gv ++ [x] = (List.range (k + 1)).map (updV gv k x) := by
  rw [List.range_succ, List.map_append]
  congr 1
  · apply List.map_congr_left
    intro j hj
    have := List.mem_range.1 hj
    unfold updV
    rw [if_neg (by omega)]
  · simp [updV]
end
section
variable {α : Type} {en : α → List Value} {e sl sz K gl : Nat} {mk : Nat → Nat → α} {vs : Nat → Value} {ns : Nat → Nat}
/-- The first k lists have been gone on with (gv), their row is v. -/
structure Grn (en : α → List Value) (e sl sz K gl : Nat) (mk : Nat → Nat → α) (vs : Nat → Value) (ns : Nat → Nat) (W2 : World) (k : Nat) (gv : Nat → Value) (v : Value) (w : World) : Prop where
  row : w.ownsRow W2.heap.size sl 1 v k ((List.range k).map gv)
  each : ∀ j, j < k → w.ownsRow 0 e sz (gv j) (ns j + 6) ((mks (mk j) (ns j + 6)).flatMap en) ∧ ((gv j).ownBlock = (vs j).ownBlock ∨ ∀ b, (gv j).ownBlock = some b → W2.heap.size ≤ b)
  keep : ∀ j, j < K → KeepC en sz (mk j) (vs j) (ns j) w
  own : ∀ j, k ≤ j → j < K → w.ownsRow 0 e sz (vs j) (ns j) ((mks (mk j) (ns j)).flatMap en)
  head : ∀ j, j < K → w.cell? ⟨gl, j, none⟩ = some (vs j)
  fr : Fr (TV K vs) W2 w
  glt : gl < W2.heap.size
  vlt : ∀ j, j < K → ∀ b, (vs j).ownBlock = some b → b < W2.heap.size
/-- List k is being gone on with: i marks more. -/
structure Inn (en : α → List Value) (e sz : Nat) (mk : Nat → α) (vk : Value) (nk : Nat) (W3 : World) (i : Nat) (u : Value) (w : World) : Prop where
  own : w.ownsRow 0 e sz u (nk + i) ((mks mk (nk + i)).flatMap en)
  blk : u.ownBlock = vk.ownBlock ∨ ∀ b, u.ownBlock = some b → W3.heap.size ≤ b
  keep : KeepC en sz mk vk nk w
  fr : Fr (fun b => vk.ownBlock = some b) W3 w
  vlt : ∀ b, vk.ownBlock = some b → b < W3.heap.size
theorem Inn.later {mk : Nat → α} {vk u : Value} {nk i : Nat} {W3 w w' : World} (h : Inn en e sz mk vk nk W3 i u w) (hb : Below w.heap.size w w') : Inn en e sz mk vk nk W3 i u w' :=
  ⟨own_later h.own hb, h.blk, h.keep.frame (Fr.ofBelow (T := fun _ => False) hb) (fun _ _ q => q), h.fr.trans (Fr.ofBelow (T := fun _ => False) hb) (fun _ _ q => q.elim), h.vlt⟩
theorem Inn.push (hr : ∀ x, (en x).length = sz) (h1 : ∀ x, ∀ u ∈ en x, u.oneCell' = true) {st : TypeId} {ti : TypeInfo} {z : Value} {bytes : Nat} (ht : Try.prog.underlying st = some (.slice e)) (hi : Try.prog.info? e = some ti) (hz : ti.zero = some z) (hsize : ti.size = sz) (hby : ti.bytes = bytes) (hzs : z.cells.size = sz) (hsz : 0 < sz)
    {mk : Nat → α} {vk u : Value} {nk i : Nat} {W3 w : World} (h : Inn en e sz mk vk nk W3 i u w) (hn : nk + i + 1 ≤ 500000000) (hbb : bytes ≤ 2000) (ty : TypeId) :
    ∃ u' w', (Builtin.append_ #[st, st] ty #[u, .slice (some ⟨w.heap.size, 0, none⟩) 1 1]).run Try.prog (w.alloc (.cells (en (mk (nk + i))).toArray e)) = .ok u' w' ∧ Inn en e sz mk vk nk W3 (i + 1) u' w' := by
  have hnews : ∀ j v, (en (mk (nk + i)))[j]? = some v → (w.alloc (.cells (en (mk (nk + i))).toArray e)).cell? ((⟨w.heap.size, 0, none⟩ : Addr).add j) = some v := fun j v hv => by
    rw [Go.WideShapes.add_plain, Nat.zero_add, cell_of_row _ _ j _ e _ (heap_alloc_new w _), List.getElem?_toArray]
    exact hv
  have hbt : ((nk + i + 1) + (nk + i + 1) / 4 + 192) * bytes ≤ 281474976710656 := by
    have : ((nk + i + 1) + (nk + i + 1) / 4 + 192) * bytes ≤ 625001940 * 2000 := Nat.mul_le_mul (by omega) hbb
    omega
  obtain ⟨u', w', hrun, ho', hou, hf, hnew⟩ := append_keep ht hi hz hsize hby hzs hsz (World.ownsRow.alloc h.own (.cells (en (mk (nk + i))).toArray e)) (ad := ⟨w.heap.size, 0, none⟩) (m := 1) (c := 1) (news := en (mk (nk + i))) (by omega) (by rw [hr, Nat.one_mul]) hnews (h1 _) (by unfold maxLen; omega) hbt (Nat.zero_le _) ty
  have hF : Fr (fun b => u.ownBlock = some b) w w' := (Fr.alloc _ w (.cells (en (mk (nk + i))).toArray e)).trans hf fun _ _ q => q
  have hsz3 : W3.heap.size ≤ w.heap.size := h.fr.size
  refine ⟨u', w', hrun, ⟨?_, ?_, ?_, h.fr.trans hF fun j hj q => ?_, h.vlt⟩⟩
  · rw [show nk + (i + 1) = nk + i + 1 by omega, mks_succ, List.flatMap_append]
    simpa using ho'
  · cases hb : u'.ownBlock with
    | none => exact .inr fun b q => by cases q
    | some b =>
      rcases hnew b hb with q | q
      · rcases h.blk with r | r
        · left
          rw [← r, q]
        · right
          intro b' hb'
          injection hb' with hb'
          rw [← hb']
          exact r b q
      · right
        intro b' hb'
        injection hb' with hb'
        rw [← hb']
        simp only [World.alloc, Array.size_push] at q
        omega
  · rcases h.blk with r | r
    · exact KeepC.under hr (.inl (show KeepC en sz mk vk nk w' from fun h0 => by
        obtain ⟨g, c, hv, hlt, _⟩ := h.keep h0
        exact (KeepC.under (n := nk) (v := vk) hr (.inr ⟨g, c, hv⟩) hou r (by omega)) h0)) hou r (by omega)
    · exact h.keep.frame hF fun b hb q => by
        have := h.vlt b hb
        have := r b q
        omega
  · rcases h.blk with r | r
    · rw [← r]; exact q
    · have := r j q
      omega
theorem Inn.start {vk : Value} {nk : Nat} {mk : Nat → α} {W3 : World} (hr : ∀ x, (en x).length = sz) (h : W3.ownsRow 0 e sz vk nk ((mks mk nk).flatMap en)) : Inn en e sz mk vk nk W3 0 vk W3 :=
  ⟨h, .inl rfl, KeepC.of hr h, Fr.refl _ _, fun b hb => (h.lt b hb).2⟩
/-- The row of the longer lists grows by one. -/
theorem Grn.next {ss : TypeId} {ti : TypeInfo} (ht : Try.prog.underlying ss = some (.slice sl)) (hi : Try.prog.info? sl = some ti) (hz : ti.zero = some (.slice none 0 0)) (hsize : ti.size = 1) (hby : ti.bytes = 24) (hne : sl ≠ e)
    {W2 W3 w : World} {k : Nat} {gv : Nat → Value} {v u : Value} (hap : Apt K gl vs) (h : Grn en e sl sz K gl mk vs ns W2 k gv v W3) (hk : k < K) (hK : K ≤ 8000000) (hu : Inn en e sz (mk k) (vs k) (ns k) W3 6 u w) (hu1 : u.oneCell' = true) (ty : TypeId) :
    ∃ v' w', (Builtin.append_ #[ss, ss] ty #[v, .slice (some ⟨w.heap.size, 0, none⟩) 1 1]).run Try.prog (w.alloc (.cells #[u] sl)) = .ok v' w' ∧ Grn en e sl sz K gl mk vs ns W2 (k + 1) (updV gv k u) v' w' := by
  have hs23 : W2.heap.size ≤ W3.heap.size := h.fr.size
  have hs3 : W3.heap.size ≤ w.heap.size := hu.fr.size
  have hrow3 : w.ownsRow W2.heap.size sl 1 v k ((List.range k).map gv) := own_frame h.row hu.fr fun b hb q => by
    have h1 := (h.row.lt b hb).1
    have h2 := h.vlt k hk b q
    omega
  have hnews : ∀ j x, [u][j]? = some x → (w.alloc (.cells #[u] sl)).cell? ((⟨w.heap.size, 0, none⟩ : Addr).add j) = some x := fun j x hx => by
    rw [Go.WideShapes.add_plain, Nat.zero_add, cell_of_row _ _ j _ sl _ (heap_alloc_new w _)]
    simpa using hx
  obtain ⟨v', w', hrun, ho', hf, hnew⟩ := append_gen (W := w.alloc (.cells #[u] sl)) (v := v) ht hi hz hsize hby rfl (by omega) (World.ownsRow.alloc hrow3 (.cells #[u] sl)) (ad := ⟨w.heap.size, 0, none⟩) (m := 1) (c := 1) (news := [u]) (by omega) rfl hnews (fun x hx => by simp at hx; subst hx; exact hu1) (by unfold maxLen; omega) (by omega) (by simp only [World.alloc, Array.size_push]; omega) ty
  have hF : Fr (fun b => v.ownBlock = some b) w w' := (Fr.alloc _ w (.cells #[u] sl)).trans hf fun _ _ q => q
  have hvB : ∀ b, v.ownBlock = some b → W2.heap.size ≤ b := fun b hb => (h.row.lt b hb).1
  have hF2 : Fr (fun b => v.ownBlock = some b ∨ (vs k).ownBlock = some b) W3 w' := (hu.fr.mono (T' := fun b => v.ownBlock = some b ∨ (vs k).ownBlock = some b) fun _ _ q => .inr q).trans hF fun _ _ q => .inl q
  have typ : ∀ {W : World} {x : Value} {n : Nat} {xs : List Value} {b : Nat}, W.ownsRow 0 e sz x n xs → x.ownBlock = some b → W.ownsRow W2.heap.size sl 1 v k ((List.range k).map gv) → v.ownBlock ≠ some b := fun {W x n xs b} hx hb hv q => by
    obtain ⟨_, hx⟩ := hx
    obtain ⟨_, hv⟩ := hv
    rcases hx with ⟨rfl, _⟩ | ⟨g1, c1, r1, rfl, _, hg1, _⟩
    · cases hb
    · rcases hv with ⟨rfl, _⟩ | ⟨g2, c2, r2, rfl, _, hg2, _⟩
      · cases q
      · injection hb with hb
        injection q with q
        have e1 : g1 = g2 := by rw [show g1 = b from hb, show g2 = b from q]
        subst e1
        rw [hg1] at hg2
        injection hg2 with hg2
        injection hg2 with _ hg2
        exact hne hg2.symm
  refine ⟨v', w', hrun, ⟨?_, fun j hj => ?_, fun j hj => ?_, fun j hj1 hj2 => ?_, fun j hj => ?_, ?_, h.glt, h.vlt⟩⟩
  · rw [← range_updV]
    exact ho'
  · by_cases q : j = k
    · subst q
      have eu : updV gv j u j = u := by unfold updV; rw [if_pos rfl]
      rw [eu]
      refine ⟨own_frame hu.own hF fun b hb => typ hu.own hb hrow3, ?_⟩
      rcases hu.blk with r | r
      · exact .inl r
      · exact .inr fun b hb => Nat.le_trans hs23 (r b hb)
    · have eu : updV gv k u j = gv j := by unfold updV; rw [if_neg q]
      rw [eu]
      obtain ⟨h1, h2⟩ := h.each j (by omega)
      refine ⟨own_frame h1 hF2 fun b hb r => ?_, h2⟩
      rcases r with r | r
      · exact typ h1 hb h.row r
      · rcases h2 with h2 | h2
        · rw [h2] at hb
          exact hap.two j k (by omega) hk q b hb r
        · have := h2 b hb
          have := h.vlt k hk b r
          omega
  · by_cases q : j = k
    · subst q
      exact hu.keep.frame hF fun b hb r => by
        have := h.vlt j hj b hb
        have := hvB b r
        omega
    · exact (h.keep j hj).frame hF2 fun b hb r => by
        rcases r with r | r
        · have := h.vlt j hj b hb
          have := hvB b r
          omega
        · exact hap.two j k hj hk q b hb r
  · refine own_frame (h.own j (by omega) hj2) hF2 fun b hb r => ?_
    rcases r with r | r
    · have := h.vlt j hj2 b hb
      have := hvB b r
      omega
    · exact hap.two j k hj2 hk (by omega) b hb r
  · have hc := h.head j hj
    refine (World.cell?_of_block (a := ⟨gl, j, none⟩) (hF2.block gl (Nat.lt_of_lt_of_le h.glt hs23) fun r => ?_)).trans hc
    rcases r with r | r
    · have := hvB gl r
      have := h.glt
      omega
    · exact hap.row k hk r
  · refine h.fr.trans hF2 fun b hb r => ?_
    rcases r with r | r
    · have := hvB b r
      omega
    · exact ⟨k, hk, r⟩
theorem Grn.start (hr : ∀ x, (en x).length = sz) {w0 W2 : World} (h : Lsts en e sz K gl vs w0 (fun j => mks (mk j) (ns j)) W2) (hK : 0 < K) : Grn en e sl sz K gl mk vs ns W2 0 (fun _ => undef) (.slice none 0 0) W2 :=
  ⟨World.ownsRow_nil _ _ _ _, fun j hj => absurd hj (by omega), fun j hj => KeepC.of hr (by have := h.own j hj; rwa [mks_len] at this), fun j _ hj => by have := h.own j hj; rwa [mks_len] at this, h.head, Fr.refl _ _, block_lt_of_cell (h.head 0 hK), fun j hj b hb => ((h.own j hj).lt b hb).2⟩
end
section
variable {α : Type} {en : α → List Value} {sz e : Nat}
/-- A list lies somewhere. -/
def LiesE (en : α → List Value) (sz : Nat) (w : World) (p : Option Addr) (l : List α) : Prop := 0 < l.length → ∃ b off, p = some ⟨b, off, none⟩ ∧ b < w.heap.size ∧ ∀ k x, l[k]? = some x → ∀ j v, (en x)[j]? = some v → w.cell? ⟨b, off + k * sz + j, none⟩ = some v
theorem LiesE.cells (hr : ∀ x, (en x).length = sz) (hsz : 0 < sz) {w : World} {b off : Nat} {l : List α} (h : ∀ k x, l[k]? = some x → ∀ j v, (en x)[j]? = some v → w.cell? ⟨b, off + k * sz + j, none⟩ = some v) : ∀ j v, (l.flatMap en)[j]? = some v → w.cell? ⟨b, off + j, none⟩ = some v := fun j v hv => by
  have hj := (List.getElem?_eq_some_iff.1 hv).1
  rw [fml hr] at hj
  have hk : j / sz < l.length := (Nat.div_lt_iff_lt_mul hsz).2 hj
  have hm : j % sz < sz := Nat.mod_lt _ hsz
  have hdm : j / sz * sz + j % sz = j := Nat.div_add_mod' j sz
  have h1 : l[j / sz]? = some (l[j / sz]'hk) := List.getElem?_eq_getElem hk
  have h2 := fm_get (row := en) (n := sz) hr l (j / sz) (j % sz) _ h1 hm
  rw [hdm, hv] at h2
  have := h (j / sz) _ h1 (j % sz) v h2.symm
  rwa [show off + j / sz * sz + j % sz = off + (j / sz * sz + j % sz) by omega, hdm] at this
theorem append_copy {st : TypeId} {i : TypeInfo} {z : Value} {bytes : Nat} (hr : ∀ x, (en x).length = sz) (h1 : ∀ x, ∀ u ∈ en x, u.oneCell' = true) (ht : Try.prog.underlying st = some (.slice e)) (hi : Try.prog.info? e = some i) (hz : i.zero = some z) (hsize : i.size = sz) (hby : i.bytes = bytes) (hzs : z.cells.size = sz) (hsz : 0 < sz) (hbb : bytes ≤ 2000)
    {W : World} {p : Option Addr} {c : Nat} {l : List α} (hl : LiesE en sz W p l) (hn : l.length ≤ 1000000) (ty : TypeId) :
    ∃ v' w', (Builtin.append_ #[st, st] ty #[.slice none 0 0, .slice p l.length c]).run Try.prog W = .ok v' w' ∧ w'.ownsRow W.heap.size e sz v' l.length (l.flatMap en) ∧ Below W.heap.size W w' := by
  have hbt : ((0 + l.length) + (0 + l.length) / 4 + 192) * bytes ≤ 281474976710656 := by
    have : ((0 + l.length) + (0 + l.length) / 4 + 192) * bytes ≤ 1250192 * 2000 := Nat.mul_le_mul (by omega) hbb
    omega
  have key : ∀ ad : Addr, p = some ad → (∀ j u, (l.flatMap en)[j]? = some u → W.cell? (ad.add j) = some u) → ∃ v' w', (Builtin.append_ #[st, st] ty #[.slice none 0 0, .slice p l.length c]).run Try.prog W = .ok v' w' ∧ w'.ownsRow W.heap.size e sz v' l.length (l.flatMap en) ∧ Below W.heap.size W w' := fun ad hp hc => by
    subst hp
    obtain ⟨v', w', hrun, h2, hg, _⟩ := run_append_own_wide (P := Try.prog) W W.heap.size st ty e i z sz bytes ht hi hz hsize hby hzs hsz (.slice none 0 0) 0 [] (World.ownsRow_nil _ _ _ _) ad l.length c (l.flatMap en) (fml hr l) hc (fun u hu => by
      obtain ⟨x, _, hx⟩ := List.mem_flatMap.1 hu
      exact h1 x u hx) (by unfold maxLen; omega) hbt (Nat.le_refl _)
    refine ⟨v', w', hrun, by simpa using h2, (Below.refl _ _).grown hg (Nat.le_refl _) fun k hk => by cases hk⟩
  by_cases h0 : 0 < l.length
  · obtain ⟨b, off, hp, _, hc⟩ := hl h0
    exact key _ hp fun j u hu => by
      rw [Go.WideShapes.add_plain]
      exact LiesE.cells hr hsz hc j u hu
  · have hl0 : l = [] := List.length_eq_zero_iff.1 (by omega)
    subst hl0
    cases p with
    | some ad => exact key ad rfl fun j u hu => by simp at hu
    | none =>
      refine ⟨.slice none 0 0, W, ?_, World.ownsRow_nil _ _ _ _, Below.refl _ _⟩
      simp [go_sem, run_underlying ht, sizeOf, typeInfo, hi]
theorem own_push {st : TypeId} {i : TypeInfo} {z : Value} {bytes : Nat} (hr : ∀ x, (en x).length = sz) (h1 : ∀ x, ∀ u ∈ en x, u.oneCell' = true) (ht : Try.prog.underlying st = some (.slice e)) (hi : Try.prog.info? e = some i) (hz : i.zero = some z) (hsize : i.size = sz) (hby : i.bytes = bytes) (hzs : z.cells.size = sz) (hsz : 0 < sz) (hbb : bytes ≤ 2000)
    {B : Nat} {w : World} {v : Value} {l : List α} (h : w.ownsRow B e sz v l.length (l.flatMap en)) (hB : B ≤ w.heap.size) (hn : l.length ≤ 50000000) (x : α) (ty : TypeId) :
    ∃ v' w', (Builtin.append_ #[st, st] ty #[v, .slice (some ⟨w.heap.size, 0, none⟩) 1 1]).run Try.prog (w.alloc (.cells (en x).toArray e)) = .ok v' w' ∧ w'.ownsRow B e sz v' (l ++ [x]).length ((l ++ [x]).flatMap en) ∧ Below B w w' := by
  have hnews : ∀ j v, (en x)[j]? = some v → (w.alloc (.cells (en x).toArray e)).cell? ((⟨w.heap.size, 0, none⟩ : Addr).add j) = some v := fun j v hv => by
    rw [Go.WideShapes.add_plain, Nat.zero_add, cell_of_row _ _ j _ e _ (heap_alloc_new w _), List.getElem?_toArray]
    exact hv
  have hbt : ((l.length + 1) + (l.length + 1) / 4 + 192) * bytes ≤ 281474976710656 := by
    have : ((l.length + 1) + (l.length + 1) / 4 + 192) * bytes ≤ 62500194 * 2000 := Nat.mul_le_mul (by omega) hbb
    omega
  obtain ⟨v', w', hrun, ho', hf, _⟩ := append_gen (W := w.alloc (.cells (en x).toArray e)) (v := v) ht hi hz hsize hby hzs hsz (World.ownsRow.alloc h (.cells (en x).toArray e)) (ad := ⟨w.heap.size, 0, none⟩) (m := 1) (c := 1) (news := en x) (by omega) (by rw [hr, Nat.one_mul]) hnews (h1 x) (by unfold maxLen; omega) hbt (by simp only [World.alloc, Array.size_push]; omega) ty
  have hF : Fr (fun b => v.ownBlock = some b) w w' := (Fr.alloc _ w (.cells (en x).toArray e)).trans hf fun _ _ q => q
  refine ⟨v', w', hrun, ?_, hF.below (fun j q => (h.lt j q).1) hB⟩
  rw [List.length_append, List.flatMap_append]
  simpa using ho'
theorem own_lies (hr : ∀ x, (en x).length = sz) {B : Nat} {w : World} {p : Option Addr} {c : Nat} {l : List α} (h : w.ownsRow B e sz (.slice p l.length c) l.length (l.flatMap en)) : LiesE en sz w p l := fun h0 => by
  rcases own_form h with ⟨_, q⟩ | ⟨g, c', q, hlt⟩
  · omega
  · injection q with q1 q2 q3
    subst q1
    exact ⟨g, 0, rfl, hlt, fun k x hx j v hv => by
      rw [Nat.zero_add]
      exact own_get hr h hx j v hv⟩
theorem own_slice {B n : Nat} {w : World} {v : Value} {xs : List Value} (h : w.ownsRow B e sz v n xs) : ∃ p c, v = .slice p n c ∧ (p = none → n = 0) := by
  rcases own_form h with ⟨q, r⟩ | ⟨g, c', q, hlt⟩
  · exact ⟨none, 0, by rw [q, r], fun _ => r⟩
  · exact ⟨_, c', q, fun q => by cases q⟩
end
theorem exec_pushY {o : Oper} {a : Act} {s y : Operand} {st : TypeId} {Y v v' : Value} {W W' : World} (ho : o.op = .call { callee := .builtin .append, args := #[s, y], argTypes := #[st, st] }) (hs : a.eval s = v) (hx : a.eval y = Y)
    (hr : (Builtin.append_ #[st, st] o.type #[v, Y]).run Try.prog W = .ok v' W') : (execOp a.eval o).run Try.prog W = .ok (.value v') W' := by
  simp [execOp, ho, resolve, invoke, builtin, hs, hx, hr, Result.andThen]
theorem own_pushF {α : Type} {en : α → List Value} {sz e : Nat} {st : TypeId} {i : TypeInfo} {z : Value} {bytes : Nat} (hr : ∀ x, (en x).length = sz) (h1 : ∀ x, ∀ u ∈ en x, u.oneCell' = true) (ht : Try.prog.underlying st = some (.slice e)) (hi : Try.prog.info? e = some i) (hz : i.zero = some z) (hsize : i.size = sz) (hby : i.bytes = bytes) (hzs : z.cells.size = sz) (hsz : 0 < sz) (hbb : bytes ≤ 2000)
    {B : Nat} {w : World} {v : Value} {l : List α} (h : w.ownsRow B e sz v l.length (l.flatMap en)) (hB : B ≤ w.heap.size) (hn : l.length ≤ 50000000) (x : α) (ty : TypeId) :
    ∃ v' w', (Builtin.append_ #[st, st] ty #[v, .slice (some ⟨w.heap.size, 0, none⟩) 1 1]).run Try.prog (w.alloc (.cells (en x).toArray e)) = .ok v' w' ∧ w'.ownsRow B e sz v' (l ++ [x]).length ((l ++ [x]).flatMap en) ∧ Below B w w' ∧ Fr (fun b => v.ownBlock = some b) w w' := by
  have hnews : ∀ j v, (en x)[j]? = some v → (w.alloc (.cells (en x).toArray e)).cell? ((⟨w.heap.size, 0, none⟩ : Addr).add j) = some v := fun j v hv => by
    rw [Go.WideShapes.add_plain, Nat.zero_add, cell_of_row _ _ j _ e _ (heap_alloc_new w _), List.getElem?_toArray]
    exact hv
  have hbt : ((l.length + 1) + (l.length + 1) / 4 + 192) * bytes ≤ 281474976710656 := by
    have : ((l.length + 1) + (l.length + 1) / 4 + 192) * bytes ≤ 62500194 * 2000 := Nat.mul_le_mul (by omega) hbb
    omega
  obtain ⟨v', w', hrun, ho', hf, _⟩ := append_gen (W := w.alloc (.cells (en x).toArray e)) (v := v) ht hi hz hsize hby hzs hsz (World.ownsRow.alloc h (.cells (en x).toArray e)) (ad := ⟨w.heap.size, 0, none⟩) (m := 1) (c := 1) (news := en x) (by omega) (by rw [hr, Nat.one_mul]) hnews (h1 x) (by unfold maxLen; omega) hbt (by simp only [World.alloc, Array.size_push]; omega) ty
  have hF : Fr (fun b => v.ownBlock = some b) w w' := (Fr.alloc _ w (.cells (en x).toArray e)).trans hf fun _ _ q => q
  refine ⟨v', w', hrun, ?_, hF.below (fun j q => (h.lt j q).1) hB, hF⟩
  rw [List.length_append, List.flatMap_append]
  simpa using ho'
theorem own_pushL {α : Type} {en : α → List Value} {sz e : Nat} {st : TypeId} {i : TypeInfo} {z : Value} {bytes : Nat} (hr : ∀ x, (en x).length = sz) (h1 : ∀ x, ∀ u ∈ en x, u.oneCell' = true) (ht : Try.prog.underlying st = some (.slice e)) (hi : Try.prog.info? e = some i) (hz : i.zero = some z) (hsize : i.size = sz) (hby : i.bytes = bytes) (hzs : z.cells.size = sz) (hsz : 0 < sz) (hbb : bytes ≤ 2000)
    {B : Nat} {w : World} {v : Value} {l : List α} (h : w.ownsRow B e sz v l.length (l.flatMap en)) (hB : B ≤ w.heap.size) (hn : l.length ≤ 50000000) (x : α) (ty : TypeId) :
    ∃ v' w', (Builtin.append_ #[st, st] ty #[v, .slice (some ⟨w.heap.size, 0, none⟩) 1 1]).run Try.prog (w.alloc (.cells (en x).toArray e)) = .ok v' w' ∧ w'.ownsRow B e sz v' (l ++ [x]).length ((l ++ [x]).flatMap en) ∧ Below B w w' ∧ Fr (fun b => v.ownBlock = some b) w w' ∧ ∀ k, v'.ownBlock = some k → v.ownBlock = some k ∨ w.heap.size ≤ k := by
  have hnews : ∀ j v, (en x)[j]? = some v → (w.alloc (.cells (en x).toArray e)).cell? ((⟨w.heap.size, 0, none⟩ : Addr).add j) = some v := fun j v hv => by
    rw [Go.WideShapes.add_plain, Nat.zero_add, cell_of_row _ _ j _ e _ (heap_alloc_new w _), List.getElem?_toArray]
    exact hv
  have hbt : ((l.length + 1) + (l.length + 1) / 4 + 192) * bytes ≤ 281474976710656 := by
    have : ((l.length + 1) + (l.length + 1) / 4 + 192) * bytes ≤ 62500194 * 2000 := Nat.mul_le_mul (by omega) hbb
    omega
  obtain ⟨v', w', hrun, ho', hf, hor⟩ := append_gen (W := w.alloc (.cells (en x).toArray e)) (v := v) ht hi hz hsize hby hzs hsz (World.ownsRow.alloc h (.cells (en x).toArray e)) (ad := ⟨w.heap.size, 0, none⟩) (m := 1) (c := 1) (news := en x) (by omega) (by rw [hr, Nat.one_mul]) hnews (h1 x) (by unfold maxLen; omega) hbt (by simp only [World.alloc, Array.size_push]; omega) ty
  have hF : Fr (fun b => v.ownBlock = some b) w w' := (Fr.alloc _ w (.cells (en x).toArray e)).trans hf fun _ _ q => q
  refine ⟨v', w', hrun, ?_, hF.below (fun j q => (h.lt j q).1) hB, hF, fun k hk => ?_⟩
  · rw [List.length_append, List.flatMap_append]
    simpa using ho'
  · rcases hor k hk with q | q
    · exact .inl q
    · simp only [World.alloc, Array.size_push] at q
      exact .inr (by omega)
theorem rows_apart {W : World} {B B' e e' sz sz' n n' b : Nat} {x v : Value} {xs ys : List Value} (hne : e' ≠ e) (hx : W.ownsRow B e sz x n xs) (hb : x.ownBlock = some b) (hv : W.ownsRow B' e' sz' v n' ys) : v.ownBlock ≠ some b := fun q => by
  obtain ⟨_, hx⟩ := hx
  obtain ⟨_, hv⟩ := hv
  rcases hx with ⟨rfl, _⟩ | ⟨g1, c1, r1, rfl, _, hg1, _⟩
  · cases hb
  · rcases hv with ⟨rfl, _⟩ | ⟨g2, c2, r2, rfl, _, hg2, _⟩
    · cases q
    · injection hb with hb
      injection q with q
      have e1 : g1 = g2 := by rw [show g1 = b from hb, show g2 = b from q]
      subst e1
      rw [hg1] at hg2
      injection hg2 with hg2
      injection hg2 with _ hg2
      exact hne hg2.symm
theorem own_ne {W : World} {B e sz n g t : Nat} {v : Value} {xs : List Value} {Z : Array Value} (h : W.ownsRow B e sz v n xs) (hg : W.heap[g]? = some (.cells Z t)) (hne : e ≠ t) : v.ownBlock ≠ some g := fun q => by
  obtain ⟨_, h⟩ := h
  rcases h with ⟨rfl, _⟩ | ⟨g1, c1, r1, rfl, _, hg1, _⟩
  · cases q
  · injection q with q
    have q' : g1 = g := q
    subst q'
    rw [hg1] at hg
    injection hg with hg
    injection hg with _ hg
    exact hne hg
section
variable {α : Type} {en : α → List Value} {sz : Nat}
theorem fm_put (hr : ∀ x, (en x).length = sz) : ∀ (l : List α) (i j : Nat) (x x' : α) (u : Value), l[i]? = some x → j < sz → en x' = (en x).set j u → (l.flatMap en).set (i * sz + j) u = (l.set i x').flatMap en
  | [], i, j, x, x', u, h, _, _ => by simp at h
  | y :: t, 0, j, x, x', u, h, hj, he => by
    have h' : y = x := by simpa using h
    subst h'
    rw [List.set_cons_zero, List.flatMap_cons, List.flatMap_cons, Nat.zero_mul, Nat.zero_add, List.set_append_left _ _ (by rw [hr]; exact hj), he]
  | y :: t, i + 1, j, x, x', u, h, hj, he => by
    have h' : t[i]? = some x := by simpa using h
    have e : (i + 1) * sz + j = sz + (i * sz + j) := by rw [Nat.add_mul, Nat.one_mul]; omega
    rw [List.set_cons_succ, List.flatMap_cons, List.flatMap_cons, e, List.set_append_right _ _ (by rw [hr]; omega), hr, Nat.add_sub_cancel_left, fm_put hr t i j x x' u h' hj he]
theorem own_cell (hr : ∀ x, (en x).length = sz) {B e g n c i j : Nat} {w : World} {l : List α} {x x' : α} {u : Value} (h : w.ownsRow B e sz (.slice (some ⟨g, 0, none⟩) n c) n (l.flatMap en)) (hx : l[i]? = some x) (hj : j < sz) (he : en x' = (en x).set j u) :
    (w.setCell ⟨g, i * sz + j, none⟩ u).ownsRow B e sz (.slice (some ⟨g, 0, none⟩) n c) n ((l.set i x').flatMap en) := by
  have := (World.ownsRow.stored h (i * sz + j) u).1
  rwa [fm_put hr l i j x x' u hx hj he] at this
theorem lies_prefix {w : World} {p : Option Addr} {l r : List α} (h : LiesE en sz w p (l ++ r)) : LiesE en sz w p l := fun h0 => by
  obtain ⟨b, off, hp, hlt, hc⟩ := h (by rw [List.length_append]; omega)
  exact ⟨b, off, hp, hlt, fun k x hx => hc k x (by rw [List.getElem?_append_left (List.getElem?_eq_some_iff.1 hx).1]; exact hx)⟩
end
theorem box_ne {w : World} {g g' t e : Nat} {cs cur : Array Value} (h : w.heap[g]? = some (.cells cs t)) (h' : w.heap[g']? = some (.cells cur e)) (hne : t ≠ e) : g ≠ g' := fun q => by
  subst q
  rw [h] at h'
  injection h' with h'
  injection h' with _ h'
  exact hne h'
theorem own_heap {w : World} {B e sz g n c : Nat} {xs : List Value} (h : w.ownsRow B e sz (.slice (some ⟨g, 0, none⟩) n c) n xs) : B ≤ g ∧ n ≤ c ∧ ∃ cur, w.heap[g]? = some (.cells cur e) := by
  rcases h.2 with ⟨q, _⟩ | ⟨g', c', cur, q, hB, hh, hn, _⟩
  · cases q
  · injection q with q1 q2 q3
    injection q1 with q1
    injection q1 with q1
    subst q1; subst q3
    exact ⟨hB, hn, cur, hh⟩
/-- One of two, one of four. -/
def sel2 {β : Type} (a b : β) (k : Nat) : β := if k = 0 then a else b
def sel4 {β : Type} (a b c d : β) (k : Nat) : β := if k = 0 then a else if k = 1 then b else if k = 2 then c else d
section
variable {α : Type} {en : α → List Value} {e sz et : Nat} {W : World}
theorem two_ready {Ba Bb ca cb : Nat} {pa pb : Option Addr} {l : List α} (ha : W.ownsRow Ba e sz (.slice pa l.length ca) l.length (l.flatMap en)) (hb : W.ownsRow Bb e sz (.slice pb l.length cb) l.length (l.flatMap en))
    (hne : ∀ b, (Value.slice pa l.length ca).ownBlock = some b → (Value.slice pb l.length cb).ownBlock ≠ some b) :
    Apt 2 W.heap.size (fun k => .slice (sel2 pa pb k) l.length (sel2 ca cb k)) ∧ Lsts en e sz 2 W.heap.size (fun k => .slice (sel2 pa pb k) l.length (sel2 ca cb k)) (W.alloc (.cells #[.slice pa l.length ca, .slice pb l.length cb] et)) (fun _ => l) (W.alloc (.cells #[.slice pa l.length ca, .slice pb l.length cb] et)) := by
  have hbn := below_new W (.cells #[.slice pa l.length ca, .slice pb l.length cb] et)
  have hg := heap_alloc_new W (.cells #[.slice pa l.length ca, .slice pb l.length cb] et)
  refine ⟨⟨fun k hk q => ?_, fun j k hj hk hjk b hb1 hb2 => ?_⟩, ⟨Fr.refl _ _, fun k hk => ?_, fun k hk => ?_⟩⟩
  · match k, hk, q with
    | 0, _, q => exact absurd (ha.lt _ q).2 (by omega)
    | 1, _, q => exact absurd (hb.lt _ q).2 (by omega)
  · match j, k, hj, hk, hjk, hb1, hb2 with
    | 0, 0, _, _, h, _, _ => exact h rfl
    | 1, 1, _, _, h, _, _ => exact h rfl
    | 0, 1, _, _, _, h1, h2 => exact hne b h1 h2
    | 1, 0, _, _, _, h1, h2 => exact hne b h2 h1
  · match k, hk with
    | 0, _ => exact Joins.cell_of_block hg 0
    | 1, _ => exact Joins.cell_of_block hg 1
  · match k, hk with
    | 0, _ => exact World.ownsRow.mono (own_later ha hbn) (Nat.zero_le _)
    | 1, _ => exact World.ownsRow.mono (own_later hb hbn) (Nat.zero_le _)
theorem four_ready {Ba Bb Bc Bd ca cb cc cd : Nat} {pa pb pc pd : Option Addr} {l t : List α} (ha : W.ownsRow Ba e sz (.slice pa l.length ca) l.length (l.flatMap en)) (hb : W.ownsRow Bb e sz (.slice pb l.length cb) l.length (l.flatMap en)) (hc : W.ownsRow Bc e sz (.slice pc t.length cc) t.length (t.flatMap en)) (hd : W.ownsRow Bd e sz (.slice pd t.length cd) t.length (t.flatMap en))
    (n1 : ∀ b, (Value.slice pa l.length ca).ownBlock = some b → b < Bb ∧ b < Bc ∧ b < Bd) (n2 : ∀ b, (Value.slice pb l.length cb).ownBlock = some b → b < Bc ∧ b < Bd) (n3 : ∀ b, (Value.slice pc t.length cc).ownBlock = some b → b < Bd) :
    Apt 4 W.heap.size (fun k => .slice (sel4 pa pb pc pd k) (sel4 l.length l.length t.length t.length k) (sel4 ca cb cc cd k)) ∧ Lsts en e sz 4 W.heap.size (fun k => .slice (sel4 pa pb pc pd k) (sel4 l.length l.length t.length t.length k) (sel4 ca cb cc cd k)) (W.alloc (.cells #[.slice pa l.length ca, .slice pb l.length cb, .slice pc t.length cc, .slice pd t.length cd] et)) (sel4 l l t t) (W.alloc (.cells #[.slice pa l.length ca, .slice pb l.length cb, .slice pc t.length cc, .slice pd t.length cd] et)) := by
  have hbn := below_new W (.cells #[.slice pa l.length ca, .slice pb l.length cb, .slice pc t.length cc, .slice pd t.length cd] et)
  have hg := heap_alloc_new W (.cells #[.slice pa l.length ca, .slice pb l.length cb, .slice pc t.length cc, .slice pd t.length cd] et)
  have lb : ∀ b, (Value.slice pb l.length cb).ownBlock = some b → Bb ≤ b := fun b h => (hb.lt b h).1
  have lc : ∀ b, (Value.slice pc t.length cc).ownBlock = some b → Bc ≤ b := fun b h => (hc.lt b h).1
  have ld : ∀ b, (Value.slice pd t.length cd).ownBlock = some b → Bd ≤ b := fun b h => (hd.lt b h).1
  refine ⟨⟨fun k hk q => ?_, fun j k hj hk hjk b hb1 hb2 => ?_⟩, ⟨Fr.refl _ _, fun k hk => ?_, fun k hk => ?_⟩⟩
  · match k, hk, q with
    | 0, _, q => exact absurd (ha.lt _ q).2 (by omega)
    | 1, _, q => exact absurd (hb.lt _ q).2 (by omega)
    | 2, _, q => exact absurd (hc.lt _ q).2 (by omega)
    | 3, _, q => exact absurd (hd.lt _ q).2 (by omega)
  · have w12 : ∀ b, (Value.slice pa l.length ca).ownBlock = some b → (Value.slice pb l.length cb).ownBlock = some b → False := fun b h1 h2 => by have := n1 b h1; have := lb b h2; omega
    have w13 : ∀ b, (Value.slice pa l.length ca).ownBlock = some b → (Value.slice pc t.length cc).ownBlock = some b → False := fun b h1 h2 => by have := n1 b h1; have := lc b h2; omega
    have w14 : ∀ b, (Value.slice pa l.length ca).ownBlock = some b → (Value.slice pd t.length cd).ownBlock = some b → False := fun b h1 h2 => by have := n1 b h1; have := ld b h2; omega
    have w23 : ∀ b, (Value.slice pb l.length cb).ownBlock = some b → (Value.slice pc t.length cc).ownBlock = some b → False := fun b h1 h2 => by have := n2 b h1; have := lc b h2; omega
    have w24 : ∀ b, (Value.slice pb l.length cb).ownBlock = some b → (Value.slice pd t.length cd).ownBlock = some b → False := fun b h1 h2 => by have := n2 b h1; have := ld b h2; omega
    have w34 : ∀ b, (Value.slice pc t.length cc).ownBlock = some b → (Value.slice pd t.length cd).ownBlock = some b → False := fun b h1 h2 => by have := n3 b h1; have := ld b h2; omega
    match j, k, hj, hk, hjk, hb1, hb2 with
    | 0, 0, _, _, h, _, _ => exact h rfl
    | 1, 1, _, _, h, _, _ => exact h rfl
    | 2, 2, _, _, h, _, _ => exact h rfl
    | 3, 3, _, _, h, _, _ => exact h rfl
    | 0, 1, _, _, _, h1, h2 => exact w12 b h1 h2
    | 1, 0, _, _, _, h1, h2 => exact w12 b h2 h1
    | 0, 2, _, _, _, h1, h2 => exact w13 b h1 h2
    | 2, 0, _, _, _, h1, h2 => exact w13 b h2 h1
    | 0, 3, _, _, _, h1, h2 => exact w14 b h1 h2
    | 3, 0, _, _, _, h1, h2 => exact w14 b h2 h1
    | 1, 2, _, _, _, h1, h2 => exact w23 b h1 h2
    | 2, 1, _, _, _, h1, h2 => exact w23 b h2 h1
    | 1, 3, _, _, _, h1, h2 => exact w24 b h1 h2
    | 3, 1, _, _, _, h1, h2 => exact w24 b h2 h1
    | 2, 3, _, _, _, h1, h2 => exact w34 b h1 h2
    | 3, 2, _, _, _, h1, h2 => exact w34 b h2 h1
  · match k, hk with
    | 0, _ => exact Joins.cell_of_block hg 0
    | 1, _ => exact Joins.cell_of_block hg 1
    | 2, _ => exact Joins.cell_of_block hg 2
    | 3, _ => exact Joins.cell_of_block hg 3
  · match k, hk with
    | 0, _ => exact World.ownsRow.mono (own_later ha hbn) (Nat.zero_le _)
    | 1, _ => exact World.ownsRow.mono (own_later hb hbn) (Nat.zero_le _)
    | 2, _ => exact World.ownsRow.mono (own_later hc hbn) (Nat.zero_le _)
    | 3, _ => exact World.ownsRow.mono (own_later hd hbn) (Nat.zero_le _)
theorem two_tv {Ba Bb ca cb B i : Nat} {pa pb : Option Addr} {l : List α} (ha : W.ownsRow Ba e sz (.slice pa l.length ca) l.length (l.flatMap en)) (hb : W.ownsRow Bb e sz (.slice pb l.length cb) l.length (l.flatMap en)) (h : TV 2 (fun k => .slice (sel2 pa pb k) l.length (sel2 ca cb k)) i) (hA : B ≤ Ba) (hB : B ≤ Bb) : B ≤ i ∧ ∀ {B' e' sz' n' : Nat} {v : Value} {ys : List Value}, e' ≠ e → W.ownsRow B' e' sz' v n' ys → v.ownBlock ≠ some i := by
  obtain ⟨k, hk, q⟩ := h
  match k, hk, q with
  | 0, _, q => exact ⟨by have := (ha.lt _ q).1; omega, fun hne hv => rows_apart hne ha q hv⟩
  | 1, _, q => exact ⟨by have := (hb.lt _ q).1; omega, fun hne hv => rows_apart hne hb q hv⟩
end
end Go.Proofs.Ytencclpcebpgmaa
