/- The stage's theorem's walk: what may be left behind a crash; for all puts, fuses and choices. -/
import Derived.Test.YtembocfghkmieaaLeftOps
namespace Go.Proofs.Ytembocfghkmieaa
open Go.RowKit

/-- A put that came in: two cells at a place. -/
structure PutAt (w : World) (b off : Nat) where
  pos : Int
  pa : Option Addr
  pl : Nat
  pc : Nat
  pf : Nat → Int
  hb : b < w.heap.size
  c0 : w.cell? ⟨b, off, none⟩ = some (.int .i64 pos)
  c1 : w.cell? ⟨b, off + 1, none⟩ = some (.slice pa pl pc)
  lies : Lies w (.slice pa pl pc) pl pf
  byte : ∀ i, 0 ≤ pf i ∧ pf i ≤ 255
  hp : -9223372036854775808 ≤ pos ∧ pos ≤ 9223372036854775807
def PutsAt (w : World) (a : Option Addr) (len : Nat) : Prop := (len : Int) ≤ 9223372036854775807 ∧ ∀ r, r < len → ∃ b off, a = some ⟨b, off, none⟩ ∧ Nonempty (PutAt w b (off + r * 2))
/-- The block of some bytes. -/
def canB (f : Nat → Int) (n : Nat) : Nat → Int := firsts f (min n 1024)
theorem canB_can {f : Nat → Int} (h : ∀ i, 0 ≤ f i ∧ f i ≤ 255) (n : Nat) : Can (canB f n) := by
  refine ⟨fun i => ?_, fun i hi => ?_⟩
  · unfold canB firsts
    split
    · exact h i
    · omega
  · unfold canB firsts
    rw [if_neg (by omega)]
theorem canB_blk (f : Nat → Int) (n : Nat) : blk (firsts f n) = blk (canB f n) := blk_congr fun i hi => by
  unfold canB firsts
  by_cases h : i < n
  · rw [if_pos h, if_pos (by omega)]
  · rw [if_neg h, if_neg (by omega)]
theorem block_can {w : World} {v : Value} {n : Nat} {f : Nat → Int} (h : Lies w v n f) : Calls Try.prog 21 #[v] w fun e w' => e = .returned (.agg (blk (canB f n))) ∧ Below w.heap.size w w' := by
  have q := block_lies h
  rw [canB_blk] at q
  exact q

theorem left_new (n : Nat) (f : Int) : Left (fuseV (newV n) f) n f 0 ∧ (fuseV (newV n) f).stopped = false ∧ (fuseV (newV n) f).wait = [] ∧ Rel (fuseV (newV n) f) (List.replicate n nought) := by
  have e : fuseV (newV n) f = { newV n with fuse := max f (-1) } := rfl
  rw [e]
  refine ⟨⟨rfl, fun _ => ⟨fun q => ?_, fun q => ?_⟩, Nat.le_refl _, Int.le_refl _, rfl, rfl⟩, rfl, rfl, (rel_new n).same rfl rfl⟩
  · show max f (-1) = -1
    omega
  · show max f (-1) = f - (0 : Nat) ∧ _
    omega
theorem Has.drew {w W : World} {g d : Nat} {hs : List (Nat → Int)} {v : Value} {wl : List Cel} {s : St} (h : Has (Side w g hs v wl) W d s) : Has (Side w g hs v wl) W.drew d s := by
  obtain ⟨L, hd, hD, hp⟩ := h
  exact ⟨L, hd, hD.fr (Fr.drew (T := fun _ => False) W) fun _ _ q => q, side_stays _ _ _ _ _ W W.drew L L hD.lt hp ⟨rfl, fun _ q => .inl q, Fr.drew W⟩⟩
theorem Rel.takeNext {s : St} {hs : List (Nat → Int)} {j : Nat} {c : Cel} (h : Rel (holdAll s (s.wait.take j)) hs) (hc : s.wait[j]? = some c) (hok : Ok s) : Rel (holdAll s (s.wait.take (j + 1))) (hs.set c.1.toNat c.2) := by
  rw [take_snoc hc, holdAll_snoc]
  have hw := hok.wait c (List.mem_of_getElem? hc)
  exact h.hold (by rw [holdAll_n]; exact hw.1) hw.2

set_option maxRecDepth 20000 in
set_option maxHeartbeats 4000000 in
theorem law_left (blocks : Int) (a : Option Addr) (len cap : Nat) (fuse : Int) (ka : Option Addr) (kc : Nat) (kl : List Bool) (w : World) (hp : PutsAt w a len) (hkv : BoolsAt w (.slice ka kl.length kc) kl) (hkl : kl.length ≤ maxLen)
    (hf : -9223372036854775808 ≤ fuse ∧ fuse ≤ 9223372036854775807) :
    Calls Try.prog 6 #[.int .i64 blocks, .slice a len cap, .int .i64 fuse, .slice ka kl.length kc] w fun e w' => e = .returned (.bool true) ∧ Below w.heap.size w w' := by
  obtain ⟨hlen, hputs⟩ := hp
  have HP : Hid (∀ r, r < len → ∃ b off, a = some ⟨b, off, none⟩ ∧ Nonempty (PutAt w b (off + r * 2))) := hputs
  have HK : Hid (BoolsAt w (.slice ka kl.length kc) kl) := hkv
  clear hputs hkv
  generalize hkn : kl.length = kn at *
  unfold maxLen at hkl
  have hA := awake_any w
  by_cases hok : 1 ≤ blocks ∧ blocks ≤ 64 ∧ len ≤ 300
  · obtain ⟨hb1, hb2, hl3⟩ := hok
    obtain ⟨n, rfl⟩ : ∃ n : Nat, blocks = n := ⟨blocks.toNat, by omega⟩
    have hlt1 : decide ((n : Int) < 1) = false := decide_eq_false (by omega)
    have hgt : decide ((n : Int) > 64) = false := decide_eq_false (by omega)
    have hgl : decide ((len : Int) > 300) = false := decide_eq_false (by omega)
    have hmk := fun u => run_make79 u n (by omega)
    have hbnd : bndB (n : Int) = true := by unfold bndB; simp; omega
    obtain ⟨hl0, hst0, hwt0, hrl0⟩ := left_new n fuse
    go_enter Try.func6, Try.ntmps6
    go_wp2_with (go_at_call 28; fail)
    refine hA.mono ?_
    rintro e W1 ⟨rfl, hb⟩
    clear hA
    go_wp2_with (go_at_call 30; fail)
    refine (new_ok hbnd W1).mono ?_
    rintro e W2 ⟨L, rfl, hD2, hL2, hb2'⟩
    have hSide : Has (Side w W2.heap.size (List.replicate n nought) (.slice none 0 0) []) (W2.alloc (.cells (blkCells (List.replicate n nought)).toArray 58)) L.d (newV n) := by
      have hbw := below_next hb hb2'
      refine ⟨L, rfl, hD2.later (below_new _ _), fun k hk => ?_, below_next hbw (below_new _ _), heap_alloc_new _ _, fun q => ?_, World.ownsRow_nil _ _ 85 1025, fun k hk => by simp [Value.ownBlock] at hk, hbw.size⟩
      · have := hL2 k hk
        have := hb.size
        omega
      · have := hD2.lt _ q
        omega
    clear hb hD2 hL2 hb2'
    generalize L.d = d at *
    generalize hgh : W2.heap.size = gh at *
    have HS0 : Hid (Has (Side w gh (List.replicate n nought) (.slice none 0 0) []) (W2.alloc (.cells (blkCells (List.replicate n nought)).toArray 58)) d (newV n)) := hSide
    clear hSide
    generalize List.replicate n nought = hs0 at *
    go_wp2_with (go_at_call 31; fail)
    refine (has_fuse (side_stays _ _ _ _ _) HS0.out fuse hf.2).mono ?_
    rintro e W3 ⟨rfl, hH3⟩
    have HH3 : Hid (Has (Side w gh hs0 (.slice none 0 0) []) W3 d (fuseV (newV n) fuse)) := hH3
    have HL3 : Hid (Left (fuseV (newV n) fuse) n fuse 0 ∧ Rel (fuseV (newV n) fuse) hs0) := ⟨hl0, hrl0⟩
    clear HS0 hH3 hl0 hrl0
    generalize fuseV (newV n) fuse = s0 at *
    go_wp2
    go_loopw [13, 14, 15] (fun s13 s14 s15 wx => ∃ (i : Nat) (s : St) (hs : List (Nat → Int)) (wa : Option Addr) (wc : Nat), i ≤ len ∧ s15 = .int .i64 i ∧ s14 = .bool s.stopped ∧ s13 = .slice wa s.wait.length wc ∧ Hid (Has (Side w gh hs (.slice wa s.wait.length wc) s.wait) wx d s) ∧ Hid (Left s n fuse i ∧ Rel s hs)) (fun s13 s14 s15 _ => len - (intOf s15).toNat)
    case atStart =>
      refine ⟨0, s0, hs0, none, 0, by omega, rfl, by rw [hst0], by rw [hwt0]; rfl, ?_, HL3.out⟩
      rw [hwt0]
      exact HH3.out
    case round =>
      obtain ⟨i, s, hs, wa, wc, hi, rfl, rfl, rfl, HH, HL⟩ := hrel
      clear HH3 HL3
      by_cases hi2 : (i : Int) < len
      · obtain ⟨b, off, rfl, ⟨A⟩⟩ := HP.out i (by omega)
        obtain ⟨pos, pa, pl, pc, pf, hbw, a0, a1, hlies, hbyte, hpos⟩ := A
        have HC : Hid (∀ W, Below w.heap.size w W → W.cell? ⟨b, off + i * 2, none⟩ = some (.int .i64 pos) ∧ W.cell? ⟨b, off + i * 2 + 1, none⟩ = some (.slice pa pl pc)) := fun W hb => ⟨(hb.cell (p := ⟨b, off + i * 2, none⟩) hbw).trans a0, (hb.cell (p := ⟨b, off + i * 2 + 1, none⟩) hbw).trans a1⟩
        have HB : Hid (∀ W, Below w.heap.size w W → Calls Try.prog 21 #[.slice pa pl pc] W fun e w' => e = .returned (.agg (blk (canB pf pl))) ∧ Below W.heap.size W w') := fun W hb => block_can (hlies.later hb)
        have hcan := canB_can hbyte pl
        clear hlies hbyte hbw a0 a1
        generalize canB pf pl = F at *
        have hpk := pick_any pos n ⟨by omega, by omega⟩ wr
        have hk : 0 ≤ pos % (n : Int) ∧ pos % (n : Int) < n := ⟨Int.emod_nonneg _ (by omega), Int.emod_lt_of_pos _ (by omega)⟩
        generalize pos % (n : Int) = k at hpk hk
        obtain ⟨c0, c1⟩ := HC.out wr HH.out.below
        generalize hst : s.stopped = st at *
        have hwl : s.wait.length < 1000 := by
          have := HL.out.1.ops
          have : s.wait.length ≤ s.ops.length := by unfold St.ops; simp
          omega
        have hi3 : i ≤ 300 := by omega
        have HOk : Hid (Ok s) := HH.out.ok
        have hsplit : (goesB s fuse i = true ∧ st = false ∧ (fuse < 0 ∨ ¬ fuse < 0 ∧ (i : Int) < fuse)) ∨ (goesB s fuse i = false ∧ (st = true ∨ st = false ∧ ¬ fuse < 0 ∧ ¬ (i : Int) < fuse)) := by
          unfold goesB
          rw [hst]
          cases st
          · by_cases q1 : fuse < 0
            · exact .inl ⟨by simp [q1], rfl, .inl q1⟩
            · by_cases q2 : (i : Int) < fuse
              · exact .inl ⟨by simp [q2], rfl, .inr ⟨q1, q2⟩⟩
              · exact .inr ⟨by simp [q1, q2], .inr ⟨rfl, q1, q2⟩⟩
          · exact .inr ⟨rfl, .inl rfl⟩
        by_cases hneg : pos < 0
        · rcases hsplit with ⟨hg, rfl, hfu⟩ | ⟨hg, hfu⟩
          · obtain ⟨he, hv, hl, hst', hwt, hhd, hn⟩ := bar_goes HL.out.1 hg
            have HL2 : Hid (Left (barS s) n fuse (i + 1)) := hl
            clear hl
            rcases hfu with hfu | ⟨hfu, hif⟩
            all_goals
              go_wp2_with (go_at_call 11; fail)
              refine hpk.mono ?_
              rintro e W ⟨rfl, he'⟩
              obtain rfl := he'.symm
              clear he' hpk
              go_wp2_with (go_at_call 32; fail)
              refine (has_barrier (side_stays _ _ _ _ _) HH.out (HL.out.1.room hi3)).mono ?_
              rw [he, hv]
              rintro e W5 ⟨rfl, hH5⟩
              have HH5 : Hid (Has (Side w gh hs (.slice wa s.wait.length wc) s.wait) W5 d (barS s)) := hH5
              obtain ⟨c0, c1⟩ := HC.out W5 hH5.below
              clear hH5 HH
              go_wp2
              go_loopw [19] (fun s19 wx => ∃ (j : Nat) (hs' : List (Nat → Int)), j ≤ s.wait.length ∧ s19 = .int .i64 j ∧ Hid (Has (Side w gh hs' (.slice wa s.wait.length wc) s.wait) wx d (barS s)) ∧ Hid (Rel (holdAll s (s.wait.take j)) hs')) (fun s19 _ => s.wait.length - (intOf s19).toNat)
              case atStart => exact ⟨0, hs, by omega, rfl, HH5.out, HL.out.2⟩
              case round =>
                obtain ⟨j, hs', hj, rfl, HHj, HR⟩ := hrel
                clear HH5 c0 c1
                by_cases hj2 : (j : Int) < s.wait.length
                · have hc : s.wait[j]? = some s.wait[j] := List.getElem?_eq_getElem (by omega)
                  generalize s.wait[j] = c at hc
                  have hown := HHj.out.own
                  obtain ⟨g, cap', hwv⟩ := slice_ofC hown (by omega)
                  injection hwv with hw1 hw2 hw3
                  subst hw1
                  subst hw3
                  clear hw2
                  obtain ⟨q1, q2⟩ := cel_at hown (k := j) (K := j * 1025) rfl hc
                  have hcb := (HOk.out).wait c (List.mem_of_getElem? hc)
                  have hHd := HHj.out.drew
                  obtain ⟨x, F'⟩ := c
                  obtain ⟨y, rfl⟩ : ∃ y : Nat, x = y := ⟨x.toNat, by have := hcb.1.1; simp only at this; omega⟩
                  have hyn : (y : Int) < n := by have := hcb.1.2; rw [HL.out.1.n] at this; exact this
                  have hlen' : y < hs'.length := by
                    have := HR.out.1
                    rw [holdAll_n, HL.out.1.n] at this
                    omega
                  have HR2 : Hid (Rel (holdAll s (s.wait.take (j + 1))) (hs'.set y F')) := HR.out.takeNext hc HOk.out
                  have HH9 : Hid (Has (Side w gh (hs'.set y F') (.slice (some ⟨g, 0, none⟩) s.wait.length _) s.wait) (wr.drew.setRow gh (blkCells (hs'.set y F')).toArray) d (barS s)) := hHd.setH _
                  have hrow := hHd.row
                  clear hown hHd hcb HR HHj hc
                  go_wp2
                  go_still_tail 12, (by kernel_rfl)
                  refine wpStill_loadM rfl _ rfl g (j * 1025 + 1) rfl F' q2 ?_
                  repeat still_step
                  refine wpStill_nil ?_
                  change wpList _ _ _ _ _ (World.drew _)
                  refine wpList_storeB rfl (.tmp 138) (.tmp 137) rfl gh y (y * 1024) rfl F' rfl rfl 58 hs' hrow hlen' ?_
                  go_wp2
                  exact ⟨⟨j + 1, hs'.set y F', by omega, by go_num, HH9.out, HR2.out⟩, by simp [intOf]; omega⟩
                · obtain rfl : j = s.wait.length := by omega
                  have hR := HR.out
                  rw [List.take_length] at hR
                  have HL3 : Hid (Left (barS s) n fuse (i + 1) ∧ Rel (barS s) hs') := ⟨HL2.out, hR.same (hn.trans (holdAll_n _ _).symm) hhd⟩
                  have HH9 := HHj.out.noWait
                  clear HR HHj hR HL2
                  go_wp2
                  refine ⟨⟨i + 1, barS s, hs', none, 0, by omega, by go_num, by rw [hst'], by rw [hwt]; rfl, ?_, HL3.out⟩, by simp [intOf]; omega⟩
                  rw [hwt]
                  exact HH9
          · obtain ⟨he, hv⟩ := bar_stays HL.out.1 hg
            obtain ⟨d1, d2, d3, d4, _⟩ := deadV_is (not_goes HL.out.1 hg)
            have HL2 : Hid (Left (deadV s) n fuse (i + 1) ∧ Rel (deadV s) hs) := ⟨HL.out.1.dead hg, HL.out.2.same d2 d3⟩
            clear d2 d3
            rcases hfu with rfl | ⟨rfl, hfu, hif⟩
            all_goals
              go_wp2_with (go_at_call 11; fail)
              refine hpk.mono ?_
              rintro e W ⟨rfl, he'⟩
              obtain rfl := he'.symm
              clear he' hpk
              go_wp2_with (go_at_call 32; fail)
              refine (has_barrier (side_stays _ _ _ _ _) HH.out (HL.out.1.room hi3)).mono ?_
              rw [he, hv]
              rintro e W5 ⟨rfl, hH5⟩
              have HH5 : Hid (Has (Side w gh hs (.slice wa s.wait.length wc) s.wait) W5 d (deadV s)) := hH5
              obtain ⟨c0, c1⟩ := HC.out W5 hH5.below
              clear hH5 HH
              go_wp2
              refine ⟨⟨i + 1, deadV s, hs, wa, wc, by omega, by go_num, by rw [d1], by rw [d4], ?_, HL2.out⟩, by simp [intOf]; omega⟩
              rw [d4]
              exact HH5.out
        · rcases hsplit with ⟨hg, rfl, hfu⟩ | ⟨hg, hfu⟩
          · obtain ⟨he, hv, hl, hst', hwt, hhd, hn⟩ := write_goes HL.out.1 hg hk F
            have HL2 : Hid (Left (writeS s k F) n fuse (i + 1) ∧ Rel (writeS s k F) hs) := ⟨hl, HL.out.2.same hn hhd⟩
            clear hl hhd hn
            rcases hfu with hfu | ⟨hfu, hif⟩
            all_goals
              go_wp2_with (go_at_call 11; fail)
              refine hpk.mono ?_
              rintro e W ⟨rfl, he'⟩
              obtain rfl := he'.symm
              clear he' hpk
              go_wp2_with (go_at_call 21; fail)
              refine (HB.out _ HH.out.below).mono ?_
              rintro e W4 ⟨rfl, hb4⟩
              have HH4 := HH.out.later (side_stays _ _ _ _ _) hb4
              clear hb4 c0 c1
              go_wp2_with (go_at_call 33; fail)
              refine (has_write (side_stays _ _ _ _ _) HH4 (HL.out.1.room hi3) k hcan).mono ?_
              rw [he, hv]
              rintro e W5 ⟨rfl, hH5⟩
              have HH5 : Hid (Has (Side w gh hs (.slice wa s.wait.length wc) s.wait) W5 d (writeS s k F)) := hH5
              obtain ⟨c0, c1⟩ := HC.out W5 hH5.below
              clear HH4 hH5 HH
              go_wp2_with (go_at_call 21; fail)
              refine (HB.out _ HH5.out.below).mono ?_
              rintro e W6 ⟨rfl, hb6⟩
              have HH6 : Hid (Has (Side w gh hs (.slice wa s.wait.length wc) s.wait) W6 d (writeS s k F)) := HH5.out.later (side_stays _ _ _ _ _) hb6
              clear hb6 HH5 c0 c1
              go_wp2_with (first | refine wpList_build85 rfl (.tmp 141) (.tmp 147) rfl k F rfl rfl ?_ | refine wpList_build1 rfl 30 85 (.tmp 148) rfl _ rfl (build30 (k, F) _) ?_ | (at_builtin; refine wpList_pushC rfl (.tmp 140) (.tmp 149) rfl (k, F) rfl rfl HH6.out hwl ?_; intro wa' wc' W7 hH7; have HH7 : Hid (Has (Side w gh hs (.slice wa' (s.wait.length + 1) wc') (s.wait ++ [(k, F)])) W7 d (writeS s k F)) := hH7; clear hH7))
              refine ⟨⟨i + 1, writeS s k F, hs, wa', wc', by omega, by go_num, by rw [hst'], by rw [hwt]; simp, ?_, HL2.out⟩, by simp [intOf]; omega⟩
              rw [hwt, List.length_append, List.length_singleton]
              exact HH7.out
          · obtain ⟨he, hv⟩ := write_stays HL.out.1 hg hk F
            obtain ⟨d1, d2, d3, d4, _⟩ := deadV_is (not_goes HL.out.1 hg)
            have HL2 : Hid (Left (deadV s) n fuse (i + 1) ∧ Rel (deadV s) hs) := ⟨HL.out.1.dead hg, HL.out.2.same d2 d3⟩
            clear d2 d3
            rcases hfu with rfl | ⟨rfl, hfu, hif⟩
            all_goals
              go_wp2_with (go_at_call 11; fail)
              refine hpk.mono ?_
              rintro e W ⟨rfl, he'⟩
              obtain rfl := he'.symm
              clear he' hpk
              go_wp2_with (go_at_call 21; fail)
              refine (HB.out _ HH.out.below).mono ?_
              rintro e W4 ⟨rfl, hb4⟩
              have HH4 := HH.out.later (side_stays _ _ _ _ _) hb4
              clear hb4 c0 c1
              go_wp2_with (go_at_call 33; fail)
              refine (has_write (side_stays _ _ _ _ _) HH4 (HL.out.1.room hi3) k hcan).mono ?_
              rw [he, hv]
              rintro e W5 ⟨rfl, hH5⟩
              have HH5 : Hid (Has (Side w gh hs (.slice wa s.wait.length wc) s.wait) W5 d (deadV s)) := hH5
              obtain ⟨c0, c1⟩ := HC.out W5 hH5.below
              clear HH4 hH5 HH
              go_wp2
              refine ⟨⟨i + 1, deadV s, hs, wa, wc, by omega, by go_num, by rw [d1], by rw [d4], ?_, HL2.out⟩, by simp [intOf]; omega⟩
              rw [d4]
              exact HH5.out
      · obtain rfl : i = len := by omega
        have HOk : Hid (Ok s) := HH.out.ok
        have hwl : s.wait.length < 1000 := by
          have := HL.out.1.ops
          have : s.wait.length ≤ s.ops.length := by unfold St.ops; simp
          omega
        have HA0 : Hid (After (crashS s kl) n 0) := after_crash HL.out.1 hl3 kl
        have HR0 : Hid (Rel s hs) := HL.out.2
        have hwv := slice_of0 HH.out.own
        clear HL
        generalize hst : s.stopped = st at *
        have hss := has_stopped HH.out
        rw [hst] at hss
        have hns : (st != st) = false := by simp
        obtain ⟨N, z25⟩ : ∃ N, (∀ w, (zeroValue 58).run Try.prog w = .ok (.agg (blk N)) w) := ⟨nought, zero25⟩
        go_wp2_with (go_at_call 34; fail)
        refine hss.mono ?_
        rintro e W ⟨rfl, he'⟩
        obtain rfl := he'.symm
        clear he' hss
        have hpe := has_pending (side_stays _ _ _ _ _) HH.out (by omega)
        go_wp2_with (go_at_call 25; fail)
        refine hpe.mono ?_
        rintro e W4 ⟨rfl, _, hH4⟩
        have HH4 : Hid (Has (Side w gh hs (.slice wa s.wait.length wc) s.wait) W4 d s) := hH4
        clear hpe hH4 HH
        go_wp2_with (go_at_call 35; fail)
        refine (has_crash_le (side_stays _ _ _ _ _) HH4.out (HK.out.later HH4.out.below) (by omega) (by omega)).mono ?_
        rintro e W5 ⟨rfl, hH5⟩
        have HH5 : Hid (Has (Side w gh hs (.slice wa s.wait.length wc) s.wait) W5 d (crashS s kl)) := hH5
        have hss := has_stopped hH5
        rw [HA0.out.live] at hss
        clear hH5 HH4
        go_wp2_with (go_at_call 34; fail)
        refine hss.mono ?_
        rintro e W ⟨rfl, he'⟩
        obtain rfl := he'.symm
        clear he' hss
        go_wp2
        go_loopw [20] (fun s20 wx => ∃ (j : Nat) (hs' : List (Nat → Int)), j ≤ s.wait.length ∧ s20 = .int .i64 j ∧ Hid (Has (Side w gh hs' (.slice wa s.wait.length wc) s.wait) wx d (crashS s kl)) ∧ Hid (Rel (holdAll s (keptL (s.wait.take j) (kl.take j))) hs')) (fun s20 _ => s.wait.length - (intOf s20).toNat)
        case atStart => exact ⟨0, hs, by omega, rfl, HH5.out, HR0.out⟩
        case round =>
          obtain ⟨j, hs', hj, rfl, HHj, HR⟩ := hrel
          clear HH5
          by_cases hin : (j : Int) < s.wait.length ∧ (j : Int) < kn
          · obtain ⟨hj2, hj3⟩ := hin
            have hc : s.wait[j]? = some s.wait[j] := List.getElem?_eq_getElem (by omega)
            have hx : kl[j]? = some kl[j] := List.getElem?_eq_getElem (by omega)
            generalize s.wait[j] = c at hc
            generalize kl[j] = x at hx
            obtain ⟨b, off, rfl, hbx⟩ := bools_cell HK.out hx
            have hbc := hbx wr HHj.out.below
            have hKN := HR.out.keptNext hc hx HOk.out
            clear hbx
            cases x
            · have HR2 : Hid (Rel (holdAll s (keptL (s.wait.take (j + 1)) (kl.take (j + 1)))) hs') := hKN
              clear hKN hx hc HR
              go_wp2
              exact ⟨⟨j + 1, hs', by omega, by go_num, HHj.out, HR2.out⟩, by simp [intOf]; omega⟩
            · have hown := HHj.out.own
              obtain ⟨g, rfl⟩ := hwv (by omega)
              obtain ⟨q1, q2⟩ := cel_at hown (k := j) (K := j * 1025) rfl hc
              have hcb := (HOk.out).wait c (List.mem_of_getElem? hc)
              have hHd := HHj.out.drew
              obtain ⟨x, F'⟩ := c
              obtain ⟨y, rfl⟩ : ∃ y : Nat, x = y := ⟨x.toNat, by have := hcb.1.1; simp only at this; omega⟩
              have hsn : s.n = n := HA0.out.n.symm ▸ (crashS_n s kl).symm
              have hyn : (y : Int) < n := by have := hcb.1.2; rw [hsn] at this; exact this
              have hlen' : y < hs'.length := by
                have := HR.out.1
                rw [holdAll_n, hsn] at this
                omega
              have HR2 : Hid (Rel (holdAll s (keptL (s.wait.take (j + 1)) (kl.take (j + 1)))) (hs'.set y F')) := hKN
              have HH9 : Hid (Has (Side w gh (hs'.set y F') (.slice (some ⟨g, 0, none⟩) s.wait.length _) s.wait) (wr.drew.setRow gh (blkCells (hs'.set y F')).toArray) d (crashS s kl)) := hHd.setH _
              have hrow := hHd.row
              clear hown hHd hcb HR HHj hc hKN hx
              go_wp2
              go_still_tail 12, (by kernel_rfl)
              refine wpStill_loadM rfl _ rfl g (j * 1025 + 1) rfl F' q2 ?_
              repeat still_step
              refine wpStill_nil ?_
              change wpList _ _ _ _ _ (World.drew _)
              refine wpList_storeB rfl (.tmp 200) (.tmp 199) rfl gh y (y * 1024) rfl F' rfl rfl 58 hs' hrow hlen' ?_
              go_wp2
              exact ⟨⟨j + 1, hs'.set y F', by omega, by go_num, HH9.out, HR2.out⟩, by simp [intOf]; omega⟩
          · have hR := HR.out
            rw [keptL_take _ _ _ (by omega)] at hR
            have HRc : Hid (Rel (crashS s kl) hs') := rel_crash hR
            clear hR HR HR0
            generalize crashS s kl = sc at *
            have hex : ¬ (j : Int) < s.wait.length ∨ ((j : Int) < s.wait.length ∧ ¬ (j : Int) < kn) := by omega
            rcases hex with hex | ⟨hex, hex2⟩
            all_goals
              go_wp2
              go_loopw [21] (fun s21 wx => ∃ (r : Nat) (s' : St), r ≤ n ∧ s21 = .int .i64 r ∧ Hid (Has (Side w gh hs' (.slice wa s.wait.length wc) s.wait) wx d s') ∧ Hid (After s' n r ∧ Rel s' hs')) (fun s21 _ => n - (intOf s21).toNat)
              case atStart => exact ⟨0, sc, by omega, rfl, HHj.out, HA0.out, HRc.out⟩
              case round =>
                obtain ⟨r, s', hr, rfl, HHr, HAr⟩ := hrel
                clear HHj HA0 HRc
                by_cases hr2 : (r : Int) < n
                · obtain ⟨k1, k2, k3, k4⟩ := HAr.out.1.read (k := (r : Int)) ⟨by omega, hr2⟩
                  have hrd := has_read (side_stays _ _ _ _ _) HHr.out (HAr.out.1.room (by omega)) r
                  rw [k1, k2, k3] at hrd
                  have hrl : r < hs'.length := by
                    have := HAr.out.2.1
                    rw [HAr.out.1.n] at this
                    omega
                  have hF := HAr.out.2.2 r hrl
                  have HA2 : Hid (After (readS s') n (r + 1) ∧ Rel (readS s') hs') := ⟨k4, HAr.out.2.same rfl rfl⟩
                  generalize (s'.held r).getD nought = F at *
                  clear k1 k2 k3 k4 HHr HAr
                  go_wp2_with (go_at_call 20; fail)
                  refine hrd.mono ?_
                  rintro e W6 ⟨rfl, hH6⟩
                  have hH7 := hH6.later (side_stays _ _ _ _ _) (below_new W6 (.cells (blk F) 58))
                  have hb1 : BlkAt (W6.alloc (.cells (blk F) 58)) W6.heap.size 0 F := BlkAt.of (heap_alloc_new _ _)
                  have hb2 := blkCells_at hH7.row hF
                  have HH8 : Hid (Has (Side w gh hs' (.slice wa s.wait.length wc) s.wait) (W6.alloc (.cells (blk F) 58)).drew d (readS s')) := hH7.drew
                  clear hH6 hH7 hrd
                  go_wp2_with (refine wpList_store25_new rfl (.tmp 22) (.tmp 210) rfl F _ rfl rfl ?_)
                  refine wp_region_still_lit (by kernel_rfl) (by kernel_rfl) ?_
                  repeat still_step
                  refine wpStill_loadW rfl (.tmp 22) rfl W6.heap.size 0 rfl F hb1 ?_
                  repeat still_step
                  refine wpStill_loadW rfl (.tmp 218) rfl gh (r * 1024) rfl F hb2 ?_
                  repeat still_step
                  refine wpStill_neqW rfl (.tmp 215) (.tmp 219) rfl F rfl rfl ?_
                  repeat still_step
                  refine wpStill_nil ?_
                  go_wp2
                  exact ⟨⟨r + 1, readS s', by omega, by go_num, HH8.out, HA2.out⟩, by simp [intOf]; omega⟩
                · obtain rfl : r = n := by omega
                  have hpe := has_pending (side_stays _ _ _ _ _) HHr.out (by rw [HAr.out.1.wait]; simp)
                  rw [HAr.out.1.wait, List.length_nil] at hpe
                  have hol := HAr.out.1.ops
                  clear HHr HAr
                  go_wp2_with (go_at_call 25; fail)
                  refine hpe.mono ?_
                  rintro e W6 ⟨rfl, _, hH6⟩
                  have hhi := has_history (side_stays _ _ _ _ _) hH6 (by omega)
                  rw [hol] at hhi
                  clear hH6 hpe
                  go_wp2_with (go_at_call 26; fail)
                  refine hhi.mono ?_
                  rintro e W7 ⟨rfl, _, hH7⟩
                  have HB7 : Hid (Below w.heap.size w W7) := hH7.below
                  clear hH7 hhi
                  go_wp2
                  go_ret
                  exact ⟨rfl, HB7.out⟩
  · have hbad : (blocks < 1 ∨ ¬ blocks < 1 ∧ blocks > 64) ∨ (¬ blocks < 1 ∧ ¬ blocks > 64 ∧ (len : Int) > 300) := by omega
    clear HP HK
    rcases hbad with (h1 | ⟨h1, h2⟩) | ⟨h1, h2, h3⟩
    all_goals
      go_enter Try.func6, Try.ntmps6
      go_wp2_with (go_at_call 28; fail)
      refine hA.mono ?_
      rintro e W1 ⟨rfl, hb⟩
      clear hA
      go_wp2
      go_ret
      exact ⟨rfl, hb⟩
end Go.Proofs.Ytembocfghkmieaa
