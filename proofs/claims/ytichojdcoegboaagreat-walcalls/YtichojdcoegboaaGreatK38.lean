/- Several texts joined: the log, its cache and its disk, of the program and of the document; no condition. -/
import Derived.Test.YtichojdcoegboaaGreatK37
namespace Go.Proofs.YtichojdcoegboaaGreatW
open Go.RowKit Go.Maps
section
variable {w W W' : World} {g q d r m : Nat} {t t' : St} {u u' : RSt} {l : List Part} {T : List Int}
theorem SimX.move (h : SimX u t) (hk : Ok t) {c : Int × Int} (hc : 0 ≤ c.1 ∧ c.1 < t.n) : rmoE u c = moE t c ∧ SimX (rmoV u c) (moV t c) ∧ Ok (moV t c) ∧ u.seen ≤ (rmoV u c).seen ∧ (rmoV u c).seen ≤ u.seen + 1 := by
 have hr := h.ref c.1
 unfold rmoE rmoV moE moV rReadV rReadB
 by_cases hs : t.stopped = true
 ·have e1 : refV t c.1 = 3 := by unfold refV; rw [if_pos hs]
  have e2 : rRefV u c.2 = 3 := by rw [h.ref]; unfold refV; rw [if_pos hs]
  rw [hr, e1, if_neg (by omega), if_neg (by omega), if_neg (by omega), if_neg (by omega)]
  unfold rWriteE rWriteV
  rw [e2, if_neg (by omega), if_neg (by omega)]
  exact ⟨rfl, h, hk, by omega, by omega⟩
 ·have e1 : refV t c.1 = 0 := by unfold refV; rw [if_neg hs, if_pos hc]
  rw [hr, e1, if_pos rfl, if_pos rfl, if_pos rfl, if_pos rfl, h.cur]
  have hX : SimX { u with seen := u.seen + 1 } (readS t) := (h.reads).seen (u.seen + 1)
  have hk2 : Ok (readS t) := ⟨hk.n, hk.held, hk.wait, hk.fuse, hk.made, by have := hk.reads; show 0 ≤ t.reads + 1; omega, hk.claims⟩
  have hcan := curV_can hk c.1
  obtain ⟨a1, a2, a3⟩ := hX.run hk2 [some (c.2, curV t c.1)] (fun c' hc' => by
   have := List.mem_singleton.1 hc'
   injection this with this
   subst this
   exact hcan)
  have b1 : ∀ (u : RSt), rrunE [some (c.2, curV t c.1)] u = rWriteE u c.2 ∧ rrunV [some (c.2, curV t c.1)] u = rWriteV u c.2 (curV t c.1) := fun u => by
   unfold rrunE rrunV rrunE rrunV
   show (if rWriteE u c.2 = 0 then 0 else rWriteE u c.2) = _ ∧ (if rWriteE u c.2 = 0 then rWriteV u c.2 _ else rWriteV u c.2 _) = _
   split
   ·rename_i q; exact ⟨q.symm, rfl⟩
   ·exact ⟨rfl, rfl⟩
  have b2 : ∀ (u : St), runE [some (c.2, curV t c.1)] u = writeE u c.2 ∧ runV [some (c.2, curV t c.1)] u = writeV u c.2 (curV t c.1) := fun u => by
   unfold runE runV runE runV
   show (if writeE u c.2 = 0 then 0 else writeE u c.2) = _ ∧ (if writeE u c.2 = 0 then writeV u c.2 _ else writeV u c.2 _) = _
   split
   ·rename_i q; exact ⟨q.symm, rfl⟩
   ·exact ⟨rfl, rfl⟩
  have hse := rrun_seen [some (c.2, curV t c.1)] { u with seen := u.seen + 1 }
  rw [(b1 _).1, (b2 _).1] at a1
  rw [(b1 _).2, (b2 _).2] at a2
  rw [(b2 _).2] at a3
  rw [(b1 _).2] at hse
  refine ⟨a1, a2, a3, ?_, ?_⟩ <;> (rw [hse]; show _ ≤ _; first | (show u.seen ≤ u.seen + 1; omega) | (show u.seen + 1 ≤ u.seen + 1; omega))
theorem SimX.moves : ∀ (l : List (Int × Int)) {u : RSt} {t : St} {m : Nat}, SimX u t → Ok t → Cap t m → (0 ≤ u.seen ∧ u.seen ≤ m) → (∀ c ∈ l, 0 ≤ c.1 ∧ c.1 < t.n) → rmE l u = mE l t ∧ SimX (rmV l u) (mV l t) ∧ Ok (mV l t) ∧ Cap (mV l t) (m + l.length) ∧ 0 ≤ (rmV l u).seen ∧ (rmV l u).seen ≤ ((m + l.length : Nat) : Int)
 | [], _, _, _, h, hk, hc, hs, _ => ⟨rfl, h, hk, hc, hs.1, hs.2⟩
 | c :: l, u, t, m, h, hk, hc, hs, hl => by
  obtain ⟨a1, a2, a3, a4, a5⟩ := h.move hk (hl c (by simp))
  obtain ⟨n1, n2, n3, n4, n5, n6⟩ := mo_nums t c
  have hc1 : Cap (moV t c) (m + 1) := ⟨by have := hc.ops; omega, by have := hc.made; omega, by have := hc.reads; omega, by have := hc.claims; omega⟩
  obtain ⟨b1, b2, b3, b4, b5, b6⟩ := SimX.moves l a2 a3 hc1 ⟨by omega, by have := hs.2; omega⟩ fun c hm => by rw [n5]; exact hl c (List.mem_cons_of_mem _ hm)
  unfold rmE mE rmV mV
  rw [a1]
  have e : m + (c :: l).length = m + 1 + l.length := by simp; omega
  rw [e]
  split
  ·exact ⟨b1, b2, b3, b4, b5, b6⟩
  ·exact ⟨rfl, a2, a3, hc1.mono (by omega), by omega, by have := hs.2; omega⟩
theorem mvs_in {T : List Int} {j : Nat} {n : Int} (hj : j ≤ T.length) (hn : 2 + (T.length : Int) ≤ n) : ∀ c ∈ mvs T j, 0 ≤ c.1 ∧ c.1 < n := fun c hc => by
 unfold mvs at hc
 obtain ⟨i, hi, rfl⟩ := List.mem_map.1 hc
 have := List.mem_range.1 hi
 exact ⟨by show 0 ≤ 2 + (i : Int); omega, by show 2 + (i : Int) < n; omega⟩
theorem mo_three {t : St} {c : Int × Int} (h1 : 0 ≤ c.1 ∧ c.1 < t.n) (h2 : 0 ≤ c.2 ∧ c.2 < t.n) : moE t c = 0 ∨ moE t c = 3 := by
 unfold moE
 by_cases hs : t.stopped = true
 ·have e1 : refV t c.1 = 3 := by unfold refV; rw [if_pos hs]
  rw [e1, if_neg (by omega)]
  exact .inr rfl
 ·have e1 : refV t c.1 = 0 := by unfold refV; rw [if_neg hs, if_pos h1]
  rw [e1, if_pos rfl]
  unfold writeE
  have e2 : refV (readS t) c.2 = 0 := by
   show (if t.stopped = true then (3 : Int) else if 0 ≤ c.2 ∧ c.2 < t.n then 0 else 2) = 0
   rw [if_neg hs, if_pos h2]
  rw [e2, if_pos rfl]
  split
  ·exact .inl rfl
  ·exact .inr rfl
theorem mv_three : ∀ (l : List (Int × Int)) {t : St}, (∀ c ∈ l, (0 ≤ c.1 ∧ c.1 < t.n) ∧ (0 ≤ c.2 ∧ c.2 < t.n)) → mE l t = 0 ∨ mE l t = 3
 | [], _, _ => .inl rfl
 | c :: l, t, h => by
  have hn : (moV t c).n = t.n := (mo_nums t c).2.2.2.2.1
  unfold mE
  rcases mo_three (h c (by simp)).1 (h c (by simp)).2 with q | q
  ·rw [if_pos q]
   exact mv_three l fun c hc => by rw [hn]; exact h c (List.mem_cons_of_mem _ hc)
  ·rw [if_neg (by omega)]
   exact .inr q
theorem SimX.recover (h : SimX u t) (hk : Ok t) (hc : Cap t m) (hs : 0 ≤ u.seen ∧ u.seen ≤ m) (hl : 2 + (T.length : Int) ≤ t.n) (hT : ∀ y ∈ T, 0 ≤ y ∧ y < t.n) (hm : m ≤ 2000000) (hT2 : T.length ≤ 255) :
  (rrcE T u = 0 ↔ rcE T t = 0) ∧ (rcE T t = 0 ∨ rcE T t = 3) ∧ SimX (rrcV T u) (rcV T t) ∧ Cap (rcV T t) (m + 300) ∧ (0 ≤ (rrcV T u).seen ∧ (rrcV T u).seen ≤ ((m + 300 : Nat) : Int)) ∧ (∀ j, j ≤ T.length → RRoom (rmV (mvs T j) u) ∧ RRoom (rReadV (rmV (mvs T j) u) (2 + (j : Int)))) ∧ (∀ a b, bwb = a ++ b → RRoom (rrunV a (rmV (mvs T T.length) u))) := by
 have hR : ∀ j, j ≤ T.length → RRoom (rmV (mvs T j) u) ∧ RRoom (rReadV (rmV (mvs T j) u) (2 + (j : Int))) := fun j hj => by
  obtain ⟨b1, b2, b3, b4, b5, b6⟩ := SimX.moves (mvs T j) h hk hc hs (mvs_in hj hl)
  rw [mvs_len] at b4 b6
  refine ⟨b2.room b3 b4 (by omega) ⟨b5, by omega⟩, ?_⟩
  unfold rReadV
  split
  ·exact (b2.seen ((rmV (mvs T j) u).seen + 1)).room b3 b4 (by omega) ⟨by show 0 ≤ (rmV (mvs T j) u).seen + 1; omega, by show (rmV (mvs T j) u).seen + 1 ≤ _; omega⟩
  ·exact b2.room b3 b4 (by omega) ⟨b5, by omega⟩
 obtain ⟨b1, b2, b3, b4, b5, b6⟩ := SimX.moves (mvs T T.length) h hk hc hs (mvs_in (Nat.le_refl _) hl)
 rw [mvs_len] at b4 b6
 have hcan : ∀ c, some c ∈ bwb → Can c.2 := fun c hc => by
  have hc' : some c ∈ [none, some ((1 : Int), nought), none] := hc
  simp at hc'
  subst hc'
  exact can_nought
 have hR2 := b2.rooms b3 b4 bwb (by show _ + 3 ≤ _; omega) ⟨b5, by omega⟩ hcan
 obtain ⟨c1, c2, c3⟩ := b2.run b3 bwb hcan
 have hn : (mV (mvs T T.length) t).n = t.n := (mv_nums (mvs T T.length) t).2.2.2.2.1
 have h3 := run_three bwb (mV (mvs T T.length) t) (fun c hc => by
  have hc' : some c ∈ [none, some ((1 : Int), nought), none] := hc
  simp at hc'
  subst hc'
  rw [hn]
  exact ⟨by show (0 : Int) ≤ 1; omega, by show (1 : Int) < t.n; omega⟩)
 have h4 := mv_three (mvs T T.length) (t := t) (fun c hc => ⟨mvs_in (Nat.le_refl _) hl c hc, by
  unfold mvs at hc
  obtain ⟨i, hi, rfl⟩ := List.mem_map.1 hc
  have hi' := List.mem_range.1 hi
  refine hT _ ?_
  show T.getD i 0 ∈ T
  rw [List.getD_eq_getElem?_getD, List.getElem?_eq_getElem hi']
  exact List.getElem_mem hi'⟩)
 refine ⟨?_, ?_, ?_, ?_, ?_, hR, hR2⟩
 ·unfold rrcE rcE
  rw [b1]
  split
  ·show rrunE bwb _ = 0 ↔ runE bwb _ = 0
   rw [c1]
  ·exact Iff.rfl
 ·unfold rcE
  split
  ·rcases h3 with q | q
   ·exact .inl q
   ·exact .inr q.1
  ·rename_i q
   exact .inr (h4.resolve_left q)
 ·unfold rrcV rcV
  rw [b1]
  split
  ·exact c2
  ·exact b2
 ·unfold rcV
  split
  ·exact ((b4.run bwb).mono (by show _ + 3 ≤ _; omega))
  ·exact b4.mono (by omega)
 ·unfold rrcV
  split
  ·rw [rrun_seen]
   exact ⟨b5, by omega⟩
  ·exact ⟨b5, by omega⟩
theorem can_cur (h : SimX u t) (hk : Ok t) : ∀ k, 0 ≤ rCur u 1 k ∧ rCur u 1 k ≤ 255 := fun k => by
 rw [h.cur]
 exact (curV_can hk 1).1 k
theorem hd_tg (h : SimX u t) (b l : Int) : hdT b l u = tgT b l t ∧ hdE b l u = tgE b l t := by
 unfold hdT hdE tgT tgE
 rw [h.cur]
 exact ⟨rfl, rfl⟩
theorem cap_room (hc : Cap t m) (hm : m ≤ 1000000) : Room t := hc.room (by omega)
theorem tg_cases (b l : Int) (t : St) : (tgE b l t = 4 ∧ tgT b l t = []) ∨ (tgE b l t = 0 ∧ (tgT b l t).length ≤ l - 1 ∧ ∀ y ∈ tgT b l t, 1 + l ≤ y ∧ y < b) := by
 rcases H.dec_may (lo := 1 + l) (hi := b) (m := l - 1) (F := curV t 1) with ⟨h1, h2⟩ | ⟨h1, h2⟩
 ·exact .inl ⟨h1, h2⟩
 ·exact .inr ⟨h1, h2.1, h2.2.1⟩
theorem rec_both (h : SimX u t) (hk : Ok t) (hc : Cap t m) (hs : 0 ≤ u.seen ∧ u.seen ≤ m) (hm : m ≤ 1000000) {x0 x1 x2 x3 x4 x5 x6 x7 x8 : Int} (hI : H.I64 x0) : ∃ n E t' u',
  (∀ w W ks, Sits w W d t ks → Calls Tryz.prog 45 #[.pointer (some ⟨d, 0, none⟩), .agg (H.lay9 x0 x1 x2 x3 x4 x5 x6 x7 x8)] W fun e W' => e = .returned (.tuple #[.int .i64 n, .int .i64 E]) ∧ Sits w W' d t' ks) ∧
  (∀ w W l, RDs w W r u l → Calls Tryz.prog 46 #[.pointer (some ⟨r, 0, none⟩), .agg (H.lay9 x0 x1 x2 x3 x4 x5 x6 x7 x8)] W fun e W' => e = .returned (.tuple #[.int .i64 n, .int .i64 E]) ∧ RDs w W' r u' l) ∧
  SimX u' t' ∧ Cap t' (m + 400) ∧ (0 ≤ u'.seen ∧ u'.seen ≤ ((m + 400 : Nat) : Int)) ∧ (∀ n, Lost t n → Lost t' n) ∧ (t.stopped = false → (H.standsB x0 x1 x2 x3 x4 x5 x6 x7 x8 = true → ∀ b, tgT b x1 t = [] ∧ tgE b x1 t = 0) → t' = t ∨ t' = readS t) := by
 have hn0 : t.n ≠ 0 := by have := hk.n; omega
 have hroom := h.room hk hc (by omega) ⟨hs.1, by omega⟩
 by_cases hst : (H.standsB x0 x1 x2 x3 x4 x5 x6 x7 x8 && decide (x0 ≤ t.n)) = false
 ·refine ⟨0, 2, t, u, fun w W ks hS => ?_, fun w W l hS => ?_, h, hc.mono (by omega), ⟨hs.1, by omega⟩, fun _ q => q, fun _ _ => .inl rfl⟩
  ·exact recover_err (P := fun W' => Sits w W' d t ks) rfl (by omega) ((committed_arg (hS.later (below_new W _)) hI hn0 hst).mono fun _ _ ⟨a, b⟩ => ⟨none, 0, 0, a, b⟩)
  ·exact hS.recover_no rfl (hdc_arg x0 x1 x2 x3 x4 x5 x6 x7 x8 (by rw [h.n]; exact hst)) (by omega)
 ·have hst2 : H.standsB x0 x1 x2 x3 x4 x5 x6 x7 x8 = true ∧ x0 ≤ t.n := by simpa using hst
  obtain ⟨hf, hL⟩ := stands_of hst2.1
  have hb := hst2.2
  rw [hL]
  cases hd : t.stopped
  ·have hud : u.dead = false := h.dead.trans hd
   have hub : x0 ≤ u.n := by rw [h.n]; exact hb
   obtain ⟨e1, e2⟩ := hd_tg h x0 x1
   have hXr : SimX { u with seen := u.seen + 1 } (readS t) := (h.reads).seen (u.seen + 1)
   have hkr : Ok (readS t) := ⟨hk.n, hk.held, hk.wait, hk.fuse, hk.made, by have := hk.reads; show 0 ≤ t.reads + 1; omega, hk.claims⟩
   have hsr : 0 ≤ ({ u with seen := u.seen + 1 } : RSt).seen ∧ ({ u with seen := u.seen + 1 } : RSt).seen ≤ ((m + 1 : Nat) : Int) := ⟨by show 0 ≤ u.seen + 1; omega, by show u.seen + 1 ≤ _; omega⟩
   rcases tg_cases x0 x1 t with ⟨c1, c2⟩ | ⟨c1, c2, c3⟩
   ·refine ⟨0, 4, readS t, { u with seen := u.seen + 1 }, fun w W ks hS => ?_, fun w W l hS => ?_, hXr, hc.readS.mono (by omega), ⟨hsr.1, by have := hsr.2; omega⟩, fun _ q => q.reads, fun _ _ => .inr rfl⟩
    ·have := recover_empty hS hf hb hd (hc.rm2 hm (by omega)) c2
     rw [c1] at this
     exact this
    ·have hH := hdc_at (w := w) (r := r) hf hub hud hroom (can_cur h hk)
     rw [e1, e2, c1, c2] at hH
     exact hS.recover_no rfl hH (by omega)
   ·by_cases hT : tgT x0 x1 t = []
    ·refine ⟨0, 0, readS t, { u with seen := u.seen + 1 }, fun w W ks hS => ?_, fun w W l hS => ?_, hXr, hc.readS.mono (by omega), ⟨hsr.1, by have := hsr.2; omega⟩, fun _ q => q.reads, fun _ _ => .inr rfl⟩
     ·have := recover_empty hS hf hb hd (hc.rm2 hm (by omega)) hT
      rw [c1] at this
      exact this
     ·have hH := hdc_at (w := w) (r := r) hf hub hud hroom (can_cur h hk)
      rw [e1, e2, c1, hT] at hH
      exact hS.recover_none rfl hH
    ·have hl0 : 0 < (tgT x0 x1 t).length := List.length_pos_iff.2 hT
     have hl1 : (tgT x0 x1 t).length ≤ 255 := by have := hf.2.1; omega
     have hl2 : 2 + ((tgT x0 x1 t).length : Int) ≤ (readS t).n := by
      obtain ⟨y, hy⟩ := List.exists_mem_of_length_pos hl0
      have := c3 y hy
      show _ ≤ t.n
      omega
     obtain ⟨r1, r2, r3, r4, r5, r6, r7⟩ := hXr.recover hkr hc.readS hsr hl2 (T := tgT x0 x1 t) (fun y hy => ⟨by have := c3 y hy; have := hf.1; omega, by have := c3 y hy; show y < t.n; omega⟩) (by omega) hl1
     have hE : rcE (tgT x0 x1 t) (readS t) = if rrcE (tgT x0 x1 t) { u with seen := u.seen + 1 } = 0 then 0 else 3 := by
      rcases r2 with q | q
      ·rw [if_pos (r1.2 q), q]
      ·rw [if_neg fun q2 => by have := r1.1 q2; omega, q]
     refine ⟨(if rcE (tgT x0 x1 t) (readS t) = 0 then ((tgT x0 x1 t).length : Int) else 0), rcE (tgT x0 x1 t) (readS t), rcV (tgT x0 x1 t) (readS t), rrcV (tgT x0 x1 t) { u with seen := u.seen + 1 }, fun w W ks hS => recover_some hS hf hb hd hT c1 hl1 (hc.rm2 hm (by omega)), fun w W l hS => ?_, r3, r4.mono (by omega), ⟨r5.1, by have := r5.2; omega⟩, fun _ q => q.reads.recover _, fun _ q => absurd ((q hst2.1 x0).1) hT⟩
     have hH := hdc_at (w := w) (r := r) hf hub hud hroom (can_cur h hk)
     rw [e1, e2, c1] at hH
     refine (hS.recover_some rfl rfl hH ⟨hl0, hl1⟩ r6 r7).mono ?_
     rintro e W' ⟨q1, q2⟩
     refine ⟨?_, q2⟩
     rw [q1, hE]
     by_cases q : rrcE (tgT x0 x1 t) { u with seen := u.seen + 1 } = 0
     ·rw [if_pos q, if_pos q, if_pos rfl]
     ·rw [if_neg q, if_neg q, if_neg (by omega)]
  ·have hud : u.dead = true := h.dead.trans hd
   refine ⟨0, 3, t, u, fun w W ks hS => ?_, fun w W l hS => ?_, h, hc.mono (by omega), ⟨hs.1, by omega⟩, fun _ q => q, fun _ _ => .inl rfl⟩
   ·exact recover_err (P := fun W' => Sits w W' d t ks) rfl (by omega) ((committed_dead (hS.later (below_new W _)) hf hb hd (cap_room hc hm)).mono fun _ _ ⟨a, b⟩ => ⟨none, 0, 0, a, b⟩)
   ·exact hS.recover_no rfl (hdc_dead hf (by rw [h.n]; exact hb) hud hroom) (by omega)
theorem new_both (h : SimX u t) (hk : Ok t) (hc : Cap t m) (hs : 0 ≤ u.seen ∧ u.seen ≤ m) (hm : m ≤ 1000000) {x0 x1 x2 x3 x4 x5 x6 x7 x8 : Int} (hI : H.I64 x0) (hno : ¬ (H.standsB x0 x1 x2 x3 x4 x5 x6 x7 x8 = true ∧ x0 ≤ t.n ∧ t.stopped = false ∧ tgT x0 x1 t = [] ∧ tgE x0 x1 t = 0)) : ∃ E t' u',
  (∀ w W ks, Sits w W d t ks → Calls Tryz.prog 17 #[.pointer (some ⟨d, 0, none⟩), .agg (H.lay9 x0 x1 x2 x3 x4 x5 x6 x7 x8)] W fun e W' => e = .returned (.tuple #[.pointer none, .int .i64 E]) ∧ Sits w W' d t' ks) ∧
  (∀ w W l, RDs w W r u l → Calls Tryz.prog 47 #[.pointer (some ⟨r, 0, none⟩), .agg (H.lay9 x0 x1 x2 x3 x4 x5 x6 x7 x8)] W fun e W' => e = .returned (.tuple #[.pointer none, .int .i64 E]) ∧ RDs w W' r u' l) ∧
  SimX u' t' ∧ Cap t' (m + 400) ∧ (0 ≤ u'.seen ∧ u'.seen ≤ ((m + 400 : Nat) : Int)) ∧ (t' = t ∨ t' = readS t) := by
 have hn0 : t.n ≠ 0 := by have := hk.n; omega
 have hroom := h.room hk hc (by omega) ⟨hs.1, by omega⟩
 by_cases hst : (H.standsB x0 x1 x2 x3 x4 x5 x6 x7 x8 && decide (x0 ≤ t.n)) = false
 ·refine ⟨2, t, u, fun w W ks hS => ?_, fun w W l hS => ?_, h, hc.mono (by omega), ⟨hs.1, by omega⟩, .inl rfl⟩
  ·exact newL_err (P := fun W' => Sits w W' d t ks) rfl (by omega) ((committed_arg (hS.later (below_new W _)) hI hn0 hst).mono fun _ _ ⟨a, b⟩ => ⟨none, 0, 0, a, b⟩)
  ·exact hS.new_no rfl (hdc_arg x0 x1 x2 x3 x4 x5 x6 x7 x8 (by rw [h.n]; exact hst)) (by omega)
 ·have hst2 : H.standsB x0 x1 x2 x3 x4 x5 x6 x7 x8 = true ∧ x0 ≤ t.n := by simpa using hst
  obtain ⟨hf, hL⟩ := stands_of hst2.1
  have hb := hst2.2
  rw [hL]
  cases hd : t.stopped
  ·have hud : u.dead = false := h.dead.trans hd
   have hub : x0 ≤ u.n := by rw [h.n]; exact hb
   obtain ⟨e1, e2⟩ := hd_tg h x0 x1
   have hXr : SimX { u with seen := u.seen + 1 } (readS t) := (h.reads).seen (u.seen + 1)
   have hsr : 0 ≤ ({ u with seen := u.seen + 1 } : RSt).seen ∧ ({ u with seen := u.seen + 1 } : RSt).seen ≤ ((m + 1 : Nat) : Int) := ⟨by show 0 ≤ u.seen + 1; omega, by show u.seen + 1 ≤ _; omega⟩
   refine ⟨4, readS t, { u with seen := u.seen + 1 }, fun w W ks hS => ?_, fun w W l hS => ?_, hXr, hc.readS.mono (by omega), ⟨hsr.1, by have := hsr.2; omega⟩, .inr rfl⟩
   ·rcases tg_cases x0 x1 t with ⟨c1, c2⟩ | ⟨c1, c2, c3⟩
    ·refine newL_err (P := fun W' => Sits w W' d (readS t) ks) rfl (by omega) ((committed_ok (hS.later (below_new W _)) hf hb hd (cap_room hc hm)).mono ?_)
     rintro e W' ⟨p, a, _, b⟩
     rw [c1] at a
     exact ⟨p, _, _, a, b⟩
    ·have hT : tgT x0 x1 t ≠ [] := fun q => hno ⟨hst2.1, hb, hd, q, c1⟩
     refine newL_full (P := fun W' => Sits w W' d (readS t) ks) rfl ((committed_ok (hS.later (below_new W _)) hf hb hd (cap_room hc hm)).mono ?_)
     rintro e W' ⟨p, a, _, b⟩
     rw [c1] at a
     exact ⟨p, _, _, List.length_pos_iff.2 hT, a, b⟩
   ·have hH := hdc_at (w := w) (r := r) hf hub hud hroom (can_cur h hk)
    rw [e1, e2] at hH
    rcases tg_cases x0 x1 t with ⟨c1, c2⟩ | ⟨c1, c2, c3⟩
    ·rw [c1] at hH
     exact hS.new_no rfl hH (by omega)
    ·have hT : tgT x0 x1 t ≠ [] := fun q => hno ⟨hst2.1, hb, hd, q, c1⟩
     rw [c1] at hH
     exact hS.new_some rfl hH (List.length_pos_iff.2 hT)
  ·have hud : u.dead = true := h.dead.trans hd
   refine ⟨3, t, u, fun w W ks hS => ?_, fun w W l hS => ?_, h, hc.mono (by omega), ⟨hs.1, by omega⟩, .inl rfl⟩
   ·exact newL_err (P := fun W' => Sits w W' d t ks) rfl (by omega) ((committed_dead (hS.later (below_new W _)) hf hb hd (cap_room hc hm)).mono fun _ _ ⟨a, b⟩ => ⟨none, 0, 0, a, b⟩)
   ·exact hS.new_no rfl (hdc_dead hf (by rw [h.n]; exact hb) hud hroom) (by omega)
end
def TwoB (l : List Part) (I : World → Prop) (fp fd : FuncId) (ap ad : Array Value) (v : Value) (Q : World → Prop) : Prop :=
 ∃ M : World → Prop, (∀ W W', M W → Below W.heap.size W W' → M W') ∧ (∀ W, M W → Kl l W) ∧ (∀ W, I W → Calls Tryz.prog fp ap W fun e W' => e = .returned v ∧ M W') ∧ (∀ W o, M W → Calls Tryz.prog fd ad (W.alloc o) fun e W' => e = .returned v ∧ Q W' ∧ W'.heap[W.heap.size]? = some o)
theorem TwoB.mono {I Q Q' : World → Prop} {fp fd : FuncId} {ap ad : Array Value} {v : Value} {l : List Part} (h : TwoB l I fp fd ap ad v Q) (hq : ∀ W, Q W → Q' W) : TwoB l I fp fd ap ad v Q' := by
 obtain ⟨M, h1, h0, h2, h3⟩ := h
 exact ⟨M, h1, h0, h2, fun W o hW => (h3 W o hW).mono fun _ _ ⟨a, b, c⟩ => ⟨a, hq _ b, c⟩⟩
structure GI (l : List Part) (I : World → Prop) (vl vm : Value) (e0 : Int) : Prop where
 ne : e0 ≠ 0
 chk : ∀ W, I W → PChk W vl e0 ∧ RChk W vm e0
 later : ∀ W W', I W → Below W.heap.size W W' → I W'
 kl : ∀ W, I W → Kl l W
section
variable {l : List Part} {I : World → Prop} {vl vm : Value} {e0 : Int}
theorem GI.two (h : GI l I vl vm e0) {fp fd : FuncId} {ap ad : Array Value} {v : Value} (h1 : ∀ W, PChk W vl e0 → Calls Tryz.prog fp ap W fun e W' => e = .returned v ∧ Below W.heap.size W W') (h2 : ∀ W, RChk W vm e0 → Calls Tryz.prog fd ad W fun e W' => e = .returned v ∧ Below W.heap.size W W') : Two l I fp fd ap ad v I :=
 ⟨I, h.later, h.kl, fun W hW => (h1 W (h.chk W hW).1).mono fun _ W' ⟨a, b⟩ => ⟨a, h.later W W' hW b⟩, fun W hW => (h2 W (h.chk W hW).2).mono fun _ W' ⟨a, b⟩ => ⟨a, h.later W W' hW b⟩⟩
theorem GI.begin (h : GI l I vl vm e0) (n : Int) : Two l I 19 34 #[vl, .int .i64 n] #[vm, .int .i64 n] (.int .i64 e0) I := h.two (fun _ q => pref_begin q h.ne n) fun _ q => rref_begin q h.ne n
theorem GI.ends (h : GI l I vl vm e0) : Two l I 22 35 #[vl] #[vm] (.int .i64 e0) I := h.two (fun _ q => pref_end q h.ne) fun _ q => rref_end q h.ne
theorem GI.read (h : GI l I vl vm e0) (n : Int) : TwoB l I 36 37 #[vl, .int .i64 n] #[vm, .int .i64 n] (.tuple #[.agg (blk nought), .int .i64 e0]) I :=
 ⟨I, h.later, h.kl, fun W hW => (pref_read (h.chk W hW).1 h.ne n).mono fun _ W' ⟨a, b⟩ => ⟨a, h.later W W' hW b⟩, fun W o hW => (rref_read ((h.chk W hW).2.later (below_new W o)) h.ne n).mono fun _ _ ⟨a, b⟩ => ⟨a, h.later _ _ (h.later _ _ hW (below_new W o)) b, heap_kept (heap_alloc_new W o) b⟩⟩
theorem GI.write (h : GI l I vl vm e0) (n : Int) (f : Nat → Int) : Two l I 20 38 #[vl, .int .i64 n, .agg (blk f)] #[vm, .int .i64 n, .agg (blk f)] (.int .i64 e0) I := h.two (fun _ q => pref_write q h.ne n f) fun _ q => rref_write q h.ne n f
theorem GI.sync (h : GI l I vl vm e0) : Two l I 26 39 #[vl] #[vm] (.int .i64 e0) I := h.two (fun _ q => pref_sync q h.ne) fun _ q => rref_sync q h.ne
theorem GI.close (h : GI l I vl vm e0) : Two l I 48 49 #[vl] #[vm] (.int .i64 e0) I := h.two (fun _ q => pref_close q h.ne) fun _ q => rref_close q h.ne
theorem GI.check (h : GI l I vl vm e0) : Two l I 50 51 #[vl] #[vm] (.int .i64 e0) I := h.two (fun _ q => q.now.mono fun _ _ ⟨a, m, b⟩ => ⟨a, by rw [b]; exact below_drewN _ m⟩) fun _ q => q.now.mono fun _ _ ⟨a, m, b⟩ => ⟨a, by rw [b]; exact below_drewN _ m⟩
structure Tls (l : List Part) (I : World → Prop) (vl vm : Value) : Prop where
 check : ∃ E, Two l I 50 51 #[vl] #[vm] (.int .i64 E) I
 layout : ∃ x0 x1 x2 x3 x4 x5 x6 x7 x8, Two l I 52 53 #[vl] #[vm] (.agg (H.lay9 x0 x1 x2 x3 x4 x5 x6 x7 x8)) I
 used : ∃ E, Two l I 23 54 #[vl] #[vm] (.int .i64 E) I
 opened : ∃ b, Two l I 55 56 #[vl] #[vm] (.bool b) I
 commits : ∃ E, Two l I 27 57 #[vl] #[vm] (.int .i64 E) I
 steps : ∃ E, Two l I 24 58 #[vl] #[vm] (.int .i64 E) I
theorem GI.tls (h : GI l I vl vm e0) : Tls l I vl vm :=
 ⟨⟨_, h.check⟩, ⟨_, _, _, _, _, _, _, _, _, h.two (fun _ q => pref_layout q h.ne) fun _ q => rref_layout q h.ne⟩, ⟨_, h.two (fun _ q => pref_used q h.ne) fun _ q => rref_used q h.ne⟩, ⟨_, h.two (fun _ q => pref_open q h.ne) fun _ q => rref_open q h.ne⟩, ⟨_, h.two (fun _ q => pref_commits q h.ne) fun _ q => rref_commits q h.ne⟩, ⟨_, h.two (fun _ q => pref_steps q h.ne) fun _ q => rref_steps q h.ne⟩⟩
end
section
variable {w W W' : World} {g q d r m : Nat} {x x' : LSt} {s : CSt} {t t' : St} {book book' : Int → Nat → Int} {y y' : RL} {u u' : RSt} {l : List Part} {row : Array Value} {G : Int × Int × Int}
theorem LvOk.tls (h : LvOk x t book y u G m) : Tls l (fun W => Lv w W g q d r x t book y u l) (.pointer (some ⟨g, 0, none⟩)) (.pointer (some ⟨q, 0, none⟩)) := by
 refine ⟨⟨_, live_check h⟩, ⟨_, _, _, _, _, _, _, _, _, two_live (fun _ _ hL => hL.layout h.chk) fun _ _ hL => ?_⟩, ⟨_, two_live (fun _ _ hL => hL.used h.chk) fun _ _ hL => ?_⟩, ⟨_, two_live (fun _ _ hL => hL.isOpen h.chk) fun _ _ hL => ?_⟩, ⟨_, two_live (fun _ _ hL => hL.commits h.chk) fun _ _ hL => ?_⟩, ⟨_, two_live (fun _ _ hL => hL.steps h.chk) fun _ _ hL => ?_⟩⟩
 ·have := hL.layout h.rch
  rw [h.mt.b, h.mt.l, h.mt.i] at this
  exact this
 ·have := hL.used h.rch
  rw [h.mt.len] at this
  exact this
 ·have := hL.opened h.rch
  rw [h.mt.step] at this
  exact this
 ·have := hL.commits h.rch
  rw [h.mt.commit] at this
  exact this
 ·have := hL.steps h.rch
  rw [h.mt.over] at this
  exact this
theorem Lv.reads {av : Array Value} {F : Nat → Int} (h : Lv w W g q d r x t book y u l) (hc : ∀ ks, LogI w W g d x t book ks → Calls Tryz.prog 36 av W (RdPost w g d x t book ks F)) : Calls Tryz.prog 36 av W fun e W' => e = .returned (.tuple #[.agg (blk F), .int .i64 0]) ∧ ∃ t', (t' = t ∨ t' = readS t) ∧ Lv w W' g q d r x t' book y u l := by
 obtain ⟨Z, Y, R, hY, hR, hS⟩ := h.out
 obtain ⟨ks, hk, hl⟩ := hS.toLog
 refine (hc ks hl).mono ?_
 rintro e W' ⟨he, t', ht', hL⟩
 obtain ⟨Z', hS'⟩ := hk.ofLog hL
 exact ⟨he, t', ht', Z', Y, R, hY, hR, hS'⟩
theorem LvOk.read (h : LvOk x t book y u G m) (ht : t' = t ∨ t' = readS t) (hu : u' = u ∨ u' = { u with seen := u.seen + 1 }) : ∀ W, Lv w W g q d r x t' book y u' l → Aft w g q d r G (m + 600) t l W := fun W hL => by
 have hX : SimX u' t' := by
  have h1 : SimX u t' := by
   rcases ht with rfl | rfl
   ·exact h.sim
   ·exact h.sim.reads
  rcases hu with rfl | rfl
  ·exact h1
  ·exact h1.seen _
 have hs : 0 ≤ u'.seen ∧ u'.seen ≤ ((m + 600 : Nat) : Int) := by
  have := h.seen
  rcases hu with rfl | rfl
  ·exact ⟨this.1, by omega⟩
  ·exact ⟨by show 0 ≤ u.seen + 1; omega, by show u.seen + 1 ≤ _; omega⟩
 refine .inl ⟨x, t', book, y, u', hL, ?_, ?_⟩
 ·rcases ht with rfl | rfl
  ·exact ⟨h.mt, hX, h.cap.mono (by omega), hs, h.live, h.geo, h.head, ⟨by have := h.cnt.1; omega, by have := h.cnt.2; omega⟩, by have := h.wl; omega⟩
  ·exact ⟨h.mt, hX, h.cap.readS.mono (by omega), hs, h.live, h.geo, h.head, ⟨by have := h.cnt.1; omega, by have := h.cnt.2; omega⟩, by have := h.wl; omega⟩
 ·rcases ht with rfl | rfl
  ·exact fun _ q => q
  ·exact fun _ q => q.reads
theorem two_liveB {fp fd : FuncId} {ap ad : Array Value} {v : Value} (hp : ∀ W ks, LogI w W g d x t book ks → Calls Tryz.prog fp ap W fun e W' => e = .returned v ∧ LogI w W' g d x' t' book' ks) (hd : ∀ W l', DL w W q r y u l' → Calls Tryz.prog fd ad W fun e W' => e = .returned v ∧ DL w W' q r y' u' l') : TwoB l (fun W => Lv w W g q d r x t book y u l) fp fd ap ad v (fun W => Lv w W g q d r x' t' book' y' u' l) :=
 ⟨fun W => Lv w W g q d r x' t' book' y u l, fun _ _ h hb => h.later hb, fun _ h => h.kl, fun W h => h.prog fun ks hk => hp W ks hk, fun W o h => ((h.box o).doc fun l' hk => hd _ l' hk).mono fun _ _ ⟨a, b⟩ => ⟨a, b.drop, b.kl _ _ (by simp)⟩⟩
theorem two_reads {n : Int} {F : Nat → Int} (h : LvOk x t book y u G m) (hu : u' = u ∨ u' = { u with seen := u.seen + 1 }) (hp : ∀ W ks, LogI w W g d x t book ks → Calls Tryz.prog 36 #[.pointer (some ⟨g, 0, none⟩), .int .i64 n] W (RdPost w g d x t book ks F)) (hd : ∀ W l', DL w W q r y u l' → Calls Tryz.prog 37 #[.pointer (some ⟨q, 0, none⟩), .int .i64 n] W fun e W' => e = .returned (.tuple #[.agg (blk F), .int .i64 0]) ∧ DL w W' q r y u' l') : TwoB l (fun W => Lv w W g q d r x t book y u l) 36 37 #[.pointer (some ⟨g, 0, none⟩), .int .i64 n] #[.pointer (some ⟨q, 0, none⟩), .int .i64 n] (.tuple #[.agg (blk F), .int .i64 0]) (Aft w g q d r G (m + 600) t l) := by
 refine ⟨fun W => ∃ t', (t' = t ∨ t' = readS t) ∧ Lv w W g q d r x t' book y u l, ?_, ?_, fun W hL => hL.reads fun ks hk => hp W ks hk, ?_⟩
 ·rintro W W' ⟨t', h1, h2⟩ hb
  exact ⟨t', h1, h2.later hb⟩
 ·rintro W ⟨t', h1, h2⟩
  exact h2.kl
 ·rintro W o ⟨t', h1, h2⟩
  exact ((h2.box o).doc fun l' hk => hd _ l' hk).mono fun _ _ ⟨a, b⟩ => ⟨a, h.read h1 hu _ b.drop, b.kl _ _ (by simp)⟩
theorem live_read (h : LvOk x t book y u G m) (hI : Inv x s t book) (hk : Ok t) (hm : m ≤ 1000000) (n : Int) :
  ∃ F E, TwoB l (fun W => Lv w W g q d r x t book y u l) 36 37 #[.pointer (some ⟨g, 0, none⟩), .int .i64 n] #[.pointer (some ⟨q, 0, none⟩), .int .i64 n] (.tuple #[.agg (blk F), .int .i64 E]) (Aft w g q d r G (m + 600) t l) := by
 have hyb : y.b = x.b := h.mt.b
 by_cases ha : n < 0 ∨ x.b ≤ n
 ·exact ⟨nought, 2, (two_liveB (fun W ks hL => hL.readArg h.chk ha) fun W l' hL => hL.read_arg h.rch (by rw [hyb]; exact ha)).mono (h.same (by omega))⟩
 ·have hlb : x.l < x.b := by
   have h1 := hI.fine
   unfold H.Fine H.dataAt H.bitsAt H.nodeB H.bitsB at h1
   omega
  have hn := hI.c.n
  have href : rRefV u n = 0 := by
   rw [h.sim.ref]
   unfold refV
   rw [h.alive, if_neg (by simp), if_pos (by omega)]
  have hgl : y.grp.length ≤ 1000000 := by
   have := hI.len
   have := hI.fine.2.1
   rw [h.mt.len]
   omega
  have hro := cap_room h.cap hm
  have hdoc := fun W l' (hL : DL w W q r y u l') => hL.read_ok h.rch (k := n) (by rw [hyb]; omega) (h.room hk hm) href hgl
  by_cases ho : 1 ≤ n ∧ n < 1 + x.l
  ·have hg : gAt y.grp n = none := h.mt.atOut fun q => by have := hI.rng n q; omega
   unfold rlB rlU at hdoc
   rw [hg] at hdoc
   refine ⟨curV t n, 0, two_reads h (.inr rfl) (fun W ks hL => hL.readOwn h.chk ho hlb hn h.alive hro) fun W l' hL => ?_⟩
   have := hdoc W l' hL
   rw [h.sim.cur] at this
   exact this
  ·have hD : Dat x.b x.l n := ⟨⟨by omega, by omega⟩, ho⟩
   cases hg : gAt y.grp n with
   | none =>
    unfold rlB rlU at hdoc
    rw [hg] at hdoc
    refine ⟨book n, 0, two_reads h (.inr rfl) (fun W ks hL => hL.read h.chk hD h.alive hro) fun W l' hL => ?_⟩
    have := hdoc W l' hL
    rw [h.sim.cur, ← hI.c.same n hD (decide_eq_false (h.mt.atNone hg))] at this
    exact this
   | some F =>
    unfold rlB rlU at hdoc
    rw [hg] at hdoc
    refine ⟨book n, 0, two_reads h (.inl rfl) (fun W ks hL => hL.read h.chk hD h.alive hro) fun W l' hL => ?_⟩
    have := hdoc W l' hL
    rw [h.mt.atSome hg] at this
    exact this
theorem Lv.closeOk (h : Lv w W g q d r x t book y u l) (hc : ∀ ks, LogI w W g d x t book ks → Calls Tryz.prog 26 #[.pointer (some ⟨g, 0, none⟩)] W fun e W' => e = .returned (.int .i64 0) ∧ LogI w W' g d x' t' book' ks) : Calls Tryz.prog 48 #[.pointer (some ⟨g, 0, none⟩)] W fun e W' => e = .returned (.int .i64 0) ∧ Dd w W' g q d r lg0 t' y u l := by
 obtain ⟨Z, Y, R, hY, hR, hS⟩ := h.out
 exact (pclose_ok (hS.callLog hc)).mono fun _ _ ⟨a, L, hL, b⟩ => ⟨a, L, Y, R, hL, hY, hR, b⟩
theorem two_close (hp : ∀ W ks, LogI w W g d x t book ks → Calls Tryz.prog 26 #[.pointer (some ⟨g, 0, none⟩)] W fun e W' => e = .returned (.int .i64 0) ∧ LogI w W' g d x' t' book' ks) (hd : ∀ W l', DL w W q r y u l' → Calls Tryz.prog 39 #[.pointer (some ⟨q, 0, none⟩)] W fun e W' => e = .returned (.int .i64 0) ∧ DL w W' q r y' u' l') : Two l (fun W => Lv w W g q d r x t book y u l) 48 49 #[.pointer (some ⟨g, 0, none⟩)] #[.pointer (some ⟨q, 0, none⟩)] (.int .i64 0) (fun W => Dd w W g q d r lg0 t' { y' with made := false } u' l) :=
 ⟨fun W => Dd w W g q d r lg0 t' y u l, fun _ _ h hb => h.later hb, fun _ h => h.kl, fun W h => h.closeOk fun ks hk => hp W ks hk, fun W h => h.doc fun l' hk => rclose_of (hd W l' hk)⟩
theorem live_close (h : LvOk x t book y u G m) (hI : Inv x s t book) (hk : Ok t) (hm : m ≤ 1000000) :
  ∃ E, Two l (fun W => Lv w W g q d r x t book y u l) 48 49 #[.pointer (some ⟨g, 0, none⟩)] #[.pointer (some ⟨q, 0, none⟩)] (.int .i64 E) (Aft w g q d r G (m + 600) t l) := by
 have hlen := hI.len
 have hl := hI.fine.2.1
 cases ho : x.opn
 ·have hys : y.step = false := h.mt.step.trans ho
  by_cases hb : x.blocks = []
  ·have hg : y.grp = [] := List.map_eq_nil_iff.1 (h.mt.keys.trans hb)
   exact ⟨0, (two_close (fun W ks hL => hL.syncNone (h.ref0 ho) hb) fun W l' hL => hL.sync_none h.rch hys hg).mono fun W hD => .inr ⟨_, _, _, _, hD, ⟨.inl ⟨rfl, rfl⟩, h.sim, h.cap.mono (by omega), ⟨h.seen.1, by have := h.seen.2; omega⟩⟩, fun _ q => q⟩⟩
  ·have hg : y.grp ≠ [] := fun q => hb (by rw [← h.mt.keys, q]; rfl)
   have hcl := cmt_len (x := x) (book := book)
   have hE := h.rcmE hI hk
   obtain ⟨h1, h2, h3⟩ := h.sim.run hk (cmtOps x book) (cmt_can hI)
   have hops := h.mt.ops
   have hp := fun W ks (hL : LogI w W g d x t book ks) => hL.sync (h.ref0 ho) hb (h.cap.rm2 hm (by omega)) (by have := h.cnt.2; omega)
   have hd := fun W l' (hL : DL w W q r y u l') => hL.sync_ok h.rch hys hg (h.can hI hk hm)
   rw [hE] at hd
   by_cases he : runE (cmtOps x book) t = 0
   ·rw [he] at hd
    refine ⟨0, (two_close (fun W ks hL => (hp W ks hL).mono fun _ _ ⟨a, _, c⟩ => ⟨by rw [a, he], c he⟩) fun W l' hL => hd W l' hL).mono fun W hD => .inr ⟨_, _, _, _, hD, ⟨.inl ⟨rfl, rfl⟩, ?_, (h.cap.run _).mono (by omega), ?_⟩, fun _ q => q.run _⟩⟩
    ·rw [← hops]; exact h2
    ·rw [rrun_seen]
     exact ⟨h.seen.1, by have := h.seen.2; omega⟩
   ·have hY : rcmY y u = y := by
     unfold rcmY
     rw [if_neg]
     rw [← hops, h1]
     exact he
    rw [hY] at hd
    refine ⟨runE (cmtOps x book) t, Two.mono ⟨fun W => ∃ c mb v x', x'.claim = x.claim ∧ Dd w W g q d r (lgRow g d c mb v x') (runV (cmtOps x book) t) y u l, ?_, ?_, fun W hL => pclose_no he (hL.fail fun ks hk => (hp W ks hk).mono fun _ _ ⟨a, b, _⟩ => ⟨a, b⟩), ?_⟩ (h.stop hI hk he h.mt.made h.mt.mine)⟩
    ·rintro W W' ⟨c, mb, v, x', q1, q2⟩ hb
     exact ⟨c, mb, v, x', q1, q2.later hb⟩
    ·rintro W ⟨c, mb, v, x', q1, q2⟩
     exact q2.kl
    ·rintro W ⟨c, mb, v, x', q1, q2⟩
     refine (q2.doc fun l' hk => rclose_of (hd W l' hk)).mono ?_
     rintro e W' ⟨a, b⟩
     rw [if_neg he] at b
     exact ⟨a, c, mb, v, x', q1, b⟩
 ·refine ⟨180, (two_live (fun W ks hL => ?_) fun W l' hL => rclose_of (hL.sync_no h.rch (h.mt.step.trans ho))).mono (h.same (by omega))⟩
  obtain ⟨s, hs, hI'⟩ := hL
  exact pclose_no (by omega) ((syncL_ref hs (h.ref1 (o := false) (by rw [ho]; simp)) (by omega)).mono fun _ _ ⟨a, b⟩ => ⟨a, s, b, hI'⟩)
end
def pairRow (G : Int × Int × Int) (d r : Nat) (l0 l1 m0 m1 : Value) : Array Value := #[.int .i64 G.1, .int .i64 G.2.1, .int .i64 G.2.2, .pointer (some ⟨d, 0, none⟩), .pointer (some ⟨r, 0, none⟩), l0, l1, m0, m1]
def pairK (G : Int × Int × Int) (d r : Nat) (k : Bool) (la lb ma mb : Value) : Array Value := bif k then pairRow G d r lb la mb ma else pairRow G d r la lb ma mb
theorem pairK_flip (G : Int × Int × Int) (d r : Nat) (k : Bool) (la lb ma mb : Value) : pairK G d r (!k) lb la mb ma = pairK G d r k la lb ma mb := by cases k <;> rfl
def SL (w : World) (P d r : Nat) (G : Int × Int × Int) (m : Nat) (k : Bool) (la lb ma mb : Value) (W : World) : Prop :=
 ∃ g q x t book y u pb, la = .pointer (some ⟨g, 0, none⟩) ∧ ma = .pointer (some ⟨q, 0, none⟩) ∧ Gone d r t lb mb pb ∧ LvOk x t book y u G m ∧ Lv w W g q d r x t book y u (oP P (.cells (pairK G d r k la lb ma mb) 45) :: pb)
def SA (w : World) (P d r : Nat) (G : Int × Int × Int) (m : Nat) (k : Bool) (la lb ma mb : Value) (W : World) : Prop :=
 ∃ t u pa pb, Gone d r t la ma pa ∧ Gone d r t lb mb pb ∧ SimX u t ∧ Cap t m ∧ (0 ≤ u.seen ∧ u.seen ≤ m) ∧ Pd w W d r t u (oP P (.cells (pairK G d r k la lb ma mb) 45) :: (pa ++ pb))
def S3 (w : World) (P d r : Nat) (G : Int × Int × Int) (m : Nat) (k : Bool) (la lb ma mb : Value) (W : World) : Prop :=
 SA w P d r G m k la lb ma mb W ∨ SL w P d r G m k la lb ma mb W ∨ SL w P d r G m (!k) lb la mb ma W
section
variable {w W W' : World} {P g q d r m m' : Nat} {G : Int × Int × Int} {k : Bool} {la lb ma mb : Value} {t t0 : St} {u : RSt} {pb l : List Part} {x : LSt} {y : RL} {book : Int → Nat → Int}
theorem SA.flip (h : SA w P d r G m k la lb ma mb W) : SA w P d r G m (!k) lb la mb ma W := by
 obtain ⟨t, u, pa, pb, h1, h2, h3, h4, h5, h6⟩ := h
 refine ⟨t, u, pb, pa, h2, h1, h3, h4, h5, ?_⟩
 rw [pairK_flip]
 exact h6.perm (List.Perm.cons _ List.perm_append_comm)
theorem S3.flip (h : S3 w P d r G m k la lb ma mb W) : S3 w P d r G m (!k) lb la mb ma W := by
 rcases h with h | h | h
 ·exact .inl h.flip
 ·exact .inr (.inr (by rw [Bool.not_not]; exact h))
 ·exact .inr (.inl h)
theorem LvOk.mono (h : LvOk x t book y u G m) (hm : m ≤ m') : LvOk x t book y u G m' :=
 ⟨h.mt, h.sim, h.cap.mono hm, ⟨h.seen.1, by have := h.seen.2; omega⟩, h.live, h.geo, h.head, ⟨by have := h.cnt.1; omega, by have := h.cnt.2; omega⟩, by have := h.wl; omega⟩
theorem S3.mono (h : S3 w P d r G m k la lb ma mb W) (hm : m ≤ m') : S3 w P d r G m' k la lb ma mb W := by
 rcases h with ⟨t, u, pa, pb, h1, h2, h3, h4, h5, h6⟩ | ⟨g, q, x, t, book, y, u, pb, h1, h2, h3, h4, h5⟩ | ⟨g, q, x, t, book, y, u, pb, h1, h2, h3, h4, h5⟩
 ·exact .inl ⟨t, u, pa, pb, h1, h2, h3, h4.mono hm, ⟨h5.1, by have := h5.2; omega⟩, h6⟩
 ·exact .inr (.inl ⟨g, q, x, t, book, y, u, pb, h1, h2, h3, h4.mono hm, h5⟩)
 ·exact .inr (.inr ⟨g, q, x, t, book, y, u, pb, h1, h2, h3, h4.mono hm, h5⟩)
theorem Aft.s3 (h : Aft w g q d r G m t0 (oP P (.cells (pairK G d r k (.pointer (some ⟨g, 0, none⟩)) lb (.pointer (some ⟨q, 0, none⟩)) mb) 45) :: pb) W) (hb : Gone d r t0 lb mb pb) : S3 w P d r G m k (.pointer (some ⟨g, 0, none⟩)) lb (.pointer (some ⟨q, 0, none⟩)) mb W := by
 rcases h with ⟨x, t, book, y, u, h1, h2, h3⟩ | ⟨row, t, y, u, h1, h2, h3⟩
 ·exact .inr (.inl ⟨g, q, x, t, book, y, u, pb, rfl, rfl, hb.to h3, h2, h1⟩)
 ·obtain ⟨Y, rfl, h4⟩ := h1.pd
  refine .inl ⟨t, u, [oP g (.cells row 110), rlP r Y y], pb, .inr ⟨g, row, Y, y, rfl, rfl, rfl, h2.row⟩, hb.to h3, h2.sim, h2.cap, h2.seen, h4.perm ?_⟩
  exact (List.perm_middle (l₁ := [oP g (.cells row 110), rlP r Y y]) (a := oP P (.cells (pairK G d r k (.pointer (some ⟨g, 0, none⟩)) lb (.pointer (some ⟨Y.q, 0, none⟩)) mb) 45)) (l₂ := pb))
theorem GI.ofPd (hG : Gone d r t la ma pb) (hX : SimX u t) (hp : ∀ p ∈ pb, p ∈ l) : ∃ e0, GI l (fun W => Pd w W d r t u l) la ma e0 := by
 obtain ⟨e0, h0, h1⟩ := hG.chk (w := w) (I := fun W => Pd w W d r t u l) hX fun W h => by
  obtain ⟨L, R, hL, hR, hS⟩ := h.out
  exact ⟨L, R, rdP R u :: l, hL, hR, hS, by simp, fun p hq => by simp [hp p hq]⟩
 exact ⟨e0, h0, h1, fun _ _ h hb => h.later hb, fun _ h => h.kl⟩
theorem GI.ofLv (hG : Gone d r t la ma pb) (hX : SimX u t) (hp : ∀ p ∈ pb, p ∈ l) : ∃ e0, GI l (fun W => Lv w W g q d r x t book y u l) la ma e0 := by
 obtain ⟨e0, h0, h1⟩ := hG.chk (w := w) (I := fun W => Lv w W g q d r x t book y u l) hX fun W h => by
  obtain ⟨c, mb, v, h2⟩ := h.gone
  obtain ⟨L, Y, R, hL, hY, hR, hS⟩ := h2.out
  exact ⟨L, R, _, hL, hR, hS, by simp, fun p hq => by simp [hp p hq]⟩
 exact ⟨e0, h0, h1, fun _ _ h hb => h.later hb, fun _ h => h.kl⟩
theorem Cap.fuse (h : Cap t m) (n : Int) : Cap (fuseV t n) m := by
 unfold fuseV
 split
 ·exact h
 ·exact ⟨h.ops, h.made, h.reads, h.claims⟩
theorem rFuse_seen (u : RSt) (n : Int) : (rFuse u n).seen = u.seen := by
 unfold rFuse
 split <;> rfl
theorem fuse_live {n c : Int} (h : claimedV t c = true) : claimedV (fuseV t n) c = true := by
 have hs := (live_le h).2.1
 refine live_same h ?_ ?_ ?_ <;> (unfold fuseV; rw [hs, if_neg (by simp)])
theorem Cap.crash (h : Cap t m) (kl : List Bool) : Cap (crashS t kl) m := by
 obtain ⟨hh, he⟩ := holdAll_same (keptL t.wait kl) t
 refine ⟨Nat.zero_le _, ?_, ?_, ?_⟩
 ·unfold crashS; rw [he]; exact h.made
 ·unfold crashS; rw [he]; exact h.reads
 ·unfold crashS; rw [he]; exact h.claims
def lsO (p : Option Addr) (c : Nat) (kl : List Bool) : Part := ⟨fun k => (Value.slice p 70 c).ownBlock = some k, fun W => W.ownsRow 0 4 1 (.slice p 70 c) 70 (kl.flatMap enO)⟩
theorem lsO_good (p : Option Addr) (c : Nat) (kl : List Bool) : (lsO p c kl).Good := fun _ _ h _ hb => ownsRow_kept0 h hb
theorem lsO_at {p : Option Addr} {c : Nat} {kl : List Bool} (h : (lsO p c kl).say W) : ∃ b, p = some ⟨b, 0, none⟩ ∧ b < W.heap.size ∧ (Value.slice p 70 c).ownBlock = some b ∧ ∀ i x, kl[i]? = some x → W.cell? ⟨b, i, none⟩ = some (.bool x) := by
 have h' : W.ownsRow 0 4 1 (.slice p 70 c) 70 (kl.flatMap enO) := h
 rcases own_form h' with ⟨_, q⟩ | ⟨b, c', hv, hlt⟩
 ·omega
 ·injection hv with hv
  subst hv
  refine ⟨b, rfl, hlt, rfl, fun i x hx => ?_⟩
  have := own_get lenO h' hx 0 _ rfl
  rw [Nat.mul_one, Nat.add_zero] at this
  exact this
theorem two_crash {p : Option Addr} {c : Nat} {kl : List Bool} (hkl : kl.length = 70) (hok : Ok t) (hX : SimX u t) (hC : Cap t m) (hs : 0 ≤ u.seen ∧ u.seen ≤ m) (hm : m ≤ 1000000) (hp : lsO p c kl ∈ l) : Two l (fun W => Pd w W d r t u l) 43 44 #[.pointer (some ⟨d, 0, none⟩), .slice p 70 c] #[.pointer (some ⟨r, 0, none⟩), .slice p 70 c] (.int .i64 0) (fun W => Pd w W d r (crashS t kl) (rCrashS u kl) l) := by
 have hsay : ∀ {t : St} {u : RSt} {W : World}, Pd w W d r t u l → (lsO p c kl).say W := fun {t u W} h => by
  obtain ⟨L, R, hL, hR, hS⟩ := h.out
  exact hS.say _ (by simp [hp])
 refine ⟨fun W => Pd w W d r (crashS t kl) u l, fun _ _ h hb => h.later hb, fun _ h => h.kl, fun W h => ?_, fun W h => ?_⟩
 ·obtain ⟨b, h1, h2, h3, h4⟩ := lsO_at (hsay h)
  refine h.prog fun ks hk => ?_
  have := sits_crash (kv := .slice p kl.length c) hk ⟨p, c, rfl, fun _ => ⟨b, 0, h1, fun i x hx => by rw [Nat.zero_add]; exact h4 i x hx⟩⟩ (by have := hC.wait; omega) (by omega)
  rw [hkl] at this
  exact this
 ·obtain ⟨b, h1, h2, h3, h4⟩ := lsO_at (hsay h)
  have hne : b ≠ r := fun e => by
   obtain ⟨L, R, hL, hR, hS⟩ := h.out
   have hrd : RDAt W R.B R.g R.hv R.wv R.ov u := hS.drop.head
   have ho : W.ownsRow 0 4 1 (.slice p 70 c) 70 (kl.flatMap enO) := hsay h
   exact own_ne ho hrd.row (by decide) (by rw [h3, e, hR])
  have hRR : RRoom u := hX.room hok hC (by omega) ⟨hs.1, by omega⟩
  refine h.doc fun l' hk => ?_
  have := hk.crash hRR (pk := p) (ck := c) (kl := kl) (fun _ => ⟨b, 0, h1, hne, h2, fun i x hx => by rw [Nat.zero_add]; exact h4 i x hx⟩) (by omega)
  rw [hkl] at this
  exact this
structure Lh (w W : World) (g d r : Nat) (x : LSt) (t : St) (book : Int → Nat → Int) (u : RSt) (l : List Part) : Prop where
 out : ∃ (Z : ZLoc) (R : RLoc), R.g = r ∧ Sep w W (lgP w.heap.size g d x t book Z :: rdP R u :: l)
theorem Lh.later (h : Lh w W g d r x t book u l) (hb : Below W.heap.size W W') : Lh w W' g d r x t book u l := by
 obtain ⟨Z, R, hR, hS⟩ := h.out
 exact ⟨Z, R, hR, hS.later hb⟩
theorem Lh.kl (h : Lh w W g d r x t book u l) : Kl l W := fun g o hm => by
 obtain ⟨Z, R, hR, hS⟩ := h.out
 exact hS.say (oP g o) (by simp [hm])
theorem Pd.newP {b l' i : Int} (h : Pd w W d r t u l) (hf : H.Fine b l' i) (hb : b ≤ t.n) (hd : t.stopped = false) (hr : Rm t 3) (hT : tgT b l' t = []) (hE : tgE b l' t = 0) : Calls Tryz.prog 17 #[.pointer (some ⟨d, 0, none⟩), .agg (layA b l' i)] W fun e W' => ∃ g, e = .returned (.tuple #[.pointer (some ⟨g, 0, none⟩), .int .i64 0]) ∧ Lh w W' g d r (newX b l' i (claimN t)) (claimV (readS t)) (curV t) u l := by
 obtain ⟨L, R, rfl, hR, hS⟩ := h.out
 obtain ⟨ks, hk, hs⟩ := hS.toSits
 refine (newL_ok hs hf hb hd hr hT hE).mono ?_
 rintro e W' ⟨g, he, hL⟩
 obtain ⟨Z, hS'⟩ := hk.ofLog hL
 exact ⟨g, he, Z, R, hR, hS'⟩
theorem Lh.newD {b l' i : Int} {U : RSt} (h : Lh w W g d r x t book u l) (hH : HdC w r u (layA b l' i) [] 0 U) (hr : RRoom U) : Calls Tryz.prog 47 #[.pointer (some ⟨r, 0, none⟩), .agg (layA b l' i)] W fun e W' => ∃ q, e = .returned (.tuple #[.pointer (some ⟨q, 0, none⟩), .int .i64 0]) ∧ Lv w W' g q d r x t book (newRL b l' i (rClaimN U)) (rClaim U) l := by
 obtain ⟨Z, R, hR, hS⟩ := h.out
 refine ((show RDs w W r u (lgP w.heap.size g d x t book Z :: l) from ⟨R, hR, hS.swap⟩).new_ok hH hr).mono ?_
 rintro e W' ⟨q, he, hD⟩
 obtain ⟨Y', R', hY', hR', hS'⟩ := hD.out
 exact ⟨q, he, Z, Y', R', hY', hR', hS'.third⟩
theorem tg_any {b b' l' : Int} (hl : 32 ≤ l') (hT : tgT b l' t = []) (hE : tgE b l' t = 0) : tgT b' l' t = [] ∧ tgE b' l' t = 0 := by
 unfold tgT H.decL at *
 unfold tgE H.decN at *
 split at hE
 ·rename_i q
  rw [if_pos q] at hT
  have hq : H.numN (curV t 1) 0 4 ≤ l' - 1 ∧ H.mayB (1 + l') b' (l' - 1) (H.tgts (curV t 1) (H.numN (curV t 1) 0 4).toNat) = true := by
   refine ⟨q.1, ?_⟩
   rw [hT]
   exact decide_eq_true ⟨by simp; omega, fun k hk => by simp at hk, List.nodup_nil⟩
  rw [if_pos hq, if_pos hq]
  exact ⟨hT, rfl⟩
 ·omega
theorem new_lv {b l' i : Int} (hX : SimX u t) (hk : Ok t) (hC : Cap t m) (hs : 0 ≤ u.seen ∧ u.seen ≤ m) (hm : m ≤ 1000000) (hf : H.Fine b l' i) (hl : l' = G.2.1) (hd : t.stopped = false) (hT : tgT b l' t = []) (hE : tgE b l' t = 0) : LvOk (newX b l' i (claimN t)) (claimV (readS t)) (curV t) (newRL b l' i (rClaimN { u with seen := u.seen + 1 })) (rClaim { u with seen := u.seen + 1 }) G (m + 600) ∧ RRoom { u with seen := u.seen + 1 } ∧ ∀ n, n ≤ t.claims → Lost (claimV (readS t)) n := by
 have hXr : SimX { u with seen := u.seen + 1 } (readS t) := (hX.reads).seen (u.seen + 1)
 have hkr : Ok (readS t) := ⟨hk.n, hk.held, hk.wait, hk.fuse, hk.made, by have := hk.reads; show 0 ≤ t.reads + 1; omega, hk.claims⟩
 obtain ⟨h1, h2⟩ := hXr.claim hkr.claims
 have hcn : claimN (readS t) = claimN t := rfl
 have hcv : claimV (readS t) = { readS t with claims := t.claims + 1, claimed := true } := by
  unfold claimV
  show (if t.stopped = true then _ else _) = _
  rw [hd, if_neg (by simp)]
  rfl
 have hn1 : claimN t = t.claims + 1 := by unfold claimN; rw [hd, if_neg (by simp)]
 have hroom : RRoom { u with seen := u.seen + 1 } := hXr.room hkr hC.readS (by omega) ⟨by show 0 ≤ u.seen + 1; omega, by show u.seen + 1 ≤ _; omega⟩
 refine ⟨⟨?_, h1, ?_, ?_, ?_, hl, ?_, ⟨by show (0 : Int) ≤ _; omega, by show (0 : Int) ≤ _; omega⟩, Nat.zero_le _⟩, hroom, fun n hn => lost_claim hn hd⟩
 ·rw [h2, hcn]
  exact Mt.new b l' i (claimN t) (curV t)
 ·rw [hcv]
  have h3 := hC.ops
  have h4 := hC.made
  have h5 := hC.reads
  have h6 := hC.claims
  exact ⟨by show t.ops.length ≤ _; omega, by show t.made ≤ _; omega, by show t.reads + 1 ≤ _; omega, by show t.claims + 1 ≤ _; omega⟩
 ·have hse : (rClaim { u with seen := u.seen + 1 }).seen = u.seen + 1 := by
   unfold rClaim
   split <;> rfl
  rw [hse]
  exact ⟨by omega, by omega⟩
 ·rw [hcv, show (newX b l' i (claimN t)).claim = claimN t from rfl, hn1]
  unfold claimedV
  show (!t.stopped && true && t.claims + 1 == t.claims + 1) = true
  rw [hd]
  simp
 ·intro b'
  rw [hcv]
  exact tg_any hf.1 hT hE
end
end Go.Proofs.YtichojdcoegboaaGreatW
