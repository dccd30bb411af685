/- Several texts joined: the log, its cache and its disk, of the program and of the document; no condition. -/
import Derived.Test.YtichojdcoegboaaGreatK12
import Derived.Test.YtichojdcoegboaaGreatK6
import Derived.Test.YtichojdcoegboaaGreatK14
import Derived.Test.YtichojdcoegboaaGreatK25
import Derived.Test.YtichojdcoegboaaGreatK22
import Derived.Test.YtichojdcoegboaaGreatK18
import Derived.Test.YtichojdcoegboaaGreatK19
import Derived.Test.YtichojdcoegboaaGreatK16
namespace Go.Proofs.YtichojdcoegboaaGreatW
open Go.RowKit Go.Maps
structure Sim (t : RSt) (s : St) : Prop where
 n : t.n = s.n
 rise : Rise (-1) t.held
 sound : Sound t.held
 top : ∀ c ∈ t.held, c.1 < s.n
 held : ∀ k, atL t.held k = (s.held k).getD nought
 wait : t.wait = s.wait
 fuse : s.fuse = if t.fused then t.left else -1
 left : t.fused = true → 0 ≤ t.left ∧ t.left ≤ 9223372036854775807
 dead : t.dead = s.stopped
 ops : t.ops = s.ops
 count : t.count = s.made
 seen : t.seen = s.reads
 claims : t.claims = s.claims
 owner : t.owner = if s.claimed then s.claims else 0
 claimed : s.claimed = true → 0 < s.claims
theorem Sim.image {t : RSt} {s : St} (h : Sim t s) : IsImage s t.held := ⟨h.rise, h.sound, h.top, h.held⟩
theorem Sim.ref {t : RSt} {s : St} (h : Sim t s) (k : Int) : rRefV t k = refV s k := by
 unfold rRefV refV
 rw [h.dead, h.n]
theorem Sim.cur {t : RSt} {s : St} (h : Sim t s) (k : Int) : rCur t k = curV s k := by
 unfold rCur curV
 rw [h.wait, h.held k]
 rfl
theorem Sim.lets {t : RSt} {s : St} (h : Sim t s) : rLetsB t = lets s := by
 unfold rLetsB Go.Proofs.YtichojdcoegboaaGreatW.lets
 rw [h.fuse]
 cases hf : t.fused
 ·simp
 ·have := h.left hf
  by_cases e : t.left = 0
  ·simp [e]
  ·simp [e]
theorem Sim.read {t : RSt} {s : St} (h : Sim t s) : Sim { t with seen := t.seen + 1 } (readS s) :=
 ⟨h.n, h.rise, h.sound, h.top, h.held, h.wait, h.fuse, h.left, h.dead, h.ops, h.count, by show t.seen + 1 = s.reads + 1; rw [h.seen], h.claims, h.owner, h.claimed⟩
theorem Sim.let_ {t : RSt} {s : St} (h : Sim t s) : Sim (rLets t) (letV s) := by
 have hl := h.lets
 have hf := h.fuse
 unfold rLets letV
 cases hL : rLetsB t
 ·rw [hL] at hl
  have h0 : s.fuse = 0 := by unfold Go.Proofs.YtichojdcoegboaaGreatW.lets at hl; simpa using hl.symm
  rw [if_pos h0]
  simp only [Bool.false_eq_true, if_false]
  exact ⟨h.n, h.rise, h.sound, h.top, h.held, h.wait, h.fuse, h.left, rfl, h.ops, h.count, h.seen, h.claims, h.owner, h.claimed⟩
 ·rw [hL] at hl
  have h0 : ¬ s.fuse = 0 := by unfold Go.Proofs.YtichojdcoegboaaGreatW.lets at hl; simpa using hl.symm
  rw [if_neg h0]
  simp only [if_true]
  cases hfd : t.fused
  ·rw [hfd] at hf
   simp only [Bool.false_eq_true, if_false] at hf ⊢
   refine ⟨h.n, h.rise, h.sound, h.top, h.held, h.wait, ?_, (fun q => by cases q), h.dead, h.ops, by show t.count + 1 = s.made + 1; rw [h.count], h.seen, h.claims, h.owner, h.claimed⟩
   show (if s.fuse = -1 then (-1 : Int) else s.fuse - 1) = -1
   rw [if_pos hf]
  ·rw [hfd] at hf
   simp only [if_true] at hf ⊢
   have hb := h.left hfd
   refine ⟨h.n, h.rise, h.sound, h.top, h.held, h.wait, ?_, fun _ => by show 0 ≤ t.left - 1 ∧ t.left - 1 ≤ _; omega, h.dead, h.ops, by show t.count + 1 = s.made + 1; rw [h.count], h.seen, h.claims, h.owner, h.claimed⟩
   show (if s.fuse = -1 then (-1 : Int) else s.fuse - 1) = t.left - 1
   rw [if_neg (by omega), hf]
theorem Sim.write {t : RSt} {s : St} (h : Sim t s) (k : Int) (f : Nat → Int) : Sim (rWriteS t k f) (writeS s k f) := by
 have h1 := h.let_
 refine ⟨h1.n, h1.rise, h1.sound, h1.top, h1.held, ?_, h1.fuse, h1.left, h1.dead, ?_, h1.count, h1.seen, h1.claims, h1.owner, h1.claimed⟩
 ·show (rLets t).wait ++ [(k, f)] = s.wait ++ [(k, f)]
  rw [h1.wait, letV_wait]
 ·show (rLets t).ops ++ [⟨1, k, f⟩] = (writeS s k f).ops
  rw [h1.ops, letV_ops]
  show s.ops ++ [wrec (k, f)] = (letV s).done ++ (s.wait ++ [(k, f)]).map wrec
  rw [letV_done, List.map_append, ← List.append_assoc]
  rfl
theorem Sim.fuse_ {t : RSt} {s : St} (h : Sim t s) (n : Int) (hn : n ≤ 9223372036854775807) : Sim (rFuse t n) (fuseV s n) := by
 unfold rFuse fuseV
 rw [h.dead]
 cases hs : s.stopped
 ·simp only [Bool.false_eq_true, if_false]
  refine ⟨h.n, h.rise, h.sound, h.top, h.held, h.wait, ?_, fun q => ?_, rfl, h.ops, h.count, h.seen, h.claims, h.owner, h.claimed⟩
  ·show max n (-1) = if decide (0 ≤ n) = true then n else -1
   by_cases q : 0 ≤ n
   ·rw [if_pos (by simp [q])]; omega
   ·rw [if_neg (by simp [q])]; omega
  ·have q' : decide (0 ≤ n) = true := q
   have : 0 ≤ n := by simpa using q'
   show 0 ≤ n ∧ n ≤ _
   omega
 ·simp only [if_true]
  exact h
theorem Sim.claim {t : RSt} {s : St} (h : Sim t s) (hc : 0 ≤ s.claims) : Sim (rClaim t) (claimV s) ∧ rClaimN t = claimN s := by
 unfold rClaim claimV rClaimN claimN
 rw [h.dead, h.claims]
 cases hs : s.stopped
 ·simp only [Bool.false_eq_true, if_false]
  refine ⟨⟨h.n, h.rise, h.sound, h.top, h.held, h.wait, h.fuse, h.left, rfl, h.ops, h.count, h.seen, rfl, rfl, fun _ => ?_⟩, trivial⟩
  show 0 < s.claims + 1
  omega
 ·simp only [if_true]
  exact ⟨h, trivial⟩
theorem Sim.isClaimed {t : RSt} {s : St} (h : Sim t s) (n : Int) : rClaimed t n = claimedV s n := by
 unfold rClaimed claimedV
 rw [h.dead, h.owner]
 cases hs : s.stopped
 ·cases hd : s.claimed
  ·simp
   intro q e
   omega
  ·have := h.claimed hd
   simp only [Bool.not_false, Bool.true_and, if_true]
   by_cases e : n = s.claims
   ·simp [e, this]
   ·simp [e]
 ·simp
theorem lay_hold {t : List Cel} {s : St} (hr : Rise (-1) t) (hs : Sound t) (hh : ∀ k, atL t k = (s.held k).getD nought) : ∀ (ws : List Cel), (∀ c ∈ ws, (0 ≤ c.1 ∧ c.1 < s.n) ∧ Can c.2) →
  Rise (-1) (rLay t ws) ∧ Sound (rLay t ws) ∧ ∀ k, atL (rLay t ws) k = ((holdAll s ws).held k).getD nought := fun ws => by
 suffices H : ∀ n, n ≤ ws.length → (∀ c ∈ ws, (0 ≤ c.1 ∧ c.1 < s.n) ∧ Can c.2) → Rise (-1) (rLay t (ws.take n)) ∧ Sound (rLay t (ws.take n)) ∧ ∀ k, atL (rLay t (ws.take n)) k = ((holdAll s (ws.take n)).held k).getD nought by
  intro hw
  have := H ws.length (Nat.le_refl _) hw
  rwa [List.take_length] at this
 intro n
 induction n with
 | zero => intro _ _; simp [rLay, holdAll]; exact ⟨hr, hs, hh⟩
 | succ n ih =>
  intro hn hw
  obtain ⟨i1, i2, i3⟩ := ih (by omega) hw
  have hx : ws[n]? = some ws[n] := List.getElem?_eq_getElem (by omega)
  have htk : ws.take (n + 1) = ws.take n ++ [ws[n]] := by rw [List.take_add_one, hx]; rfl
  have hc := hw _ (List.getElem_mem (by omega : n < ws.length))
  rw [htk, rLay_snoc, holdAll_snoc]
  obtain ⟨l1, l2, l3⟩ := laid_spec ws[n].1 ws[n].2 hc.2 (by omega : (-1 : Int) < ws[n].1) i1 i2
  refine ⟨l1, l2, fun k => ?_⟩
  rw [l3, holdV_get _ _ hc.2, i3]
theorem at_mem : ∀ {m : Int} {l : List Cel}, Rise m l → ∀ c ∈ l, m < c.1 ∧ atL l c.1 = c.2
 | _, [], _, c, hc => by cases hc
 | m, x :: r, h, c, hc => by
  rcases List.mem_cons.1 hc with rfl | hc
  ·exact ⟨h.1, by simp [atL]⟩
  ·obtain ⟨h1, h2⟩ := at_mem h.2 c hc
   refine ⟨by have := h.1; omega, ?_⟩
   rw [atL, if_neg (by omega)]
   exact h2
theorem top_of {l : List Cel} {s : St} (hr : Rise (-1) l) (hs : Sound l) (hh : ∀ k, atL l k = (s.held k).getD nought) (hk : Ok s) : ∀ c ∈ l, c.1 < s.n := fun c hc => by
 obtain ⟨_, h2⟩ := at_mem hr c hc
 rw [hh] at h2
 cases hx : s.held c.1 with
 | none =>
  rw [hx] at h2
  exact absurd h2.symm (hs c hc).2
 | some f => exact (hk.held _ _ hx).1.2
theorem holdAll_ok : ∀ {l : List Cel} {s : St}, Ok s → (∀ c ∈ l, (0 ≤ c.1 ∧ c.1 < s.n) ∧ Can c.2) → Ok (holdAll s l)
 | [], _, h, _ => h
 | c :: l, s, h, hw => by
  have h1 := hw c (by simp)
  exact holdAll_ok (l := l) (holdV_ok h h1.1 h1.2) fun x hx => hw x (by simp [hx])
theorem Sim.barrier {t : RSt} {s : St} (h : Sim t s) (hk : Ok s) : Sim (rBarS t) (barS s) := by
 have h1 := h.let_
 have hk1 := letV_ok hk
 have hw : ∀ c ∈ s.wait, (0 ≤ c.1 ∧ c.1 < (letV s).n) ∧ Can c.2 := by rw [letV_n]; exact hk.wait
 obtain ⟨l1, l2, l3⟩ := lay_hold h1.rise h1.sound h1.held s.wait hw
 have hok : Ok (barS s) := barS_ok (holdAll_ok hk1 hw)
 have e0 : (rBarS t).held = rLay (rLets t).held s.wait := by
  show rLay (rLets t).held (rLets t).wait = _
  rw [h1.wait, letV_wait]
 obtain ⟨hh, he⟩ := holdAll_same s.wait (letV s)
 have e1 : (barS s).held = (holdAll (letV s) s.wait).held := rfl
 refine ⟨?_, by rw [e0]; exact l1, by rw [e0]; exact l2, ?_, fun k => by rw [e0, e1]; exact l3 k, rfl, ?_, h1.left, ?_, ?_, ?_, ?_, ?_, ?_, ?_⟩
 ·show (rLets t).n = (holdAll (letV s) s.wait).n
  rw [he]; exact h1.n
 ·rw [e0]; exact top_of l1 l2 (fun k => by rw [e1]; exact l3 k) hok
 ·show (holdAll (letV s) s.wait).fuse = _
  rw [he]; exact h1.fuse
 ·show (rLets t).dead = (holdAll (letV s) s.wait).stopped
  rw [he]; exact h1.dead
 ·rw [barS_ops]
  show (rLets t).ops ++ _ = _
  rw [h1.ops, letV_ops]
 ·show (rLets t).count = (holdAll (letV s) s.wait).made
  rw [he]; exact h1.count
 ·show (rLets t).seen = (holdAll (letV s) s.wait).reads
  rw [he]; exact h1.seen
 ·show (rLets t).claims = (holdAll (letV s) s.wait).claims
  rw [he]; exact h1.claims
 ·show (rLets t).owner = if (holdAll (letV s) s.wait).claimed then (holdAll (letV s) s.wait).claims else 0
  rw [he]; exact h1.owner
 ·show (holdAll (letV s) s.wait).claimed = true → 0 < (holdAll (letV s) s.wait).claims
  rw [he]; exact h1.claimed
theorem keptL_mem : ∀ (l : List Cel) (k : List Bool), ∀ c ∈ keptL l k, c ∈ l
 | [], _, c, h => by simp [keptL] at h
 | x :: l, [], c, h => by simp [keptL] at h
 | x :: l, true :: k, c, h => by
  rcases List.mem_cons.1 (show c ∈ x :: keptL l k from h) with rfl | h
  ·simp
  ·exact List.mem_cons_of_mem _ (keptL_mem l k c h)
 | x :: l, false :: k, c, h => List.mem_cons_of_mem _ (keptL_mem l k c h)
theorem Sim.crash {t : RSt} {s : St} (h : Sim t s) (hk : Ok s) (kl : List Bool) : Sim (rCrashS t kl) (crashS s kl) := by
 have hw : ∀ c ∈ keptL s.wait kl, (0 ≤ c.1 ∧ c.1 < s.n) ∧ Can c.2 := fun c hc => hk.wait c (keptL_mem _ _ c hc)
 obtain ⟨l1, l2, l3⟩ := lay_hold h.rise h.sound h.held (keptL s.wait kl) hw
 have hok : Ok (crashS s kl) := crashS_ok (holdAll_ok hk hw)
 have e0 : (rCrashS t kl).held = rLay t.held (keptL s.wait kl) := by
  show rLay t.held (keptL t.wait kl) = _
  rw [h.wait]
 obtain ⟨hh, he⟩ := holdAll_same (keptL s.wait kl) s
 have e1 : (crashS s kl).held = (holdAll s (keptL s.wait kl)).held := rfl
 refine ⟨?_, by rw [e0]; exact l1, by rw [e0]; exact l2, ?_, fun k => by rw [e0, e1]; exact l3 k, rfl, rfl, (fun q => by cases q), rfl, rfl, ?_, ?_, ?_, rfl, (fun q => by cases q)⟩
 ·show t.n = (holdAll s (keptL s.wait kl)).n
  rw [he]; exact h.n
 ·rw [e0]; exact top_of l1 l2 (fun k => by rw [e1]; exact l3 k) hok
 ·show t.count = (holdAll s (keptL s.wait kl)).made
  rw [he]; exact h.count
 ·show t.seen = (holdAll s (keptL s.wait kl)).reads
  rw [he]; exact h.seen
 ·show t.claims = (holdAll s (keptL s.wait kl)).claims
  rw [he]; exact h.claims
def rWriteV (t : RSt) (k : Int) (f : Nat → Int) : RSt := if rRefV t k = 0 then (if rLetsB t then rWriteS t k f else rLets t) else t
def rWriteE (t : RSt) (k : Int) : Int := if rRefV t k = 0 then (if rLetsB t then 0 else 3) else rRefV t k
def rBarV (t : RSt) : RSt := if t.dead then t else (if rLetsB t then rBarS t else rLets t)
def rBarE (t : RSt) : Int := if t.dead then 3 else (if rLetsB t then 0 else 3)
section
variable {w W W' : World} {q r : Nat} {y y' : RL} {u u' : RSt} {l : List Part} {s : St}
theorem RDs.write (h : RDs w W r u l) (hr : RRoom u) (k : Int) (f : Nat → Int) : Calls Tryz.prog 95 #[.pointer (some ⟨r, 0, none⟩), .int .i64 k, .agg (blk f)] W fun e W' => e = .returned (.int .i64 (rWriteE u k)) ∧ RDs w W' r (rWriteV u k f) l := by
 obtain ⟨R, hD, hT⟩ := h.rd
 unfold rWriteE rWriteV
 by_cases hb : rRefV u k = 0
 ·rw [if_pos hb, if_pos hb]
  cases hL : rLetsB u
  ·exact (rWrite_dead hD hb hL hr.left hr.count f).mono fun e W' ⟨h1, h2, h3⟩ => ⟨h1, hT _ _ _ _ _ h2 (RTo.ofFr h3)⟩
  ·exact (rWrite_ok hD hb hL hr.left hr.count (by have := hr.wait; omega) (by have := hr.ops; omega) f).mono fun e W' ⟨h1, _, _, h2, h3⟩ => ⟨h1, hT _ _ _ _ _ h2 h3⟩
 ·rw [if_neg hb, if_neg hb]
  exact (rWrite_bad hD hb f).mono fun e W' ⟨h1, h2, h3⟩ => ⟨h1, hT _ _ _ _ _ h2 (RTo.ofFr (Fr.ofBelow h3))⟩
theorem RDs.barrier (h : RDs w W r u l) (hr : RRoom u) : Calls Tryz.prog 96 #[.pointer (some ⟨r, 0, none⟩)] W fun e W' => e = .returned (.int .i64 (rBarE u)) ∧ RDs w W' r (rBarV u) l := by
 obtain ⟨R, hD, hT⟩ := h.rd
 unfold rBarE rBarV
 cases hd : u.dead
 ·cases hL : rLetsB u
  ·exact (rBarrier_dead hD hd hL hr.left hr.count).mono fun e W' ⟨h1, h2, h3⟩ => ⟨h1, hT _ _ _ _ _ h2 (RTo.ofFr h3)⟩
  ·refine (rBarrier_ok hD hd hL hr.left hr.count (by have := hr.wait; have := hr.held; omega) (by have := hr.ops; omega)).mono fun e W' ⟨h1, hv', ov', h2, h3, h4, h5⟩ => ⟨h1, hT _ _ _ _ _ h2 ⟨h3.mono fun i _ q => ?_, fun b q => ?_⟩⟩
   ·rcases q with q | q
    ·exact .inl q
    ·exact .inr (.inr (.inr q))
   ·rcases q with q | q | q | q
    ·exact .inl (.inl q)
    ·exact (h4 b q).elim (fun r => .inl (.inr (.inl r))) .inr
    ·cases q
    ·exact (h5 b q).elim (fun r => .inl (.inr (.inr (.inr r)))) .inr
 ·exact (rBarrier_stopped hD hd).mono fun e W' ⟨h1, h2⟩ => ⟨h1, by rw [h2]; exact h⟩
theorem RDs.claim (h : RDs w W r u l) (hr : RRoom u) : Calls Tryz.prog 97 #[.pointer (some ⟨r, 0, none⟩)] W fun e W' => e = .returned (.int .i64 (rClaimN u)) ∧ RDs w W' r (rClaim u) l := by
 obtain ⟨R, hD, hT⟩ := h.rd
 exact (rClaim_any hD hr.claims).mono fun e W' ⟨h1, h2, h3⟩ => ⟨h1, hT _ _ _ _ _ h2 (RTo.ofFr h3)⟩
theorem RDs.len (h : RDs w W r u l) : Calls Tryz.prog 141 #[.pointer (some ⟨r, 0, none⟩)] W fun e W' => e = .returned (.int .i64 u.n) ∧ W' = W := by
 obtain ⟨R, hD, hT⟩ := h.rd
 exact rLen_any hD
theorem RDs.fuse (h : RDs w W r u l) (n : Int) : Calls Tryz.prog 41 #[.pointer (some ⟨r, 0, none⟩), .int .i64 n] W fun e W' => e = .returned (.tuple #[]) ∧ RDs w W' r (rFuse u n) l := by
 obtain ⟨R, hD, hT⟩ := h.rd
 exact (rFuse_any hD n).mono fun e W' ⟨h1, h2, h3⟩ => ⟨h1, hT _ _ _ _ _ h2 (RTo.ofFr h3)⟩
def rdopE (u : RSt) : Option Cel → Int
 | some c => rWriteE u c.1
 | none => rBarE u
def rdopV (u : RSt) : Option Cel → RSt
 | some c => rWriteV u c.1 c.2
 | none => rBarV u
def rrunE : List (Option Cel) → RSt → Int
 | [], _ => 0
 | o :: l, u => if rdopE u o = 0 then rrunE l (rdopV u o) else rdopE u o
def rrunV : List (Option Cel) → RSt → RSt
 | [], u => u
 | o :: l, u => if rdopE u o = 0 then rrunV l (rdopV u o) else rdopV u o
theorem Sim.eqWrite (h : Sim u s) (k : Int) : rWriteE u k = writeE s k := by
 unfold rWriteE writeE
 rw [h.ref, h.lets]
theorem Sim.toWrite (h : Sim u s) (k : Int) (f : Nat → Int) : Sim (rWriteV u k f) (writeV s k f) := by
 unfold rWriteV writeV
 rw [h.ref, h.lets]
 split
 ·split
  ·exact h.write k f
  ·exact h.let_
 ·exact h
theorem Sim.eqBar (h : Sim u s) : rBarE u = barE s := by
 unfold rBarE barE
 rw [h.dead, h.lets]
theorem Sim.toBar (h : Sim u s) (hk : Ok s) : Sim (rBarV u) (barV s) := by
 unfold rBarV barV
 rw [h.dead, h.lets]
 split
 ·exact h
 ·split
  ·exact h.barrier hk
  ·exact h.let_
theorem writeV_ok {k : Int} {f : Nat → Int} (hk : Ok s) (hf : Can f) : Ok (writeV s k f) := by
 unfold writeV
 split
 ·rename_i h0
  split
  ·exact writeS_ok hk (by unfold refV at h0; split at h0; (· omega); split at h0; (· assumption); (· omega)) hf
  ·exact letV_ok hk
 ·exact hk
theorem barV_ok (hk : Ok s) : Ok (barV s) := by
 unfold barV
 split
 ·exact hk
 ·split
  ·exact barS_ok (holdAll_ok (letV_ok hk) (by rw [letV_n]; exact hk.wait))
  ·exact letV_ok hk
theorem Sim.run : ∀ (o : List (Option Cel)) {u : RSt} {s : St}, Sim u s → Ok s → (∀ c, some c ∈ o → Can c.2) → rrunE o u = runE o s ∧ Sim (rrunV o u) (runV o s) ∧ Ok (runV o s)
 | [], _, _, h, hk, _ => ⟨rfl, h, hk⟩
 | x :: o, u, s, h, hk, hc => by
  have hE : rdopE u x = dopE s x := by
   cases x with
   | none => exact h.eqBar
   | some c => exact h.eqWrite c.1
  have hV : Sim (rdopV u x) (dopV s x) := by
   cases x with
   | none => exact h.toBar hk
   | some c => exact h.toWrite c.1 c.2
  have hO : Ok (dopV s x) := by
   cases x with
   | none => exact barV_ok hk
   | some c => exact writeV_ok hk (hc c (by simp))
  unfold rrunE rrunV runE runV
  rw [hE]
  split
  ·exact Sim.run o hV hO fun c hcc => hc c (by simp [hcc])
  ·exact ⟨rfl, hV, hO⟩
end
end Go.Proofs.YtichojdcoegboaaGreatW
namespace Go.Proofs.YtichojdcoegboaaGreatW.H
open Go.RowKit
set_option maxHeartbeats 400000 in
theorem inside_any (a : Int) (w : World) :
  Calls Tryz.prog 156 #[.int .i64 a] w fun e w' => e = .returned (.bool (decide (0 ≤ a ∧ a < 1024))) ∧ w' = w := by
 by_cases h0 : 0 ≤ a
 ·by_cases h1 : a < 1024
  ·go_enter Tryz.func156, Tryz.ntmps156
   go_wp2
   go_ret
   exact ⟨by simp [h0, h1], rfl⟩
  ·go_enter Tryz.func156, Tryz.ntmps156
   go_wp2
   go_ret
   exact ⟨by simp [h1], rfl⟩
 ·go_enter Tryz.func156, Tryz.ntmps156
  go_wp2
  go_ret
  exact ⟨by simp; omega, rfl⟩
theorem inside_yes (a : Int) (w : World) (h : 0 ≤ a ∧ a < 1024) : Calls Tryz.prog 156 #[.int .i64 a] w fun e w' => e = .returned (.bool true) ∧ w' = w := by
 have := inside_any a w
 rwa [decide_eq_true h] at this
theorem inside_no (a : Int) (w : World) (h : ¬ (0 ≤ a ∧ a < 1024)) : Calls Tryz.prog 156 #[.int .i64 a] w fun e w' => e = .returned (.bool false) ∧ w' = w := by
 have := inside_any a w
 rwa [decide_eq_false h] at this
set_option maxRecDepth 20000 in
set_option maxHeartbeats 400000 in
theorem number_in (f : Nat → Int) (k n : Nat) (w : World) (hn : 1 ≤ (n : Int) ∧ (n : Int) ≤ 4) (hk : (k : Int) + (n : Int) ≤ 1024) (hf : ∀ i, 0 ≤ f i ∧ f i ≤ 255) :
  Calls Tryz.prog 153 #[.agg (blk f), .int .i64 k, .int .i64 n] w fun e w' => e = .returned (.int .u32 (numN f k n)) ∧ Below w.heap.size w w' := by
 go_enter Tryz.func153, Tryz.ntmps153
 go_wp2_with (first | (go_at_call 156; refine (inside_yes _ _ (by omega)).mono ?_; rintro e w' ⟨rfl, rfl⟩))
 go_loop [7, 8] (fun x i => ∃ c : Int, -1 ≤ c ∧ c < n ∧ i = .int .i64 c ∧ x = .int .u32 (numN f (k + (c + 1).toNat) (n - (c + 1).toNat))) (fun _ i => (intOf i + 1).toNat)
 case atStart => exact ⟨(n : Int) - 1, by omega, by omega, rfl, by simp [numN]⟩
 case round =>
  obtain ⟨c, hc0, hc1, rfl, rfl⟩ := hrel
  by_cases h0 : 0 ≤ c
  ·obtain ⟨m, rfl⟩ := Int.eq_ofNat_of_zero_le h0
   have e1 : ((m : Int) + 1).toNat = m + 1 := by omega
   rw [e1]
   have hst := numN_step f k n m (by omega)
   have hbd := numN_bd3 f hf (n - (m + 1)) (k + (m + 1)) (by omega)
   obtain ⟨x, hx⟩ : ∃ x, x = numN f (k + (m + 1)) (n - (m + 1)) := ⟨_, rfl⟩
   rw [← hx] at hst hbd
   rw [← hx]
   have hx0 : 0 ≤ x := hbd.1
   have hx1 : x < 16777216 := hbd.2
   have HST : Hid (numN f (k + m) (n - m) = f (k + m) + 256 * x) := hst
   have hfm := hf (k + m)
   have hf0 : 0 ≤ f (k + m) := hfm.1
   have hf1 : f (k + m) ≤ 255 := hfm.2
   have hbm := blk_get f (k + m) (by omega)
   have eadd : ((k : Int) + (m : Int)).toNat = k + m := by omega
   clear hst hbd hx e1 hf hfm hc0 h0
   go_wp2
   go_round
   case rel => exact ⟨(m : Int) - 1, by omega, by omega, rfl, by rw [show ((m : Int) - 1 + 1).toNat = m by omega, HST.out]; go_num⟩
   case measure => simp [intOf]
  ·have e : c = -1 := by omega
   subst e
   go_wp2
   go_ret
   exact ⟨ret_int (by simp), (Below.refl _ _).alloc (Nat.le_refl _) _⟩
set_option maxRecDepth 20000 in
set_option maxHeartbeats 400000 in
theorem number_out (f : Nat → Int) (k : Int) (n : Nat) (w : World) (hn : 1 ≤ (n : Int) ∧ (n : Int) ≤ 4) (hk : ¬ (0 ≤ k ∧ k ≤ 1024 - (n : Int))) :
  Calls Tryz.prog 153 #[.agg (blk f), .int .i64 k, .int .i64 n] w fun e w' => e = .returned (.int .u32 0) ∧ Below w.heap.size w w' := by
 by_cases h : 0 ≤ k ∧ k < 1024
 ·obtain ⟨h0, h1⟩ := h
  have HK : Hid (¬ (0 ≤ k + (n : Int) - 1 ∧ k + (n : Int) - 1 < 1024)) := show ¬ _ by omega
  clear hk
  go_enter Tryz.func153, Tryz.ntmps153
  go_wp2_with fail
  refine (inside_yes _ _ ⟨h0, h1⟩).mono ?_
  rintro e w' ⟨rfl, rfl⟩
  go_wp2_with fail
  refine (inside_no _ _ HK.out).mono ?_
  rintro e w' ⟨rfl, rfl⟩
  go_wp2
  go_ret
  exact ⟨rfl, (Below.refl _ _).alloc (Nat.le_refl _) _⟩
 ·have HK : Hid (¬ (0 ≤ k ∧ k < 1024)) := h
  clear hk h
  go_enter Tryz.func153, Tryz.ntmps153
  go_wp2_with (first | (go_at_call 156; refine (inside_no _ _ HK.out).mono ?_; rintro e w' ⟨rfl, rfl⟩))
  go_ret
  exact ⟨rfl, (Below.refl _ _).alloc (Nat.le_refl _) _⟩
theorem number_any (f : Nat → Int) (k : Int) (n : Nat) (w : World) (hn : 1 ≤ (n : Int) ∧ (n : Int) ≤ 4) (hf : ∀ i, 0 ≤ f i ∧ f i ≤ 255) :
  Calls Tryz.prog 153 #[.agg (blk f), .int .i64 k, .int .i64 n] w fun e w' => e = .returned (.int .u32 (num f k n)) ∧ Below w.heap.size w w' := by
 by_cases h : 0 ≤ k ∧ k ≤ 1024 - (n : Int)
 ·obtain ⟨m, rfl⟩ := Int.eq_ofNat_of_zero_le h.1
  rw [num_in f m n (by omega)]; exact number_in f m n w hn (by omega) hf
 ·rw [num_out f k n (by omega)]; exact number_out f k n w hn h
set_option maxRecDepth 20000 in
set_option maxHeartbeats 400000 in
theorem refU32_any (f : Nat → Int) (k : Int) (w : World) (hf : ∀ i, 0 ≤ f i ∧ f i ≤ 255) :
  Calls Tryz.prog 142 #[.agg (blk f), .int .i64 k] w fun e w' => e = .returned (.int .u32 (num f k 4)) ∧ Below w.heap.size w w' := by
 have HF : Hid (∀ i, 0 ≤ f i ∧ f i ≤ 255) := hf
 clear hf
 go_enter Tryz.func142, Tryz.ntmps142
 go_wp2_with (first | (go_at_call 153; refine (number_any f k 4 _ (by omega) HF.out).mono ?_; rintro e w' ⟨rfl, hb⟩) | refine wpList_load25 rfl _ rfl _ rfl _ (heap_alloc_new _ _) ?_)
 go_ret
 exact ⟨rfl, ((Below.refl _ _).alloc (Nat.le_refl _) _).trans (hb.mono (by simp))⟩
set_option maxRecDepth 20000 in
set_option maxHeartbeats 400000 in
theorem rset_in (f : Nat → Int) (k n : Nat) (v : Int) (w : World) (hn : 1 ≤ (n : Int) ∧ (n : Int) ≤ 4) (hk : (k : Int) + (n : Int) ≤ 1024) (hv : 0 ≤ v ∧ v < 4294967296) :
  Calls Tryz.prog 152 #[.agg (blk f), .int .i64 k, .int .i64 n, .int .u32 v] w fun e w' => e = .returned (.agg (blk (putN f k v n))) ∧ Below w.heap.size w w' := by
 have z25 := zero25
 go_enter Tryz.func152, Tryz.ntmps152
 go_wp2_with (first | (go_at_call 156; refine (inside_yes _ _ (by omega)).mono ?_; rintro e w' ⟨rfl, rfl⟩))
 go_loopw [3, 9] (fun s3 s9 wx => ∃ (i : Nat) (g : Nat → Int) (u : Int), (i : Int) ≤ n ∧ s9 = .int .i64 i ∧ s3 = .int .u32 u ∧ 0 ≤ u ∧ u < 4294967296 ∧ Hid (putN g (k + i) u (n - i) = putN f k v n) ∧ wx = (w.alloc (.cells (blk g) 64)).alloc (.cells (blk nought) 64)) (fun _ s9 _ => n - (intOf s9).toNat)
 case atStart => exact ⟨0, f, v, by omega, rfl, rfl, hv.1, hv.2, rfl, rfl⟩
 case round =>
  obtain ⟨i, g, u, hi, rfl, rfl, hu0, hu1, hg, rfl⟩ := hrel
  by_cases h : (i : Int) < n
  ·have hst := putN_step g k n i u (by omega)
   have HG : Hid (putN (upd g (k + i) (u % 256)) (k + (i + 1)) (u / 256) (n - (i + 1)) = putN f k v n) := hst.symm.trans hg.out
   clear hg hst
   have hbm := fun q => blk_get q (k + i) (by omega)
   have eadd : ((k : Int) + (i : Int)).toNat = k + i := by omega
   have hset := blk_set
   go_wp2
   exact ⟨⟨i + 1, _, _, by omega, by go_num, rfl, by omega, by omega, HG, rfl⟩, by simp [intOf]; omega⟩
  ·have hin : i = n := by omega
   subst hin
   have hG : g = putN f k v i := by have := hg.out; rwa [Nat.sub_self, putN] at this
   have HG : Hid (g = putN f k v i) := hG
   clear hg hG
   go_wp2_with (first | refine wpList_load25 rfl _ rfl _ rfl _ (heap_alloc2_old _ _ _) ?_ | refine wpList_store25 rfl _ _ rfl _ _ rfl rfl _ (heap_alloc2_new _ _ _) ?_)
   exact ret25 rfl (w.heap.size + 1) _ rfl (setRow_heap _ _ _ _ _ _ (heap_alloc2_new _ _ _)) rfl ⟨ret_blk HG.out, below2 _ _ _ _ (by omega) _⟩
set_option maxRecDepth 20000 in
set_option maxHeartbeats 400000 in
theorem rset_out (f : Nat → Int) (k : Int) (n : Nat) (v : Int) (w : World) (hn : 1 ≤ (n : Int) ∧ (n : Int) ≤ 4) (hk : ¬ (0 ≤ k ∧ k ≤ 1024 - (n : Int))) :
  Calls Tryz.prog 152 #[.agg (blk f), .int .i64 k, .int .i64 n, .int .u32 v] w fun e w' => e = .returned (.agg (blk f)) ∧ Below w.heap.size w w' := by
 have z25 := zero25
 by_cases h : 0 ≤ k ∧ k < 1024
 ·obtain ⟨h0, h1⟩ := h
  have HK : Hid (¬ (0 ≤ k + (n : Int) - 1 ∧ k + (n : Int) - 1 < 1024)) := show ¬ _ by omega
  clear hk
  go_enter Tryz.func152, Tryz.ntmps152
  go_wp2_with fail
  refine (inside_yes _ _ ⟨h0, h1⟩).mono ?_
  rintro e w' ⟨rfl, rfl⟩
  go_wp2_with fail
  refine (inside_no _ _ HK.out).mono ?_
  rintro e w' ⟨rfl, rfl⟩
  go_wp2_with (first | refine wpList_load25 rfl _ rfl _ rfl _ (heap_alloc2_old _ _ _) ?_ | refine wpList_store25 rfl _ _ rfl _ _ rfl rfl _ (heap_alloc2_new _ _ _) ?_)
  exact ret25 rfl (w.heap.size + 1) _ rfl (setRow_heap _ _ _ _ _ _ (heap_alloc2_new _ _ _)) rfl ⟨rfl, below2 _ _ _ _ (by omega) _⟩
 ·have HK : Hid (¬ (0 ≤ k ∧ k < 1024)) := h
  clear hk h
  go_enter Tryz.func152, Tryz.ntmps152
  go_wp2_with fail
  refine (inside_no _ _ HK.out).mono ?_
  rintro e w' ⟨rfl, rfl⟩
  go_wp2_with (first | refine wpList_load25 rfl _ rfl _ rfl _ (heap_alloc2_old _ _ _) ?_ | refine wpList_store25 rfl _ _ rfl _ _ rfl rfl _ (heap_alloc2_new _ _ _) ?_)
  exact ret25 rfl (w.heap.size + 1) _ rfl (setRow_heap _ _ _ _ _ _ (heap_alloc2_new _ _ _)) rfl ⟨rfl, below2 _ _ _ _ (by omega) _⟩
theorem rset_any (f : Nat → Int) (k : Int) (n : Nat) (v : Int) (w : World) (hn : 1 ≤ (n : Int) ∧ (n : Int) ≤ 4) (hv : 0 ≤ v ∧ v < 4294967296) :
  Calls Tryz.prog 152 #[.agg (blk f), .int .i64 k, .int .i64 n, .int .u32 v] w fun e w' => e = .returned (.agg (blk (put f k n v))) ∧ Below w.heap.size w w' := by
 by_cases h : 0 ≤ k ∧ k ≤ 1024 - (n : Int)
 ·obtain ⟨m, rfl⟩ := Int.eq_ofNat_of_zero_le h.1
  rw [put_in f m n v (by omega)]; exact rset_in f m n v w hn (by omega) hv
 ·rw [put_out f k n v (by omega)]; exact rset_out f k n v w hn h
set_option maxRecDepth 20000 in
set_option maxHeartbeats 400000 in
theorem refSet32_any (f : Nat → Int) (k : Int) (v : Int) (w : World) (hv : 0 ≤ v ∧ v < 4294967296) :
  Calls Tryz.prog 140 #[.agg (blk f), .int .i64 k, .int .u32 v] w fun e w' => e = .returned (.agg (blk (put f k 4 v))) ∧ Below w.heap.size w w' := by
 have z25 := zero25
 go_enter Tryz.func140, Tryz.ntmps140
 go_wp2_with (first | refine wpList_load25 rfl _ rfl _ rfl _ (heap_alloc2_old _ _ _) ?_)
 refine (rset_any f k 4 v _ (by omega) (by omega)).mono ?_
 rintro e W ⟨rfl, hb⟩
 have hW := later1 hb
 have hb2 := later2 hb
 go_wp2_with (first | refine wpList_store25 rfl _ _ rfl _ _ rfl rfl _ hW ?_)
 exact ret25 rfl (w.heap.size + 1) _ rfl (setRow_heap _ _ _ _ _ _ hW) rfl ⟨rfl, hb2 _ (by omega) _⟩
set_option maxRecDepth 20000 in
set_option maxHeartbeats 2000000 in
theorem refMay_any (b l i a c d e f g : Int) (ts : List Int) (p : Option Addr) (cap : Nat) (w : World) (hl : 32 ≤ l ∧ l ≤ 256) (hlen : ts.length < 9223372036854775807) (hts : IntsAt w p ts) :
  Calls Tryz.prog 139 #[.agg (lay9 b l i a c d e f g), .agg #[.slice p ts.length cap]] w fun e' w' => e' = .returned (.bool (mayB (1 + l) b (l - 1) ts)) ∧ Below w.heap.size w w' := by
 obtain ⟨n, hn⟩ : ∃ n, ts.length = n := ⟨_, rfl⟩
 have HT : Hid (IntsAt w p ts ∧ ts.length = n) := ⟨hts, hn⟩
 rw [hn] at hlen ⊢
 clear hts hn
 obtain ⟨hl1, hl2⟩ := hl
 have hw1 : IntKind.i64.wrap (1 + l) = 1 + l := by rw [IntKind.wrap_i64]; omega
 have hw2 : IntKind.i64.wrap (l - 1) = l - 1 := by rw [IntKind.wrap_i64]; omega
 generalize hq : mayB (1 + l) b (l - 1) ts = res
 have HQ : Hid (mayB (1 + l) b (l - 1) ts = res) := hq
 clear hq
 unfold lay9
 by_cases hbig : l - 1 < (n : Int)
 ·have er : res = false := by rw [← HQ.out]; exact decide_eq_false fun q => by have := q.1; have := HT.out.2; omega
  subst er
  have g0 : decide (l - 1 < (n : Int)) = true := decide_eq_true hbig
  clear HQ
  go_enter Tryz.func139, Tryz.ntmps139
  go_wp2
  go_ret
  exact ⟨rfl, bel_al (below_new _ _) _⟩
 ·have g0 : decide (l - 1 < (n : Int)) = false := decide_eq_false hbig
  go_enter Tryz.func139, Tryz.ntmps139
  go_wp2
  generalize hX : (w.alloc (.cells #[.int .i64 b, .int .i64 l, .int .i64 i, .int .i64 a, .int .i64 c, .int .i64 d, .int .i64 e, .int .i64 f, .int .i64 g] 59)).alloc (.cells #[.slice p n cap] 129) = X
  have hL := lay_cells (w := X) (h0 := w.heap.size) (b := b) (l := l) (i := i) (a := a) (c := c) (d := d) (e := e) (f := f) (g := g) (by rw [← hX]; exact heap_alloc2_old _ _ _)
  have hS : X.cell? ⟨w.heap.size + 1, 0, none⟩ = some (.slice p n cap) := cell_one (t := 129) (by rw [← hX]; exact heap_alloc2_new _ _ _)
  have HB : Hid (Below w.heap.size w X) := by rw [← hX]; exact bel_al (below_new _ _) _
  obtain ⟨c0, c1, c2, c3, c4, c5, c6, c7, c8, hlt⟩ := hL
  clear hX c2 c3 c4 c5 c6 c7 c8 hlt
  go_loopw [5, 6, 7] (fun s5 _ _ wx => ∃ k : Nat, k ≤ n ∧ s5 = .int .i64 k ∧ Hid ((∀ t ∈ ts.take k, 1 + l ≤ t ∧ t < b) ∧ (ts.take k).Nodup) ∧ wx = X) (fun s5 _ _ _ => n - (intOf s5).toNat)
  case atStart => exact ⟨0, by omega, rfl, by simp; exact trivial, rfl⟩
  case round =>
   obtain ⟨k, hk, rfl, HG, hwx⟩ := hrel
   have hwx := hwx.symm
   subst hwx
   by_cases hk2 : (k : Int) < n
   ·obtain ⟨hts, hn⟩ := HT.out
    have hx : ts[k]? = some ts[k] := List.getElem?_eq_getElem (by omega)
    have htk : ts.take (k + 1) = ts.take k ++ [ts[k]] := by rw [List.take_add_one, hx]; rfl
    have hmem : ts[k] ∈ ts := List.getElem_mem _
    obtain ⟨b1, o1, rfl, l1, C1⟩ := hts (by omega)
    generalize ts[k] = x at hx htk hmem
    have q1 : X.cell? ⟨b1, o1 + k, none⟩ = some (.int .i64 x) := (HB.out.cell (p := ⟨b1, o1 + k, none⟩) l1).trans (C1 k x hx)
    have HC1 : Hid (∀ j, j < k → ∃ x2, ts[j]? = some x2 ∧ X.cell? ⟨b1, o1 + j, none⟩ = some (.int .i64 x2)) := fun j hj => by
     have h2 : ts[j]? = some ts[j] := List.getElem?_eq_getElem (by omega)
     exact ⟨ts[j], h2, (HB.out.cell (p := ⟨b1, o1 + j, none⟩) l1).trans (C1 j _ h2)⟩
    have HX : Hid (ts.take (k + 1) = ts.take k ++ [x] ∧ x ∈ ts ∧ ts.length = n) := ⟨htk, hmem, hn⟩
    clear hx htk hmem hts hn C1
    by_cases h2 : x < 1 + l ∨ b ≤ x
    ·have hres : res = false := by
      rw [← HQ.out]
      exact decide_eq_false fun q => by have := q.2.1 x HX.out.2.1; omega
     subst hres
     clear HQ
     rcases h2 with h2 | h2
     ·have g2 : decide (x < 1 + l) = true := decide_eq_true h2
      clear h2
      go_wp2
      go_ret
      exact ⟨rfl, HB.out⟩
     ·have g3 : decide (b ≤ x) = true := decide_eq_true h2
      clear h2
      go_wp2
      all_goals
       go_ret
       exact ⟨rfl, HB.out⟩
    ·have g2 : decide (x < 1 + l) = false := decide_eq_false (by omega)
     have g3 : decide (b ≤ x) = false := decide_eq_false (by omega)
     have hxb : 1 + l ≤ x ∧ x < b := by omega
     have HXB : Hid _ := hxb
     clear h2 hxb
     go_wp2
     go_loopw [7] (fun s7 wx => ∃ j : Nat, j ≤ k ∧ s7 = .int .i64 j ∧ Hid (x ∉ ts.take j) ∧ wx = X) (fun s7 _ => k - (intOf s7).toNat)
     case atStart => exact ⟨0, by omega, rfl, by simp; exact trivial, rfl⟩
     case round =>
      obtain ⟨j, hj, rfl, HNI, hwx⟩ := hrel
      have hwx := hwx.symm
      subst hwx
      by_cases hj2 : (j : Int) < k
      ·obtain ⟨x2, hx2, q2⟩ := HC1.out j (by omega)
       by_cases he : x2 = x
       ·have hres : res = false := by
         rw [← HQ.out]
         refine decide_eq_false fun q => ?_
         have hn := HX.out.2.2
         have q3 := q.2.2
         rw [← List.take_append_drop (k + 1) ts, HX.out.1] at q3
         have hm : x2 ∈ ts.take k := List.mem_iff_getElem?.2 ⟨j, by rw [List.getElem?_take, if_pos (by omega)]; exact hx2⟩
         exact (List.nodup_append.1 (List.nodup_append.1 q3).1).2.2 x2 hm x (by simp) he
        subst hres
        have g4 : (x2 == x) = true := by simpa using he
        clear HQ hx2 he
        go_wp2
        go_ret
        exact ⟨rfl, HB.out⟩
       ·have g4 : (x2 == x) = false := by simpa using he
        have HN2 : Hid (x ∉ ts.take (j + 1)) := by
         show x ∉ ts.take (j + 1)
         rw [List.take_add_one, hx2]
         intro q
         rcases List.mem_append.1 q with q | q
         ·exact HNI.out q
         ·have q' : x = x2 := by simpa using q
          exact he q'.symm
        clear hx2 he HNI
        go_wp2
        exact ⟨⟨j + 1, by omega, by go_num, HN2.out, trivial⟩, by simp [intOf]; omega⟩
      ·obtain rfl : j = k := by omega
       have HG2 : Hid ((∀ t ∈ ts.take (j + 1), 1 + l ≤ t ∧ t < b) ∧ (ts.take (j + 1)).Nodup) := by
        rw [show ts.take (j + 1) = ts.take j ++ [x] from HX.out.1]
        refine ⟨fun t ht => ?_, List.nodup_append.2 ⟨HG.out.2, by simp, fun y hy z hz e => ?_⟩⟩
        ·rcases List.mem_append.1 ht with ht | ht
         ·exact HG.out.1 t ht
         ·rw [List.mem_singleton.1 ht]; exact HXB.out
        ·rw [List.mem_singleton.1 hz] at e; exact HNI.out (e ▸ hy)
       clear HNI HG
       go_wp2
       exact ⟨⟨j + 1, by omega, by go_num, HG2.out, trivial⟩, by simp [intOf]; omega⟩
   ·obtain rfl : k = n := by omega
    have hres : res = true := by
     rw [← HQ.out]
     have hn := HT.out.2
     have hg := HG.out
     rw [List.take_of_length_le (by omega)] at hg
     exact decide_eq_true ⟨by omega, hg.1, hg.2⟩
    subst hres
    clear HQ HG
    go_wp2
    go_ret
    exact ⟨rfl, HB.out⟩
set_option maxRecDepth 20000 in
set_option maxHeartbeats 400000 in
theorem fits3_fine (b l i a c d e f g : Int) (w : World) (hf : Fine b l i) :
  Calls Tryz.prog 138 #[.agg (lay9 b l i a c d e f g)] w fun e' w' => e' = .returned (.bool (standsB b l i a c d e f g)) ∧ Below w.heap.size w w' := by
 have hc := fun w => refOf_any b l i w
 rw [show ofV b l i = layV b l i from if_pos hf, show ofE b l i = 0 from if_pos hf] at hc
 have HF : Hid (Fine b l i) := hf
 clear hf
 unfold layV at hc
 have e1 : ∀ (w : World), (w.alloc (.cells (lay9 b l i a c d e f g) 59)).heap[w.heap.size]? = some (.cells (lay9 b l i a c d e f g) 59) := fun w => heap_alloc_new _ _
 have e2 := fun (W1 : World) (h : W1.heap[w.heap.size]? = some (.cells (lay9 b l i a c d e f g) 59)) => lay_cells h
 unfold lay9 at *
 go_enter Tryz.func138, Tryz.ntmps138
 go_wp2_with (first | (go_at_call 73; fail))
 refine (hc _).mono ?_
 rintro e' W1 ⟨rfl, hb1⟩
 have h1 := heap_kept (e1 w) hb1
 have HB : Hid (Below w.heap.size w W1) := below_next (below_new _ _) hb1
 obtain ⟨c0, c1, c2, c3, c4, c5, c6, c7, c8, hlt⟩ := e2 W1 h1
 clear hb1 hc e1 h1 e2
 go_wp2
 all_goals
  go_ret
  refine ⟨ret_bool ?_, bel_al HB.out _⟩
  clear c0 c1 c2 c3 c4 c5 c6 c7 c8
  first
   | exact (show true = standsB b l i a c d e f g from (decide_eq_true ⟨HF.out, by omega, by omega, by omega, by omega, by omega, by omega⟩).symm)
   | exact (show false = standsB b l i a c d e f g from (decide_eq_false fun ⟨_, q1, q2, q3, q4, q5, q6⟩ => by omega).symm)
set_option maxRecDepth 20000 in
set_option maxHeartbeats 400000 in
theorem fits3_not (b l i a c d e f g : Int) (w : World) (hf : ¬ Fine b l i) :
  Calls Tryz.prog 138 #[.agg (lay9 b l i a c d e f g)] w fun e' w' => e' = .returned (.bool (standsB b l i a c d e f g)) ∧ Below w.heap.size w w' := by
 have hc := fun w => refOf_any b l i w
 rw [show ofV b l i = layZ from if_neg hf, show ofE b l i = 2 from if_neg hf] at hc
 have HF : Hid (¬ Fine b l i) := hf
 clear hf
 unfold layZ at hc
 unfold lay9 at *
 go_enter Tryz.func138, Tryz.ntmps138
 go_wp2_with (first | (go_at_call 73; fail))
 refine (hc _).mono ?_
 rintro e' W1 ⟨rfl, hb1⟩
 have HB : Hid (Below w.heap.size w W1) := below_next (below_new _ _) hb1
 clear hb1 hc
 go_wp2
 go_ret
 exact ⟨ret_bool (show false = standsB b l i a c d e f g from (decide_eq_false fun q => HF.out q.1).symm), bel_al HB.out _⟩
theorem fits3_any (b l i a c d e f g : Int) (w : World) :
  Calls Tryz.prog 138 #[.agg (lay9 b l i a c d e f g)] w fun e' w' => e' = .returned (.bool (standsB b l i a c d e f g)) ∧ Below w.heap.size w w' := by
 by_cases hf : Fine b l i
 ·exact fits3_fine b l i a c d e f g w hf
 ·exact fits3_not b l i a c d e f g w hf
end Go.Proofs.YtichojdcoegboaaGreatW.H
