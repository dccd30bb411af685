/- The group's blocks are held at their own places; no condition but that numbers do not pass their greatest. -/
import Derived.Test.YtglcliokhlafoaaLRun
namespace Go.Proofs.Ytglcliokhlafoaa
open Go.RowKit Go.Maps
variable {w W : World} {g d c mb : Nat} {v : Value} {x : LSt} {s : CSt} {t : St} {os ks : List (Nat × Obj)} {base : Nat} {book : Int → Nat → Int}
def putOps (book : Int → Nat → Int) (l : List Int) : List (Option Cel) := l.map fun k => some (k, book k)
theorem putOps_len (l : List Int) : (putOps book l).length = l.length := by simp [putOps]
theorem run_snoc {a : List (Option Cel)} {o : Option Cel} (h : runE a t = 0) : runE (a ++ [o]) t = dopE (runV a t) o ∧ runV (a ++ [o]) t = dopV (runV a t) o := by
  rw [runE_append, runV_append, if_pos h, if_pos h]
  constructor
  · show (if dopE (runV a t) o = 0 then 0 else dopE (runV a t) o) = _
    split
    · rename_i q; exact q.symm
    · rfl
  · show (if dopE (runV a t) o = 0 then dopV (runV a t) o else dopV (runV a t) o) = _
    split <;> rfl
theorem run_stop {a b : List (Option Cel)} {o : Option Cel} (h : runE a t = 0) (ho : dopE (runV a t) o ≠ 0) : runE (a ++ o :: b) t = dopE (runV a t) o ∧ runV (a ++ o :: b) t = dopV (runV a t) o := by
  rw [runE_append, runV_append, if_pos h, if_pos h]
  constructor
  · show (if dopE (runV a t) o = 0 then _ else dopE (runV a t) o) = _
    rw [if_neg ho]
  · show (if dopE (runV a t) o = 0 then _ else dopV (runV a t) o) = _
    rw [if_neg ho]
theorem LS.flush (h : LS w W g d c mb v x s t os ks) (hr : Room t) (k : Int) : Calls Try.prog 86 #[ptr c, .int .i64 k] W fun e W' => e = .returned (.int .i64 (flushE s t k)) ∧ LS w W' g d c mb v x (flushC s t k) (flushD s t k) os ks :=
  (sit_flush h.sit hr k).mono fun _ _ ⟨h1, h2⟩ => ⟨h1, h.step h2⟩
theorem LS.dbarrier (h : LS w W g d c mb v x s t os ks) (hr : Room t) : Calls Try.prog 43 #[ptr d] W fun e W' => e = .returned (.int .i64 (barE t)) ∧ LS w W' g d c mb v x s (barV t) os ks :=
  (dsit_barrier h.sit hr).mono fun _ _ ⟨h1, h2⟩ => ⟨h1, h.step h2⟩
/-- Behind the first i of them. -/
def PlI (w : World) (g d c mb : Nat) (v : Value) (x : LSt) (t : St) (book : Int → Nat → Int) (os ks : List (Nat × Obj)) (i : Nat) (wx : World) : Prop :=
  ∃ s', LS w wx g d c mb v x s' (runV (putOps book (x.blocks.take i)) t) os ks ∧ runE (putOps book (x.blocks.take i)) t = 0 ∧ CInv x.b x.l s' (runV (putOps book (x.blocks.take i)) t) book (fun k => decide (k ∈ x.blocks.drop i)) ∧ (fastN s'.row : Int) = x.blocks.length - i
theorem PlI.next {i : Nat} {wx : World} (h : PlI w g d c mb v x t book os ks i wx) (hs : t.stopped = false) (hnd : x.blocks.Nodup) (hrng : ∀ k ∈ x.blocks, Dat x.b x.l k) (hi : i < x.blocks.length) (hrm : Rm t (x.blocks.length + 2)) :
    Calls Try.prog 86 #[ptr c, .int .i64 x.blocks[i]] wx fun e W' => (e = .returned (.int .i64 0) ∧ PlI w g d c mb v x t book os ks (i + 1) W') ∨ (∃ E, E ≠ 0 ∧ e = .returned (.int .i64 E) ∧ runE (putOps book x.blocks ++ [none]) t = E ∧ ∃ s', LS w W' g d c mb v x s' (runV (putOps book x.blocks ++ [none]) t) os ks) := by
  obtain ⟨s', h1, h2, h3, h4⟩ := h
  have hmem : x.blocks[i] ∈ x.blocks := List.getElem_mem _
  have hD := hrng _ hmem
  have hdr : x.blocks.drop i = x.blocks[i] :: x.blocks.drop (i + 1) := List.drop_eq_getElem_cons hi
  have htk : x.blocks.take (i + 1) = x.blocks.take i ++ [x.blocks[i]] := by rw [List.take_add_one, List.getElem?_eq_getElem hi]; rfl
  have hall : x.blocks = x.blocks.take i ++ x.blocks[i] :: x.blocks.drop (i + 1) := by rw [← hdr, List.take_append_drop]
  have hnot : x.blocks[i] ∉ x.blocks.drop (i + 1) := by
    have hn2 := hnd
    rw [hall] at hn2
    exact (List.nodup_cons.1 (List.nodup_append.1 hn2).2.1).1
  generalize x.blocks[i] = k at *
  have hl2 : (putOps book (x.blocks.take i)).length = i := by rw [putOps_len, List.length_take]; omega
  have hRm : Rm (runV (putOps book (x.blocks.take i)) t) 1 := Rm.run (n := 1) (hrm.le (by rw [hl2]; omega))
  have hlv := run_live _ _ hs h2
  have hops : putOps book (x.blocks.take (i + 1)) = putOps book (x.blocks.take i) ++ [some (k, book k)] := by unfold putOps; rw [htk]; simp
  have hops2 : putOps book x.blocks ++ [none] = putOps book (x.blocks.take i) ++ some (k, book k) :: (putOps book (x.blocks.drop (i + 1)) ++ [none]) := by
    have : putOps book x.blocks = putOps book (x.blocks.take i) ++ some (k, book k) :: putOps book (x.blocks.drop (i + 1)) := by
      have e : putOps book x.blocks = putOps book (x.blocks.take i ++ k :: x.blocks.drop (i + 1)) := by rw [← hall]
      rw [e]; unfold putOps; simp
    rw [this]; simp
  have hF : decide (k ∈ x.blocks.drop i) = true := by rw [hdr]; simp
  obtain ⟨f1, f2⟩ := h3.flushed hlv hD hF
  refine (h1.flush (Rm.room hRm) k).mono ?_
  rintro e W' ⟨rfl, h5⟩
  rw [f1]
  rw [f2] at h5
  by_cases he : writeE (runV (putOps book (x.blocks.take i)) t) k = 0
  · obtain ⟨r1, r2⟩ := run_snoc (o := some (k, book k)) h2
    rw [← hops] at r1 r2
    have hl : lets (runV (putOps book (x.blocks.take i)) t) = true := by
      unfold writeE at he
      rw [if_pos (h3.ref hlv hD)] at he
      cases hq : lets (runV (putOps book (x.blocks.take i)) t)
      · rw [hq] at he; simp at he
      · rfl
    obtain ⟨a1, a2⟩ := h3.flush hlv hD hF hl h5.sit.ok.1
    refine .inl ⟨by rw [he], _, by rw [r2]; exact h5, by rw [r1]; exact he, ?_, by rw [a2, h4]; omega⟩
    rw [r2]
    have hfun : (fun j => decide (j ∈ x.blocks.drop (i + 1))) = (fun j => if j = k then false else decide (j ∈ x.blocks.drop i)) := by
      funext j
      by_cases ej : j = k
      · rw [if_pos ej, ej]; exact decide_eq_false hnot
      · rw [if_neg ej, hdr]; simp [ej]
    rw [hfun]
    exact a1
  · obtain ⟨r1, r2⟩ := run_stop (o := some (k, book k)) (b := putOps book (x.blocks.drop (i + 1)) ++ [none]) h2 he
    rw [← hops2] at r1 r2
    exact .inr ⟨_, he, rfl, r1, _, by rw [r2]; exact h5⟩
set_option maxRecDepth 20000 in
set_option maxHeartbeats 1600000 in
theorem LS.toPlaces (h : LS w W g d c mb v x s t os ks) (hc : CInv x.b x.l s t book (inB x)) (hf : (fastN s.row : Int) = x.blocks.length) (hs : t.stopped = false) (hnd : x.blocks.Nodup) (hrng : ∀ k ∈ x.blocks, Dat x.b x.l k) (hrm : Rm t (x.blocks.length + 2)) (hn : x.blocks.length ≤ 256) :
    Calls Try.prog 69 #[ptr g] W fun e W' => e = .returned (.int .i64 (runE (putOps book x.blocks ++ [none]) t)) ∧ ∃ s', LS w W' g d c mb v x s' (runV (putOps book x.blocks ++ [none]) t) os ks ∧ (runE (putOps book x.blocks ++ [none]) t = 0 → CInv x.b x.l s' (runV (putOps book x.blocks ++ [none]) t) book (fun _ => false) ∧ (fastN s'.row : Int) = 0) := by
  have c13 := h.log.c13
  obtain ⟨p, cp, hv, hints, _, _⟩ := h.log.own.ints
  have HI : Hid (PlI w g d c mb v x t book os ks 0 W) := ⟨s, h, rfl, hc, by simpa using hf⟩
  have HN : Hid (∀ i wx y, PlI w g d c mb v x t book os ks i wx → x.blocks[i]? = some y → Calls Try.prog 86 #[ptr c, .int .i64 y] wx fun e W' => (e = .returned (.int .i64 0) ∧ PlI w g d c mb v x t book os ks (i + 1) W') ∨ (∃ E, E ≠ 0 ∧ e = .returned (.int .i64 E) ∧ runE (putOps book x.blocks ++ [none]) t = E ∧ ∃ s', LS w W' g d c mb v x s' (runV (putOps book x.blocks ++ [none]) t) os ks)) := fun i wx y h1 hy => by
    obtain ⟨hi, rfl⟩ := List.getElem?_eq_some_iff.1 hy
    exact h1.next hs hnd hrng hi hrm
  have HC : Hid (∀ i wx, PlI w g d c mb v x t book os ks i wx → wx.cell? ⟨g, 12, none⟩ = some (ptr c) ∧ wx.cell? ⟨g, 1, none⟩ = some (ptr d) ∧ (i < x.blocks.length → ∃ y b o, x.blocks[i]? = some y ∧ p = some ⟨b, o, none⟩ ∧ wx.cell? ⟨b, o + i, none⟩ = some (.int .i64 y))) := fun i wx h1 => by
    obtain ⟨s', h2, _⟩ := h1
    refine ⟨h2.log.c12, h2.log.c1, fun hi => ?_⟩
    obtain ⟨p', cp', hv', hints', _, _⟩ := h2.log.own.ints
    rw [hv] at hv'
    injection hv' with hv' _ _
    subst hv'
    obtain ⟨b, o, rfl, _, hcl⟩ := hints' (by omega)
    exact ⟨_, b, o, List.getElem?_eq_getElem hi, rfl, hcl i _ (List.getElem?_eq_getElem hi)⟩
  have HE : Hid (∀ wx, PlI w g d c mb v x t book os ks x.blocks.length wx → Calls Try.prog 43 #[ptr d] wx fun e W' => e = .returned (.int .i64 (runE (putOps book x.blocks ++ [none]) t)) ∧ ∃ s', LS w W' g d c mb v x s' (runV (putOps book x.blocks ++ [none]) t) os ks ∧ (runE (putOps book x.blocks ++ [none]) t = 0 → CInv x.b x.l s' (runV (putOps book x.blocks ++ [none]) t) book (fun _ => false) ∧ (fastN s'.row : Int) = 0)) := fun wx h1 => by
    obtain ⟨s', h2, h3, h4, h5⟩ := h1
    rw [List.take_length] at h2 h3 h4
    rw [List.drop_length] at h4
    have hRm : Rm (runV (putOps book x.blocks) t) 1 := Rm.run (n := 1) (hrm.le (by rw [putOps_len]; omega))
    obtain ⟨r1, r2⟩ := run_snoc (o := none) h3
    refine (h2.dbarrier (Rm.room hRm)).mono ?_
    rintro e W' ⟨rfl, h6⟩
    rw [r1, r2]
    refine ⟨rfl, s', h6, fun he => ⟨?_, by rw [h5]; omega⟩⟩
    have hok := h2.sit.ok.2
    have hb : barV (runV (putOps book x.blocks) t) = barS (runV (putOps book x.blocks) t) := by
      have he : barE (runV (putOps book x.blocks) t) = 0 := he
      unfold barE at he
      unfold barV
      split at he
      · omega
      · rename_i q
        rw [if_neg q]
        split at he
        · rename_i q2; rw [if_pos q2]
        · omega
    show CInv x.b x.l s' (barV (runV (putOps book x.blocks) t)) book _
    rw [hb]
    have h7 := h4.disk (barS_nums _).2.2.2.2.1 fun j _ => cur_bar hok j
    have hz : (fun k : Int => decide (k ∈ ([] : List Int))) = fun _ => false := by funext k; simp
    rw [hz] at h7
    exact h7
  clear h hc hf hs hnd hrng hrm hints
  subst hv
  unfold ptr at *
  generalize hm : x.blocks.length = n at *
  go_enter Try.func69, Try.ntmps69
  go_wp2
  go_loopw [12] (fun s12 wx => ∃ k : Nat, k ≤ n ∧ s12 = .int .i64 k ∧ Hid (PlI w g d c mb (.slice p n cp) x t book os ks k wx)) (fun s12 _ => n - (intOf s12).toNat)
  case atStart => exact ⟨0, by omega, rfl, HI.out⟩
  case round =>
    obtain ⟨k, hk, rfl, HP⟩ := hrel
    obtain ⟨c12, c1, hidx⟩ := HC.out k wr HP.out
    by_cases hk2 : (k : Int) < n
    · have hkl : k < n := by omega
      obtain ⟨y, b0, o0, hy, rfl, hcl⟩ := hidx hkl
      have HN2 := Hid.mk' (HN.out k wr y HP.out hy)
      clear hidx HN HC HE HI c13 HP c1 hy
      go_wp2_with (go_at_call 86; fail)
      refine HN2.out.mono ?_
      rintro e W1 (⟨rfl, h1⟩ | ⟨E, hE, rfl, hE2, h1⟩)
      · have H1 := Hid.mk' h1
        clear h1 HN2
        go_wp2
        exact ⟨⟨k + 1, by omega, by go_num, H1.out⟩, by simp [intOf]; omega⟩
      · have H1 := Hid.mk' h1
        have H2 := Hid.mk' hE2
        clear h1 hE2 HN2
        go_wp2
        go_ret
        obtain ⟨s', h3⟩ := H1.out
        exact ⟨congrArg (fun z => Ending.returned (.int .i64 z)) H2.out.symm, s', h3, fun q => absurd (H2.out.symm.trans q) hE⟩
    · obtain rfl : k = n := by omega
      have HE2 := Hid.mk' (HE.out wr HP.out)
      clear hidx HN HC HE HI c13 HP
      go_wp2_with (go_at_call 43; fail)
      refine HE2.out.mono ?_
      rintro e W1 ⟨rfl, h1⟩
      have H1 := Hid.mk' h1
      clear h1 HE2
      go_wp2
      go_ret
      exact ⟨rfl, H1.out⟩
end Go.Proofs.Ytglcliokhlafoaa
