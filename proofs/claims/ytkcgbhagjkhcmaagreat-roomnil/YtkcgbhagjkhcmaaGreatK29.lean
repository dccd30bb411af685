/- Several texts joined, each with its own remark; no condition. -/
import Derived.Test.YtkcgbhagjkhcmaaGreatK28
import Derived.Test.YtkcgbhagjkhcmaaGreatK14
/- The least free block of a disk of one sheet: room's leastFree. -/
namespace Go.Proofs.YtkcgbhagjkhcmaaGreat
open Go.RowKit Go.Maps
section
variable {w W : World} {g d : Nat} {x : Go.Proofs.YtkcgbhagjkhcmaaGreatW.LSt} {t : Go.Proofs.YtkcgbhagjkhcmaaGreatW.St} {book : Int → Nat → Int} {ks : List (Nat × Obj)}
set_option maxRecDepth 20000 in
set_option maxHeartbeats 1600000 in
theorem leastFree_ok (h : Go.Proofs.YtkcgbhagjkhcmaaGreatW.LogI w W g d x t book ks) (hc : Go.Proofs.YtkcgbhagjkhcmaaGreatW.chkE x t = 0) (hs : t.stopped = false) (hr : Go.Proofs.YtkcgbhagjkhcmaaGreatW.Room t) (hbb : Go.Proofs.YtkcgbhagjkhcmaaGreatW.H.bitsB x.b = 1) (hba : 0 ≤ Go.Proofs.YtkcgbhagjkhcmaaGreatW.H.bitsAt x.l x.i ∧ Go.Proofs.YtkcgbhagjkhcmaaGreatW.H.bitsAt x.l x.i ≤ 1000000) (hk : Go.Proofs.YtkcgbhagjkhcmaaGreatW.Dat x.b x.l (Go.Proofs.YtkcgbhagjkhcmaaGreatW.H.bitsAt x.l x.i + 0)) (hda : 0 ≤ Go.Proofs.YtkcgbhagjkhcmaaGreatW.H.dataAt x.b x.l x.i ∧ Go.Proofs.YtkcgbhagjkhcmaaGreatW.H.dataAt x.b x.l x.i ≤ 1000000 ∧ 0 ≤ x.b ∧ x.b ≤ 1048576) {r : Int} (hrr : 0 < r ∧ r ≤ 8192)
    (hh : ∀ V, Calls Tryz.prog 63 #[.agg (blk (book (Go.Proofs.YtkcgbhagjkhcmaaGreatW.H.bitsAt x.l x.i + 0))), .int .i64 (Go.Proofs.YtkcgbhagjkhcmaaGreatW.H.dataAt x.b x.l x.i - 0 * 8192), .int .i64 (x.b - 0 * 8192)] V fun e V' => e = .returned (.int .i64 r) ∧ Below V.heap.size V V') :
    Calls Tryz.prog 27 #[.pointer (some ⟨g, 0, none⟩)] W fun e W' => e = .returned (.tuple #[.int .i64 (0 * 8192 + r), .int .i64 0]) ∧ ∃ t', (t' = t ∨ t' = Go.Proofs.YtkcgbhagjkhcmaaGreatW.readS t) ∧ Go.Proofs.YtkcgbhagjkhcmaaGreatW.LogI w W' g d x t' book ks := by
  have zl := zeroLay
  have hmf : ∀ (fn : Fn) (first cap : Array Value) (w : World), (Instr.makeFunc fn first cap).run Tryz.prog w = .ok (.func fn first cap) w := fun _ _ _ _ => rfl
  have HS0 : Hid (w.heap.size ≤ W.heap.size) := (Go.Proofs.YtkcgbhagjkhcmaaGreatW.LogI.below h).size
  have hlay := layoutL_ok h hc
  have HSe : Hid (∀ V gy gz o2, w.heap.size ≤ gz → (∀ p ∈ ks, p.1 ≠ gz) → gy ≠ gz → Go.Proofs.YtkcgbhagjkhcmaaGreatW.LogI w V g d x t book ((gz, .cells #[.int .i64 0] 3) :: (gy, .cells (layRow (layL x)) 49) :: ks) → o2 = (0 : Nat) → Calls Tryz.prog 34 #[.pointer (some ⟨g, 0, none⟩), .func (.func 62) #[] #[.pointer (some ⟨gy, 0, none⟩), .pointer (some ⟨gz, 0, none⟩)]] V fun e V' => e = .returned (.int .i64 0) ∧ (V'.heap[gz]? = some (.cells #[.int .i64 (0 * 8192 + r)] 3) ∧ ∃ t', (t' = t ∨ t' = Go.Proofs.YtkcgbhagjkhcmaaGreatW.readS t) ∧ Go.Proofs.YtkcgbhagjkhcmaaGreatW.LogI w V' g d x t' book ks)) := by
    intro V gy gz _ hgz hkz hne hV _
    refine searchLf_ok hV hc hs hr hbb hba hk gy gz _ fun U t' ht' hU => ?_
    refine (lf1_ok (y := layL x) (Go.Proofs.YtkcgbhagjkhcmaaGreatW.LogI.obj hU (List.mem_cons_of_mem _ (List.mem_cons_self ..))) (Go.Proofs.YtkcgbhagjkhcmaaGreatW.LogI.obj hU (List.mem_cons_self ..)) (by omega) hda ⟨by omega, hrr.2⟩ (by omega) hh).mono ?_
    rintro e U' ⟨rfl, h1, h2⟩
    refine ⟨rfl, h1, t', ht', ?_⟩
    have hF : Go.Proofs.YtkcgbhagjkhcmaaGreatW.Fr (fun k => k = gz) U U' := ⟨h2.os, h2.tape, h2.output, h2.size, h2.block⟩
    have := logI_beside hU hF hgz (fun p hp => by
      rcases List.mem_cons.1 hp with rfl | hp
      · exact hne
      · exact hkz p hp)
    exact Go.Proofs.YtkcgbhagjkhcmaaGreatW.LogI.drop this fun p hp => List.mem_cons_of_mem _ hp
  have HKs : Hid _ := logI_ks h
  clear h hc hs hr hbb hba hk hda hh
  generalize hyL : layL x = y at *
  clear hyL
  obtain ⟨res, hrs⟩ : ∃ res, (0 : Int) * 8192 + r = res := ⟨_, rfl⟩
  have hrp : 0 < res := by omega
  simp only [hrs] at HSe ⊢
  clear hrs hrr
  go_enter Tryz.func27, Tryz.ntmps27
  go_wp2_with (go_at_call 33; fail)
  refine hlay.mono ?_
  rintro e V1 ⟨rfl, hL1⟩
  have hks1 := logI_ks hL1
  have hL2 := Go.Proofs.YtkcgbhagjkhcmaaGreatW.LogI.add hL1 (.cells (layRow y) 49)
  have hL3 := Go.Proofs.YtkcgbhagjkhcmaaGreatW.LogI.add hL2 (.cells #[.int .i64 0] 3)
  have hs1 : (V1.alloc (.cells (layRow y) 49)).heap.size = V1.heap.size + 1 := by simp
  rw [hs1] at hL3
  have hw1 := (Go.Proofs.YtkcgbhagjkhcmaaGreatW.LogI.below hL1).size
  have hks2 := logI_ks hL2
  rw [hs1] at hks2
  have hse := HSe.out _ V1.heap.size (V1.heap.size + 1) 0 (by omega) (fun p hp => hks2 p (List.mem_cons_of_mem _ hp)) (by omega) hL3 rfl
  clear hlay hL1 hL2 hL3 hks1 hks2 HSe
  go_upto_region 2 with (first | (with_reducible refine isStoreR 49 ?_; refine wpList_stNew 49 rfl (.tmp 4) (.tmp 8) rfl V1.heap.size (layRow y) (layRow lay0) 49 (lay_info _) (lay_two _ _) (lay_one _) rfl rfl rfl ?_))
  go_upto_region 3 with fail
  generalize (V1.alloc (.cells (layRow y) 49)).alloc (.cells #[.int .i64 0] 3) = V3 at *
  generalize V1.heap.size = gy at *
  go_wp2_with (go_at_call 34; fail)
  refine hse.mono ?_
  rintro e V4 ⟨rfl, hz, t', ht', hL4⟩
  have z0 : V4.cell? ⟨gy + 1, 0, none⟩ = some (.int .i64 res) := Joins.cell_of_block hz 0
  have HL : Hid _ := hL4
  have HT : Hid _ := ht'
  have hres : (res == 0) = false := by simp; omega
  clear hse hz hL4 ht'
  go_wp2
  exact bodyPost_ret (results_tmp2 rfl _ _ _) rfl ⟨rfl, t', HT.out, HL.out⟩
end
end Go.Proofs.YtkcgbhagjkhcmaaGreat
/- The bits of a disk's one sheet as a plain predicate; the least free block, how many are used, a bit set. -/
namespace Go.Proofs.YtkcgbhagjkhcmaaGreat
open Go.RowKit Go.Maps
/-- The sheet's bit j is p j. -/
def Bp (f : Nat → Int) (p : Nat → Bool) : Prop := Go.Proofs.YtkcgbhagjkhcmaaGreatW.Can f ∧ ∀ j, j < 8192 → Go.Proofs.YtkcgbhagjkhcmaaGreatV.bit f j = p j
theorem Bp.byte {f : Nat → Int} {p : Nat → Bool} (h : Bp f p) : Go.Proofs.YtkcgbhagjkhcmaaGreatV.Byte f := h.1.1
theorem Bp.byt {f : Nat → Int} {p : Nat → Bool} (h : Bp f p) : Byt f := h.1.1
theorem Bp.has {f : Nat → Int} {p : Nat → Bool} (h : Bp f p) (j : Nat) (hj : j < 8192) : hasP f j = p j := by rw [← bitV h.byt, h.2 j hj]
theorem Bp.set {f : Nat → Int} {p : Nat → Bool} (h : Bp f p) (k : Nat) (hk : k < 8192) (on : Bool) : Bp (Go.Proofs.YtkcgbhagjkhcmaaGreatV.setB f (k : Int) on) (fun j => if j = k then on else p j) := by
  refine ⟨⟨Go.Proofs.YtkcgbhagjkhcmaaGreatV.byte_setB h.byte _ _, fun i hi => ?_⟩, fun j hj => ?_⟩
  · rw [Go.Proofs.YtkcgbhagjkhcmaaGreatV.setB_in f k on hk]
    unfold Go.Proofs.YtkcgbhagjkhcmaaGreatV.setN Go.Proofs.YtkcgbhagjkhcmaaGreatV.upd
    rw [if_neg (by omega)]
    exact h.1.2 i hi
  · have e := Go.Proofs.YtkcgbhagjkhcmaaGreatV.has_setB f (k : Int) (j : Int) on
    unfold Go.Proofs.YtkcgbhagjkhcmaaGreatV.has at e
    rw [decide_eq_true (by omega), Bool.true_and, Bool.true_and, Int.toNat_natCast, h.2 j hj] at e
    rw [e]
    show _ = if j = k then on else p j
    by_cases q : j = k
    · rw [if_pos ⟨by omega, by omega, by omega⟩, if_pos q]
    · rw [if_neg (by omega), if_neg q]
theorem Bp.first {f : Nat → Int} {p : Nat → Bool} (h : Bp f p) (a b r : Nat) (h1 : a ≤ r ∧ r < b) (hb : b ≤ 8192) (hr : p r = false) (hl : ∀ j, a ≤ j → j < r → p j = true) : Go.Proofs.YtkcgbhagjkhcmaaGreatV.firstZ f (a : Int) (b : Int) = (r : Int) := by
  refine Go.Proofs.YtkcgbhagjkhcmaaGreatV.firstZ_some f _ _ r (by omega) ?_ fun i hi => ?_
  · unfold Go.Proofs.YtkcgbhagjkhcmaaGreatV.hole
    rw [h.2 r (by omega), hr, decide_eq_true (by omega)]
    rfl
  · unfold Go.Proofs.YtkcgbhagjkhcmaaGreatV.hole
    by_cases q : a ≤ i
    · rw [h.2 i (by omega), hl i q hi, Bool.not_true, Bool.and_false]
    · rw [decide_eq_false (by omega), Bool.false_and]
/-- The sheet whose bits below k are 1, and no other. -/
def Bm (f : Nat → Int) (k : Nat) : Prop := Bp f (fun j => decide (j < k))
theorem ones_bm {f : Nat → Int} {k : Nat} (h : Bm f k) (a b : Nat) (hk : a ≤ k ∧ k ≤ b) (hb : b ≤ 8192) : ∀ c, a ≤ c → c ≤ k → (Go.Proofs.YtkcgbhagjkhcmaaGreatV.ones f (a : Int) (b : Int) c).length = c - a
  | 0, h1, _ => by rw [Go.Proofs.YtkcgbhagjkhcmaaGreatV.ones_start f a b 0 (by omega)]; simp
  | c + 1, h1, h2 => by
    rw [Go.Proofs.YtkcgbhagjkhcmaaGreatV.ones_succ]
    by_cases q : a ≤ c
    · have hi : Go.Proofs.YtkcgbhagjkhcmaaGreatV.ind f (a : Int) (b : Int) c = true := by
        unfold Go.Proofs.YtkcgbhagjkhcmaaGreatV.ind
        rw [h.2 c (by omega), decide_eq_true (by omega), Bool.true_and]
        exact decide_eq_true (by omega)
      rw [if_pos hi, List.length_append, ones_bm h a b hk hb c q (by omega)]
      simp only [List.length_cons, List.length_nil]
      omega
    · have hi : ¬ Go.Proofs.YtkcgbhagjkhcmaaGreatV.ind f (a : Int) (b : Int) c = true := by
        unfold Go.Proofs.YtkcgbhagjkhcmaaGreatV.ind
        rw [decide_eq_false (by omega), Bool.false_and]
        simp
      rw [if_neg hi, List.append_nil, Go.Proofs.YtkcgbhagjkhcmaaGreatV.ones_start f a b c (by omega)]
      simp
      omega
theorem Bm.ones {f : Nat → Int} {k : Nat} (h : Bm f k) (a b : Nat) (hk : a ≤ k ∧ k ≤ b) (hb : b ≤ 8192) : (Go.Proofs.YtkcgbhagjkhcmaaGreatV.ones f (a : Int) (b : Int) 8192).length = k - a := by
  rw [Go.Proofs.YtkcgbhagjkhcmaaGreatV.ones_same f a b k 8192 (by omega) fun i h1 h2 => ?_]
  · exact ones_bm h a b hk hb k hk.1 (Nat.le_refl _)
  · unfold Go.Proofs.YtkcgbhagjkhcmaaGreatV.ind
    rw [h.2 i h2, show (fun j => decide (j < k)) i = false from decide_eq_false (by omega), Bool.and_false]
theorem Bp.congr {f : Nat → Int} {p q : Nat → Bool} (h : Bp f p) (e : ∀ j, p j = q j) : Bp f q := ⟨h.1, fun j hj => (h.2 j hj).trans (e j)⟩
theorem bm_E : Bm B0 39 := ⟨canE (37, B0) (by simp [imE]), fun j hj => by rw [bitV (imE_byt (37, B0) (by simp [imE])), b0_has]⟩
end Go.Proofs.YtkcgbhagjkhcmaaGreat
/- A log that lives and may go on, its disk's state hidden; the example's geometry. -/
namespace Go.Proofs.YtkcgbhagjkhcmaaGreat
open Go.RowKit Go.Maps
/-- The log at g lives, its disk may be read n times more, and its disk's state is left open. -/
structure RLog (w W : World) (g d : Nat) (x : Go.Proofs.YtkcgbhagjkhcmaaGreatW.LSt) (book : Int → Nat → Int) (n : Nat) (ks : List (Nat × Obj)) : Prop where
  ex : ∃ t, Go.Proofs.YtkcgbhagjkhcmaaGreatW.LogI w W g d x t book ks ∧ Go.Proofs.YtkcgbhagjkhcmaaGreatW.claimedV t x.claim = true ∧ Go.Proofs.YtkcgbhagjkhcmaaGreatW.Rm t (n + 1)
/-- The document's example's geometry. -/
structure Ge (x : Go.Proofs.YtkcgbhagjkhcmaaGreatW.LSt) : Prop where
  b : x.b = 400
  l : x.l = 32
  i : x.i = 60
theorem Ge.bitsAt {x : Go.Proofs.YtkcgbhagjkhcmaaGreatW.LSt} (h : Ge x) : Go.Proofs.YtkcgbhagjkhcmaaGreatW.H.bitsAt x.l x.i = 37 := by rw [h.l, h.i]; rfl
theorem Ge.dataAt {x : Go.Proofs.YtkcgbhagjkhcmaaGreatW.LSt} (h : Ge x) : Go.Proofs.YtkcgbhagjkhcmaaGreatW.H.dataAt x.b x.l x.i = 38 := by rw [h.b, h.l, h.i]; rfl
theorem Ge.bitsB {x : Go.Proofs.YtkcgbhagjkhcmaaGreatW.LSt} (h : Ge x) : Go.Proofs.YtkcgbhagjkhcmaaGreatW.H.bitsB x.b = 1 := by rw [h.b]; rfl
section
variable {w W W' : World} {g d n : Nat} {x : Go.Proofs.YtkcgbhagjkhcmaaGreatW.LSt} {t : Go.Proofs.YtkcgbhagjkhcmaaGreatW.St} {book : Int → Nat → Int} {ks ks' : List (Nat × Obj)}
theorem Ge.dat (h : Ge x) {k : Int} (hk : 33 ≤ k ∧ k < 400) : Go.Proofs.YtkcgbhagjkhcmaaGreatW.Dat x.b x.l k := by
  unfold Go.Proofs.YtkcgbhagjkhcmaaGreatW.Dat
  rw [h.b, h.l]
  omega
theorem chk_of (h : Go.Proofs.YtkcgbhagjkhcmaaGreatW.claimedV t x.claim = true) : Go.Proofs.YtkcgbhagjkhcmaaGreatW.chkE x t = 0 := by unfold Go.Proofs.YtkcgbhagjkhcmaaGreatW.chkE; rw [if_pos h]
theorem ref_of {o : Bool} (h : Go.Proofs.YtkcgbhagjkhcmaaGreatW.claimedV t x.claim = true) (ho : x.opn = o) : Go.Proofs.YtkcgbhagjkhcmaaGreatW.refL x t o = 0 := by unfold Go.Proofs.YtkcgbhagjkhcmaaGreatW.refL; rw [if_pos h, if_pos ho]
theorem rm_read (h : Go.Proofs.YtkcgbhagjkhcmaaGreatW.Rm t (n + 1)) : Go.Proofs.YtkcgbhagjkhcmaaGreatW.Rm (Go.Proofs.YtkcgbhagjkhcmaaGreatW.readS t) n := by
  obtain ⟨h1, h2, h3, h4⟩ := h
  refine ⟨?_, ?_, ?_, ?_⟩
  · show t.ops.length + n < _; omega
  · show t.made + n < _; omega
  · show t.reads + 1 + n < _; omega
  · show t.claims + n < _; omega
theorem RLog.of {t' : Go.Proofs.YtkcgbhagjkhcmaaGreatW.St} (ht : t' = t ∨ t' = Go.Proofs.YtkcgbhagjkhcmaaGreatW.readS t) (hc : Go.Proofs.YtkcgbhagjkhcmaaGreatW.claimedV t x.claim = true) (hr : Go.Proofs.YtkcgbhagjkhcmaaGreatW.Rm t (n + 1 + 1)) (h : Go.Proofs.YtkcgbhagjkhcmaaGreatW.LogI w W g d x t' book ks) : RLog w W g d x book n ks := by
  rcases ht with rfl | rfl
  · exact ⟨_, h, hc, hr.le (by omega)⟩
  · exact ⟨_, h, hc, rm_read hr⟩
theorem RLog.later (h : RLog w W g d x book n ks) (hb : Below W.heap.size W W') : RLog w W' g d x book n ks := by
  obtain ⟨t, h, h1, h2⟩ := h
  exact ⟨t, h.later hb, h1, h2⟩
theorem RLog.add (h : RLog w W g d x book n ks) (o : Obj) : RLog w (W.alloc o) g d x book n ((W.heap.size, o) :: ks) := by
  obtain ⟨t, h, h1, h2⟩ := h
  exact ⟨t, h.add o, h1, h2⟩
theorem RLog.drop (h : RLog w W g d x book n ks) (hs : ∀ p ∈ ks', p ∈ ks) : RLog w W g d x book n ks' := by
  obtain ⟨t, h, h1, h2⟩ := h
  exact ⟨t, h.drop hs, h1, h2⟩
theorem RLog.obj (h : RLog w W g d x book n ks) {q : Nat} {o : Obj} (hm : (q, o) ∈ ks) : W.heap[q]? = some o := by
  obtain ⟨t, h, h1, h2⟩ := h
  exact h.obj hm
theorem RLog.below (h : RLog w W g d x book n ks) : Below w.heap.size w W := by
  obtain ⟨t, h, h1, h2⟩ := h
  exact h.below
theorem RLog.ksLt (h : RLog w W g d x book n ks) : ∀ p ∈ ks, p.1 ≠ W.heap.size := by
  obtain ⟨t, h, h1, h2⟩ := h
  exact logI_ks h
theorem RLog.beside {q : Nat} {o : Obj} (h : RLog w W g d x book n ((q, o) :: ks)) (hf : Fr (fun k => k = q) W W') (hq : w.heap.size ≤ q) (hks : ∀ p ∈ ks, p.1 ≠ q) : RLog w W' g d x book n ks := by
  obtain ⟨t, h, h1, h2⟩ := h
  exact ⟨t, logI_beside h ⟨hf.os, hf.tape, hf.output, hf.size, hf.block⟩ hq hks, h1, h2⟩
/-- What a write of block k makes of the log's books. -/
def WrX (x : Go.Proofs.YtkcgbhagjkhcmaaGreatW.LSt) (k : Int) (x' : Go.Proofs.YtkcgbhagjkhcmaaGreatW.LSt) : Prop := (Go.Proofs.YtkcgbhagjkhcmaaGreatW.byB x k x.steps = false ∧ x.room ≠ 0 ∧ x' = { Go.Proofs.YtkcgbhagjkhcmaaGreatW.changeL x k x.steps with room := x.room - 1 }) ∨ (Go.Proofs.YtkcgbhagjkhcmaaGreatW.byB x k x.steps = true ∧ x' = x)
theorem WrX.first {k : Int} (hb : Go.Proofs.YtkcgbhagjkhcmaaGreatW.byB x k x.steps = false) (hz : x.room ≠ 0) : WrX x k { Go.Proofs.YtkcgbhagjkhcmaaGreatW.changeL x k x.steps with room := x.room - 1 } := .inl ⟨hb, hz, rfl⟩
theorem WrX.again {k : Int} (hb : Go.Proofs.YtkcgbhagjkhcmaaGreatW.byB x k x.steps = true) : WrX x k x := .inr ⟨hb, rfl⟩
theorem WrX.same {x' : Go.Proofs.YtkcgbhagjkhcmaaGreatW.LSt} {k : Int} (h : WrX x k x') : x'.b = x.b ∧ x'.l = x.l ∧ x'.i = x.i ∧ x'.claim = x.claim ∧ x'.opn = x.opn ∧ x'.steps = x.steps ∧ x'.commits = x.commits := by
  rcases h with ⟨_, _, rfl⟩ | ⟨_, rfl⟩
  · exact ⟨rfl, rfl, rfl, rfl, rfl, rfl, rfl⟩
  · exact ⟨rfl, rfl, rfl, rfl, rfl, rfl, rfl⟩
theorem WrX.ge {x' : Go.Proofs.YtkcgbhagjkhcmaaGreatW.LSt} {k : Int} (h : WrX x k x') (hg : Ge x) : Ge x' := by
  obtain ⟨h1, h2, h3, _⟩ := h.same
  exact ⟨h1.trans hg.b, h2.trans hg.l, h3.trans hg.i⟩
theorem RLog.write {x' : Go.Proofs.YtkcgbhagjkhcmaaGreatW.LSt} {k : Int} {f : Nat → Int} (h : RLog w W g d x book n ks) (hf : Go.Proofs.YtkcgbhagjkhcmaaGreatW.Can f) (ho : x.opn = true) (hg : Ge x) (hk : 33 ≤ k ∧ k < 400) (hx : WrX x k x') :
    Calls Tryz.prog 28 #[.pointer (some ⟨g, 0, none⟩), .int .i64 k, .agg (blk f)] W fun e W' => e = .returned (.int .i64 0) ∧ RLog w W' g d x' (fun j => if j = k then f else book j) n ks := by
  obtain ⟨t, h, h1, h2⟩ := h
  have hk' : 1 + x.l ≤ k ∧ k < x.b := by rw [hg.l, hg.b]; omega
  rw [← blkW]
  rcases hx with ⟨hb, hz, rfl⟩ | ⟨hb, rfl⟩
  · refine (h.write hf (ref_of h1 ho) hk' hb hz).mono ?_
    rintro e W' ⟨rfl, h3⟩
    exact ⟨rfl, t, h3, h1, h2⟩
  · refine (h.rewrite hf (ref_of h1 ho) hk' hb).mono ?_
    rintro e W' ⟨rfl, h3⟩
    exact ⟨rfl, t, h3, h1, h2⟩
theorem RLog.begin (h : RLog w W g d x book n ks) (ho : x.opn = false) (hg : Ge x) {r : Int} (hr : 1 ≤ r) (hr2 : (x.blocks.length : Int) + r ≤ 31) :
    Calls Tryz.prog 10 #[.pointer (some ⟨g, 0, none⟩), .int .i64 r] W fun e W' => e = .returned (.int .i64 0) ∧ RLog w W' g d { x with opn := true, room := r } book n ks := by
  obtain ⟨t, h, h1, h2⟩ := h
  refine (h.begin (ref_of h1 ho) hr (by rw [hg.l]; exact hr2)).mono ?_
  rintro e W' ⟨rfl, h3⟩
  exact ⟨rfl, t, h3, h1, h2⟩
theorem RLog.ends (h : RLog w W g d x book n ks) (ho : x.opn = true) (hs : x.steps < 1099511627776) :
    Calls Tryz.prog 13 #[.pointer (some ⟨g, 0, none⟩)] W fun e W' => e = .returned (.int .i64 0) ∧ RLog w W' g d (Go.Proofs.YtkcgbhagjkhcmaaGreatW.endX x) book n ks := by
  obtain ⟨t, h, h1, h2⟩ := h
  refine (h.ends (ref_of h1 ho) hs).mono ?_
  rintro e W' ⟨rfl, h3⟩
  exact ⟨rfl, t, h3, h1, h2⟩
theorem RLog.check (h : RLog w W g d x book n ks) : Calls Tryz.prog 23 #[.pointer (some ⟨g, 0, none⟩)] W fun e W' => e = .returned (.int .i64 0) ∧ RLog w W' g d x book n ks := by
  obtain ⟨t, h, h1, h2⟩ := h
  refine (logI_chk h (chk_of h1)).mono ?_
  rintro e W' ⟨rfl, h3⟩
  exact ⟨rfl, t, h3, h1, h2⟩
theorem RLog.layout (h : RLog w W g d x book n ks) : Calls Tryz.prog 33 #[.pointer (some ⟨g, 0, none⟩)] W fun e W' => e = .returned (.agg (layRow (layL x))) ∧ RLog w W' g d x book n ks := by
  obtain ⟨t, h, h1, h2⟩ := h
  refine (layoutL_ok h (chk_of h1)).mono ?_
  rintro e W' ⟨rfl, h3⟩
  exact ⟨rfl, t, h3, h1, h2⟩
/-- A sheet read: the bitmap's one block. -/
theorem RLog.sheetOf (h : RLog w W g d x book (n + 1) ks) (hg : Ge x) (at' : Int) (hat : 38 ≤ at' ∧ at' < 400) :
    Calls Tryz.prog 24 #[.pointer (some ⟨g, 0, none⟩), .int .i64 at'] W fun e W' => e = .returned (.tuple #[.agg (shRow 37 0 (book 37)), .int .i64 0]) ∧ RLog w W' g d x book n ks := by
  obtain ⟨t, h, h1, h2⟩ := h
  have e := sheetOf_ok h (chk_of h1) (Go.Proofs.YtkcgbhagjkhcmaaGreatW.claimed_live h1) h2.room at' (by rw [hg.dataAt, hg.b]; omega) (by rw [hg.bitsAt]; omega) (hg.dat (by rw [hg.bitsAt]; omega))
  rw [hg.bitsAt] at e
  refine e.mono ?_
  rintro e W' ⟨rfl, t', ht, h3⟩
  exact ⟨rfl, .of ht h1 h2 h3⟩
theorem RLog.used (h : RLog w W g d x book (n + 1) ks) (hg : Ge x) {p : Nat → Bool} (hb : Bp (book 37) p) (k : Nat) (hk : 38 ≤ k ∧ k < 400) :
    Calls Tryz.prog 8 #[.pointer (some ⟨g, 0, none⟩), .int .i64 (k : Int)] W fun e W' => e = .returned (.tuple #[.bool (p k), .int .i64 0]) ∧ RLog w W' g d x book n ks := by
  obtain ⟨t, h, h1, h2⟩ := h
  have e := usedR_ok h (chk_of h1) (Go.Proofs.YtkcgbhagjkhcmaaGreatW.claimed_live h1) h2.room (k : Int) (by rw [hg.dataAt, hg.b]; omega) (by rw [hg.bitsAt]; omega) (hg.dat (by rw [hg.bitsAt]; omega)) (r := p k) (fun V => by
    rw [hg.bitsAt, show (k : Int) - 0 * 8192 = (k : Int) by omega, ← hb.has k (by omega)]
    exact hasV hb.byt k (by omega) V)
  refine e.mono ?_
  rintro e W' ⟨rfl, t', ht, h3⟩
  exact ⟨rfl, .of ht h1 h2 h3⟩
theorem RLog.least (h : RLog w W g d x book (n + 1) ks) (hg : Ge x) {p : Nat → Bool} (hb : Bp (book 37) p) (k : Nat) (hk : 38 ≤ k ∧ k < 400) (hp : p k = false) (hl : ∀ j, 38 ≤ j → j < k → p j = true) :
    Calls Tryz.prog 27 #[.pointer (some ⟨g, 0, none⟩)] W fun e W' => e = .returned (.tuple #[.int .i64 (k : Int), .int .i64 0]) ∧ RLog w W' g d x book n ks := by
  obtain ⟨t, h, h1, h2⟩ := h
  have e := leastFree_ok h (chk_of h1) (Go.Proofs.YtkcgbhagjkhcmaaGreatW.claimed_live h1) h2.room hg.bitsB (by rw [hg.bitsAt]; omega) (hg.dat (by rw [hg.bitsAt]; omega)) (by rw [hg.dataAt, hg.b]; omega) (r := (k : Int)) (by omega) (fun V => by
    rw [hg.bitsAt, hg.dataAt, hg.b, show (38 : Int) - 0 * 8192 = ((38 : Nat) : Int) by omega, show (400 : Int) - 0 * 8192 = ((400 : Nat) : Int) by omega, ← hb.first 38 400 k hk (by omega) hp hl, ← blkV]
    exact Go.Proofs.YtkcgbhagjkhcmaaGreatV.first_any _ hb.byte _ _ V)
  refine e.mono ?_
  rintro e W' ⟨rfl, t', ht, h3⟩
  exact ⟨by rw [show (0 : Int) * 8192 + (k : Int) = (k : Int) by omega], .of ht h1 h2 h3⟩
end
end Go.Proofs.YtkcgbhagjkhcmaaGreat
/- How many blocks are free: the closure that room's Free hands to search. -/
namespace Go.Proofs.YtkcgbhagjkhcmaaGreat
open Go.RowKit Go.Maps
set_option maxRecDepth 20000 in
set_option maxHeartbeats 2000000 in
theorem fr1_ok {W : World} {gy gz : Nat} {y : Lay} {a b0 z c : Int} {f : Nat → Int} (hy : W.heap[gy]? = some (.cells (layRow y) 49)) (hz : W.heap[gz]? = some (.cells #[.int .i64 z] 3)) (hb : 0 ≤ b0 ∧ b0 ≤ 1000000) (hyb : 0 ≤ y.dataAt ∧ y.dataAt ≤ 1000000 ∧ 0 ≤ y.b ∧ y.b ≤ 1048576) (hr : 0 ≤ c ∧ c ≤ 8192) (hzb : 0 ≤ z ∧ z ≤ 1048576)
    (hh : ∀ V, Calls Tryz.prog 36 #[.agg (blk f), .int .i64 (y.dataAt - b0), .int .i64 (y.b - b0)] V fun e V' => e = .returned (.int .i64 c) ∧ Below V.heap.size V V') :
    Calls Tryz.prog 35 #[.agg (shRow a b0 f), .pointer (some ⟨gz, 0, none⟩), .pointer (some ⟨gy, 0, none⟩)] W fun e W' => e = .returned (.bool false) ∧ W'.heap[gz]? = some (.cells #[.int .i64 (z - c)] 3) ∧ Fr (fun k => k = gz) W W' := by
  have hgz : gz < W.heap.size := (Array.getElem?_eq_some_iff.1 hz).1
  have hyz : gy ≠ gz := by
    rintro rfl
    rw [hy] at hz
    have := Option.some.inj hz
    simp [layRow] at this
  have e1 : IntKind.i64.wrap (y.dataAt - b0) = y.dataAt - b0 := by rw [IntKind.wrap_i64]; omega
  have e2 : IntKind.i64.wrap (y.b - b0) = y.b - b0 := by rw [IntKind.wrap_i64]; omega
  have e3 : IntKind.i64.wrap (z - c) = z - c := by rw [IntKind.wrap_i64]; omega
  have hX := heap_alloc_new W (.cells (shRow a b0 f) 78)
  have hbX := below_new W (.cells (shRow a b0 f) 78)
  have hsX : (W.alloc (.cells (shRow a b0 f) 78)).heap.size = W.heap.size + 1 := by simp
  have HY : Hid _ := heap_kept hy hbX
  have HZ : Hid _ := heap_kept hz hbX
  have HX : Hid _ := hX
  have HB : Hid _ := hbX
  have HH : Hid _ := hh
  clear hh hy hz hX hbX hb hyb hr hzb
  go_enter Tryz.func35, Tryz.ntmps35
  go_upto_region 1 with fail
  generalize W.alloc (.cells (shRow a b0 f) 78) = V at *
  have hS : V.drew.heap[gy]? = some (.cells (layRow y) 49) ∧ V.drew.heap[W.heap.size]? = some (.cells (shRow a b0 f) 78) := ⟨HY.out, HX.out⟩
  have hz0 : V.drew.heap[gz]? = some (.cells #[.int .i64 z] 3) := HZ.out
  have hB0 : Below W.heap.size W V.drew := HB.out.drew
  clear HY HX HZ HB
  refine wp_region_tree (S := fun u => u.heap[gy]? = some (.cells (layRow y) 49) ∧ u.heap[W.heap.size]? = some (.cells (shRow a b0 f) 78)) (rdT 1 (rdT 2 (rdT 3 (rdT 4 (rdT 5 (rdT 6 (rdT 7 (rdT 8 (rdT 9 (rdT 10 (rdT 11 (rdT 12 (rdT 13 (altT [(0, altT [(14, rdT 15 (altT [(16, finT)]))]), (14, altT [(0, rdT 15 (altT [(16, finT)]))])])))))))))))))) (by kernel_rfl) rfl (by kernel_rfl) (fun d _ _ _ _ h => by cases d <;> exact h) hS ?_
  generalize V.drew = U at *
  refine wpT_yield (v := .pointer (some ⟨W.heap.size, 2, none⟩)) rfl rfl (fun u _ => by go_simp) ?_
  simp only [Act.put, List.setIfInBounds_toArray, List.set_cons_succ, List.set_cons_zero]
  refine wpT_yield (v := .agg (blk f)) rfl rfl (fun u hu => exec_ldB rfl rfl (sh_blk hu.2)) ?_
  simp only [Act.put, List.setIfInBounds_toArray, List.set_cons_succ, List.set_cons_zero]
  refine wpT_yield (v := .pointer (some ⟨gy, 8, none⟩)) rfl rfl (fun u _ => by go_simp) ?_
  simp only [Act.put, List.setIfInBounds_toArray, List.set_cons_succ, List.set_cons_zero]
  refine wpT_yield (v := .int .i64 y.dataAt) rfl rfl (fun u hu => by have hc : u.cell? ⟨gy, 8, none⟩ = some (.int .i64 y.dataAt) := Joins.cell_of_block hu.1 8; go_simp) ?_
  simp only [Act.put, List.setIfInBounds_toArray, List.set_cons_succ, List.set_cons_zero]
  refine wpT_yield (v := .pointer (some ⟨W.heap.size, 1, none⟩)) rfl rfl (fun u _ => by go_simp) ?_
  simp only [Act.put, List.setIfInBounds_toArray, List.set_cons_succ, List.set_cons_zero]
  refine wpT_yield (v := .int .i64 b0) rfl rfl (fun u hu => by have hc := sh_base hu.2; go_simp) ?_
  simp only [Act.put, List.setIfInBounds_toArray, List.set_cons_succ, List.set_cons_zero]
  refine wpT_yield (v := .int .i64 (y.dataAt - b0)) rfl rfl (fun u _ => by go_simp) ?_
  simp only [Act.put, List.setIfInBounds_toArray, List.set_cons_succ, List.set_cons_zero]
  refine wpT_yield (v := .pointer (some ⟨gy, 0, none⟩)) rfl rfl (fun u _ => by go_simp) ?_
  simp only [Act.put, List.setIfInBounds_toArray, List.set_cons_succ, List.set_cons_zero]
  refine wpT_yield (v := .pointer (some ⟨gy, 0, none⟩)) rfl rfl (fun u _ => by go_simp) ?_
  simp only [Act.put, List.setIfInBounds_toArray, List.set_cons_succ, List.set_cons_zero]
  refine wpT_yield (v := .int .i64 y.b) rfl rfl (fun u hu => by have hc : u.cell? ⟨gy, 0, none⟩ = some (.int .i64 y.b) := Joins.cell_of_block hu.1 0; go_simp) ?_
  simp only [Act.put, List.setIfInBounds_toArray, List.set_cons_succ, List.set_cons_zero]
  refine wpT_yield (v := .pointer (some ⟨W.heap.size, 1, none⟩)) rfl rfl (fun u _ => by go_simp) ?_
  simp only [Act.put, List.setIfInBounds_toArray, List.set_cons_succ, List.set_cons_zero]
  refine wpT_yield (v := .int .i64 b0) rfl rfl (fun u hu => by have hc := sh_base hu.2; go_simp) ?_
  simp only [Act.put, List.setIfInBounds_toArray, List.set_cons_succ, List.set_cons_zero]
  refine wpT_yield (v := .int .i64 (y.b - b0)) rfl rfl (fun u _ => by go_simp) ?_
  simp only [Act.put, List.setIfInBounds_toArray, List.set_cons_succ, List.set_cons_zero]
  have hzU : U.cell? ⟨gz, 0, none⟩ = some (.int .i64 z) := Joins.cell_of_block hz0 0
  refine wpT_make (v := .int .i64 z) (w' := U) rfl rfl (by have := hzU; go_simp) hS ?_ ?_
  · simp only [Act.put, List.setIfInBounds_toArray, List.set_cons_succ, List.set_cons_zero]
    refine wpT_call rfl rfl 36 _ _ rfl Tryz.call36 [.agg (blk f), .int .i64 (y.dataAt - b0), .int .i64 (y.b - b0)] rfl ?_ wpT_stop
    refine (HH.out U).mono ?_
    rintro e X ⟨rfl, hb1⟩
    have hSX : X.heap[gy]? = some (.cells (layRow y) 49) ∧ X.heap[W.heap.size]? = some (.cells (shRow a b0 f) 78) := ⟨heap_kept hS.1 hb1, heap_kept hS.2 hb1⟩
    have hzX := heap_kept hz0 hb1
    have hcX : X.cell? ⟨gz, 0, none⟩ = some (.int .i64 z) := Joins.cell_of_block hzX 0
    refine ⟨_, rfl, hSX, ?_⟩
    simp only [Act.put, List.setIfInBounds_toArray, List.set_cons_succ, List.set_cons_zero]
    refine wpT_yield (v := .int .i64 (z - c)) rfl rfl (fun u _ => by go_simp) ?_
    simp only [Act.put, List.setIfInBounds_toArray, List.set_cons_succ, List.set_cons_zero]
    refine wpT_do rfl rfl (exec_st3 rfl rfl rfl hcX (frozen_row hzX 0)) ⟨?_, ?_⟩ ?_ wpT_stop
    · rw [heap_setCell_other _ _ _ _ hyz]; exact hSX.1
    · rw [heap_setCell_other _ _ _ _ (show W.heap.size ≠ gz by omega)]; exact hSX.2
    have H3 : Hid ((X.setCell ⟨gz, 0, none⟩ (.int .i64 (z - c))).heap[gz]? = some (.cells #[.int .i64 (z - c)] 3)) := by rw [heap_setCell_same _ _ _ _ _ _ hzX]; rfl
    have H4 : Hid (Fr (fun k => k = gz) W (X.setCell ⟨gz, 0, none⟩ (.int .i64 (z - c)))) := Fr.trans (Fr.ofBelow (T := fun k => k = gz) (below_next hB0 hb1)) (Fr.setCell X gz 0 _) fun _ _ q => q
    simp only [Act.put]
    refine wpT_fin ?_
    generalize X.setCell ⟨gz, 0, none⟩ (.int .i64 (z - c)) = ZZ at H3 H4 ⊢
    clear hb1 hSX hzX hcX hzU hz0 hS
    go_wp2
    go_ret
    exact ⟨rfl, H3.out, H4.out⟩
  refine wpT_call rfl rfl 36 _ _ rfl Tryz.call36 [.agg (blk f), .int .i64 (y.dataAt - b0), .int .i64 (y.b - b0)] rfl ?_ wpT_stop
  refine (HH.out U).mono ?_
  rintro e X ⟨rfl, hb1⟩
  have hSX : X.heap[gy]? = some (.cells (layRow y) 49) ∧ X.heap[W.heap.size]? = some (.cells (shRow a b0 f) 78) := ⟨heap_kept hS.1 hb1, heap_kept hS.2 hb1⟩
  have hzX := heap_kept hz0 hb1
  have hcX : X.cell? ⟨gz, 0, none⟩ = some (.int .i64 z) := Joins.cell_of_block hzX 0
  refine ⟨_, rfl, hSX, ?_⟩
  simp only [Act.put, List.setIfInBounds_toArray, List.set_cons_succ, List.set_cons_zero]
  refine wpT_make (v := .int .i64 z) (w' := X) rfl rfl (by have := hcX; go_simp) hSX ?_ wpT_stop
  simp only [Act.put, List.setIfInBounds_toArray, List.set_cons_succ, List.set_cons_zero]
  refine wpT_yield (v := .int .i64 (z - c)) rfl rfl (fun u _ => by go_simp) ?_
  simp only [Act.put, List.setIfInBounds_toArray, List.set_cons_succ, List.set_cons_zero]
  refine wpT_do rfl rfl (exec_st3 rfl rfl rfl hcX (frozen_row hzX 0)) ⟨?_, ?_⟩ ?_ wpT_stop
  · rw [heap_setCell_other _ _ _ _ hyz]; exact hSX.1
  · rw [heap_setCell_other _ _ _ _ (show W.heap.size ≠ gz by omega)]; exact hSX.2
  have H3 : Hid ((X.setCell ⟨gz, 0, none⟩ (.int .i64 (z - c))).heap[gz]? = some (.cells #[.int .i64 (z - c)] 3)) := by rw [heap_setCell_same _ _ _ _ _ _ hzX]; rfl
  have H4 : Hid (Fr (fun k => k = gz) W (X.setCell ⟨gz, 0, none⟩ (.int .i64 (z - c)))) := Fr.trans (Fr.ofBelow (T := fun k => k = gz) (below_next hB0 hb1)) (Fr.setCell X gz 0 _) fun _ _ q => q
  simp only [Act.put]
  refine wpT_fin ?_
  generalize X.setCell ⟨gz, 0, none⟩ (.int .i64 (z - c)) = ZZ at H3 H4 ⊢
  clear hb1 hSX hzX hcX hzU hz0 hS
  go_wp2
  go_ret
  exact ⟨rfl, H3.out, H4.out⟩
end Go.Proofs.YtkcgbhagjkhcmaaGreat
/- How many blocks of a disk of one sheet are free: room's search handed Free's closure, and Free. -/
namespace Go.Proofs.YtkcgbhagjkhcmaaGreat
open Go.RowKit Go.Maps
section
variable {w W W' : World} {g d n : Nat} {x : Go.Proofs.YtkcgbhagjkhcmaaGreatW.LSt} {book : Int → Nat → Int} {ks ks' : List (Nat × Obj)}
theorem RLog.readR (h : RLog w W g d x book (n + 1) ks) (hg : Ge x) :
    Calls Tryz.prog 59 #[.pointer (some ⟨g, 0, none⟩), .int .i64 0] W fun e W' => e = .returned (.tuple #[.agg (shRow 37 0 (book 37)), .int .i64 0]) ∧ RLog w W' g d x book n ks := by
  obtain ⟨t, h, h1, h2⟩ := h
  have e := readR_ok h (chk_of h1) (Go.Proofs.YtkcgbhagjkhcmaaGreatW.claimed_live h1) h2.room 0 (by omega) (by rw [hg.bitsAt]; omega) (hg.dat (by rw [hg.bitsAt]; omega))
  simp only [hg.bitsAt, Int.add_zero, Int.zero_mul] at e
  refine e.mono ?_
  rintro e W' ⟨rfl, t', ht, h3⟩
  exact ⟨rfl, .of ht h1 h2 h3⟩
set_option maxRecDepth 20000 in
set_option maxHeartbeats 1600000 in
theorem searchFr_ok (h : RLog w W g d x book (n + 1) ks) (hg : Ge x) (gy gz : Nat) (Q : World → Prop)
    (hcl : ∀ V, RLog w V g d x book n ks → Calls Tryz.prog 35 #[.agg (shRow 37 0 (book 37)), .pointer (some ⟨gz, 0, none⟩), .pointer (some ⟨gy, 0, none⟩)] V fun e V' => e = .returned (.bool false) ∧ Q V') :
    Calls Tryz.prog 34 #[.pointer (some ⟨g, 0, none⟩), .func (.func 35) #[] #[.pointer (some ⟨gz, 0, none⟩), .pointer (some ⟨gy, 0, none⟩)]] W fun e W' => e = .returned (.int .i64 0) ∧ Q W' := by
  have zs := zeroSh
  have hlay := h.layout
  have HRd : Hid (∀ V, RLog w V g d x book (n + 1) ks → Calls Tryz.prog 59 #[.pointer (some ⟨g, 0, none⟩), .int .i64 0] V fun e W' => e = .returned (.tuple #[.agg (shRow 37 0 (book 37)), .int .i64 0]) ∧ RLog w W' g d x book n ks) := fun V hV => hV.readR hg
  have HCl : Hid _ := hcl
  have HyB : Hid ((layL x).bitsBlocks = 1) := hg.bitsB
  generalize hy : layL x = y at *
  clear hy h hcl
  generalize book 37 = F at *
  go_enter Tryz.func34, Tryz.ntmps34
  go_wp2_with fail
  go_step3
  go_wp2_with fail
  go_step3
  go_wp2_with (go_at_call 33; fail)
  refine hlay.mono ?_
  rintro e V1 ⟨rfl, hL1⟩
  have HL1 : Hid _ := hL1
  have hyb := HyB.out
  clear hlay hL1
  go_wp2_with (first | (with_reducible refine isFdR 49 ?_; refine wpList_ex rfl (v := .int .i64 1) (by rw [← hyb]; exact exec_bitsBl rfl rfl) ?_))
  go_loopw [11] (fun s11 wx => (s11 = .int .i64 0 ∧ Hid (RLog w wx g d x book (n + 1) ks)) ∨ (s11 = .int .i64 1 ∧ Hid (Q wx))) (fun s11 _ => 1 - (intOf s11).toNat)
  case atStart => exact .inl ⟨rfl, HL1.out⟩
  case round =>
    rcases hrel with ⟨rfl, HL⟩ | ⟨rfl, HQ⟩
    · have hrd := HRd.out wr HL.out
      clear HL HRd HL1
      go_wp2_with (go_at_call 59; fail)
      refine hrd.mono ?_
      rintro e V2 ⟨rfl, hL2⟩
      have hcl := HCl.out (V2.alloc (.cells (shRow 37 0 F) 78)) (hL2.later (below_new _ _))
      have HR3 : Hid ((V2.alloc (.cells (shRow 37 0 F) 78)).heap[V2.heap.size]? = some (.cells (shRow 37 0 F) 78)) := heap_alloc_new _ _
      clear hrd hL2 HCl
      go_upto_region 5 with (first | (with_reducible refine isStoreR 78 ?_; refine wpList_stNew 78 rfl (.tmp 6) (.tmp 18) rfl V2.heap.size (shRow 37 0 F) (shRow 0 0 nought) 78 (sh_info _ _ _) (sh_two _ _ _ _ _ _) (sh_one _ _ _) rfl rfl rfl ?_))
      generalize V2.alloc (.cells (shRow 37 0 F) 78) = V3 at *
      generalize V2.heap.size = gb at *
      go_wp2_with (first | (with_reducible refine isLoadR 78 ?_; refine wpList_ldR 78 Tryz.underlying78 rfl rfl (.tmp 6) rfl gb rfl (shRow 37 0 F) 78 (0, 0) (sh_info _ _ _) HR3.out ?_) | (go_at_call 35; fail))
      refine hcl.mono ?_
      rintro e V4 ⟨rfl, hq⟩
      have HQ : Hid _ := hq
      clear hcl hq HR3
      go_wp2
      exact ⟨.inr ⟨by go_num, HQ⟩, by simp [intOf]⟩
    · go_wp2
      rw [Exit.noGoto_ret]
      go_ret
      exact ⟨rfl, HQ.out⟩
set_option maxRecDepth 20000 in
set_option maxHeartbeats 1600000 in
/-- Of a sheet whose bits below k are 1, and no other: the blocks from k on are free. -/
theorem RLog.free (h : RLog w W g d x book (n + 1) ks) (hg : Ge x) {k : Nat} (hb : Bm (book 37) k) (hk : 38 ≤ k ∧ k ≤ 400) :
    Calls Tryz.prog 12 #[.pointer (some ⟨g, 0, none⟩)] W fun e W' => e = .returned (.tuple #[.int .i64 (400 - (k : Int)), .int .i64 0]) ∧ RLog w W' g d x book n ks := by
  have zl := zeroLay
  have hmf : ∀ (fn : Fn) (first cap : Array Value) (w : World), (Instr.makeFunc fn first cap).run Tryz.prog w = .ok (.func fn first cap) w := fun _ _ _ _ => rfl
  have hck := h.check
  have HLay : Hid (∀ V, RLog w V g d x book (n + 1) ks → Calls Tryz.prog 33 #[.pointer (some ⟨g, 0, none⟩)] V fun e W' => e = .returned (.agg (layRow (layL x))) ∧ RLog w W' g d x book (n + 1) ks) := fun V hV => hV.layout
  have hLd : (layL x).dataAt = 38 := hg.dataAt
  have hLb : (layL x).b = 400 := hg.b
  have HyD : Hid ((layL x).dataAt = 38) := hLd
  have HyN : Hid ((layL x).b = 400) := hLb
  have HSe : Hid (∀ V gy gz, w.heap.size ≤ gz → (∀ p ∈ ks, p.1 ≠ gz) → gy ≠ gz → RLog w V g d x book (n + 1) ((gz, .cells #[.int .i64 362] 3) :: (gy, .cells (layRow (layL x)) 49) :: ks) → Calls Tryz.prog 34 #[.pointer (some ⟨g, 0, none⟩), .func (.func 35) #[] #[.pointer (some ⟨gz, 0, none⟩), .pointer (some ⟨gy, 0, none⟩)]] V fun e V' => e = .returned (.int .i64 0) ∧ (V'.heap[gz]? = some (.cells #[.int .i64 (400 - (k : Int))] 3) ∧ RLog w V' g d x book n ks)) := by
    intro V gy gz hgz hkz hne hV
    refine searchFr_ok hV hg gy gz _ fun U hU => ?_
    refine (fr1_ok (y := layL x) (c := ((k - 38 : Nat) : Int)) (hU.obj (List.mem_cons_of_mem _ (List.mem_cons_self ..))) (hU.obj (List.mem_cons_self ..)) (by omega) (by rw [hLd, hLb]; omega) (by omega) (by omega) (fun T => ?_)).mono ?_
    · rw [hLd, hLb, show (38 : Int) - 0 = ((38 : Nat) : Int) by omega, show (400 : Int) - 0 = ((400 : Nat) : Int) by omega, ← hb.ones 38 400 hk (by omega), ← blkV]
      exact Go.Proofs.YtkcgbhagjkhcmaaGreatV.count_any _ hb.byte _ _ T
    rintro e U' ⟨rfl, h1, h2⟩
    refine ⟨rfl, by rw [h1, show (362 : Int) - ((k - 38 : Nat) : Int) = 400 - (k : Int) by omega], ?_⟩
    exact (hU.beside h2 hgz (fun p hp => by
      rcases List.mem_cons.1 hp with rfl | hp
      · exact hne
      · exact hkz p hp)).drop fun p hp => List.mem_cons_of_mem _ hp
  generalize hyL : layL x = y at *
  clear hyL hLd hLb hb h
  generalize 400 - (k : Int) = res at *
  clear hk
  go_enter Tryz.func12, Tryz.ntmps12
  go_wp2_with (go_at_call 23; fail)
  refine hck.mono ?_
  rintro e V0 ⟨rfl, hL0⟩
  have hlay := HLay.out V0 hL0
  clear hck hL0 HLay
  go_wp2_with (go_at_call 33; fail)
  refine hlay.mono ?_
  rintro e V1 ⟨rfl, hL1⟩
  have hL2 := hL1.add (.cells (layRow y) 49)
  have hL3 := hL2.add (.cells #[.int .i64 362] 3)
  have hs1 : (V1.alloc (.cells (layRow y) 49)).heap.size = V1.heap.size + 1 := by simp
  rw [hs1] at hL3
  have hw1 := hL1.below.size
  have hks2 := hL2.ksLt
  rw [hs1] at hks2
  have hse := HSe.out _ V1.heap.size (V1.heap.size + 1) (by omega) (fun p hp => hks2 p (List.mem_cons_of_mem _ hp)) (by omega) hL3
  have hrow : (V1.alloc (.cells (layRow y) 49)).heap[V1.heap.size]? = some (.cells (layRow y) 49) := heap_alloc_new _ _
  have HRow : Hid _ := hrow
  clear hlay hL1 hL2 hL3 hks2 HSe hrow
  go_upto_region 5 with (first | (with_reducible refine isStoreR 49 ?_; refine wpList_stNew 49 rfl (.tmp 5) (.tmp 14) rfl V1.heap.size (layRow y) (layRow lay0) 49 (lay_info _) (lay_two _ _) (lay_one _) rfl rfl rfl ?_))
  have c6 : (V1.alloc (.cells (layRow y) 49)).cell? ⟨V1.heap.size, 8, none⟩ = some (.int .i64 38) := by rw [← HyD.out]; exact Joins.cell_of_block HRow.out 8
  have c0 : (V1.alloc (.cells (layRow y) 49)).cell? ⟨V1.heap.size, 0, none⟩ = some (.int .i64 400) := by rw [← HyN.out]; exact Joins.cell_of_block HRow.out 0
  go_upto_region 6 with fail
  generalize (V1.alloc (.cells (layRow y) 49)).alloc (.cells #[.int .i64 362] 3) = V3 at *
  clear c6 c0 HRow
  generalize V1.heap.size = gy at *
  go_wp2_with (go_at_call 34; fail)
  refine hse.mono ?_
  rintro e V4 ⟨rfl, hz, hL4⟩
  have z0 : V4.cell? ⟨gy + 1, 0, none⟩ = some (.int .i64 res) := Joins.cell_of_block hz 0
  have HL : Hid _ := hL4
  clear hse hz hL4
  go_wp2
  exact bodyPost_ret (results_tmp2 rfl _ _ _) rfl ⟨rfl, HL.out⟩
end
end Go.Proofs.YtkcgbhagjkhcmaaGreat
/- Whether a step is open; why room refuses; a sheet of a block that is none. -/
namespace Go.Proofs.YtkcgbhagjkhcmaaGreat
open Go.RowKit Go.Maps
theorem build0Sh (u : World) : (Instr.build 78 #[]).run Tryz.prog u = .ok (.agg (shRow 0 0 nought)) u := by
  have z := zeroSh
  generalize shRow 0 0 nought = Z at *
  simp [Instr.build, z, run_underlying Tryz.underlying78, Instr.fill, Value.cells, go_sem]
theorem exec_build0Sh {o : Oper} {a : Act} {W : World} (ho : o.op = .build 78 #[]) : (execOp a.eval o).run Tryz.prog W = .ok (.value (.agg (shRow 0 0 nought))) W := by
  have e := build0Sh W
  generalize shRow 0 0 nought = Z at *
  simp [execOp, ho, e]
section
variable {w W W' : World} {g d n : Nat} {x : Go.Proofs.YtkcgbhagjkhcmaaGreatW.LSt} {book : Int → Nat → Int} {ks ks' : List (Nat × Obj)}
theorem RLog.c15 (h : RLog w W g d x book n ks) : W.cell? ⟨g, 15, none⟩ = some (.bool x.opn) := by
  obtain ⟨t, ⟨s, h3, _⟩, h1, h2⟩ := h
  exact h3.c1516.1
set_option maxHeartbeats 800000 in
theorem RLog.open (h : RLog w W g d x book n ks) : Calls Tryz.prog 61 #[.pointer (some ⟨g, 0, none⟩)] W fun e W' => e = .returned (.bool x.opn) ∧ RLog w W' g d x book n ks := by
  have hck := h.check
  clear h
  obtain ⟨o, ho⟩ : ∃ o, x.opn = o := ⟨_, rfl⟩
  have HO : Hid (x.opn = o) := ho
  rw [ho]
  clear ho
  go_enter Tryz.func61, Tryz.ntmps61
  go_wp2_with (go_at_call 23; fail)
  refine hck.mono ?_
  rintro e V1 ⟨rfl, hL1⟩
  have c15 := hL1.c15
  rw [HO.out] at c15
  have HL : Hid _ := hL1
  clear hck hL1
  go_wp2
  go_ret
  exact ⟨rfl, HL.out⟩
set_option maxHeartbeats 800000 in
theorem RLog.refuses (h : RLog w W g d x book n ks) : Calls Tryz.prog 26 #[.pointer (some ⟨g, 0, none⟩)] W fun e W' => e = .returned (.int .i64 (if x.opn = true then 0 else 180)) ∧ RLog w W' g d x book n ks := by
  have hck := h.check
  obtain ⟨o, ho⟩ : ∃ o, x.opn = o := ⟨_, rfl⟩
  have HO : Hid (∀ V, RLog w V g d x book n ks → Calls Tryz.prog 61 #[.pointer (some ⟨g, 0, none⟩)] V fun e W' => e = .returned (.bool o) ∧ RLog w W' g d x book n ks) := fun V hV => by rw [← ho]; exact hV.open
  rw [ho]
  clear h ho
  cases o
  all_goals
    go_enter Tryz.func26, Tryz.ntmps26
    go_wp2_with (go_at_call 23; fail)
    refine hck.mono ?_
    rintro e V1 ⟨rfl, hL1⟩
    have ho := HO.out V1 hL1
    clear hck hL1 HO
    go_wp2_with (go_at_call 61; fail)
    refine ho.mono ?_
    rintro e V2 ⟨rfl, hL2⟩
    have HL : Hid _ := hL2
    clear ho hL2
    go_wp2
    go_ret
    exact ⟨rfl, HL.out⟩
set_option maxRecDepth 20000 in
set_option maxHeartbeats 1600000 in
theorem RLog.sheetBad (h : RLog w W g d x book n ks) (hg : Ge x) (at' : Int) (hat : at' < 38 ∨ 400 ≤ at') :
    Calls Tryz.prog 24 #[.pointer (some ⟨g, 0, none⟩), .int .i64 at'] W fun e W' => e = .returned (.tuple #[.agg (shRow 0 0 nought), .int .i64 4]) ∧ RLog w W' g d x book n ks := by
  have zs := zeroSh
  have zl := zeroLay
  have HK : Hid _ := h.ksLt
  have HS0 : Hid (w.heap.size ≤ W.heap.size) := h.below.size
  have hlay := (h.add (.cells (shRow 0 0 nought) 78)).layout
  clear h
  have HyD : Hid ((layL x).dataAt = 38) := hg.dataAt
  have HyN : Hid ((layL x).b = 400) := hg.b
  generalize hy : layL x = y at *
  clear hy
  go_enter Tryz.func24, Tryz.ntmps24
  go_upto_region 1 with fail
  generalize W.alloc (.cells (shRow 0 0 nought) 78) = V at *
  go_wp2_with (go_at_call 33; fail)
  refine hlay.mono ?_
  rintro e V1 ⟨rfl, hL1⟩
  have hL2 := hL1.later (below_new V1 (.cells (layRow y) 49))
  have HLy : Hid ((V1.alloc (.cells (layRow y) 49)).heap[V1.heap.size]? = some (.cells (layRow y) 49)) := heap_alloc_new _ _
  have HL2 : Hid _ := hL2
  clear hlay hL1 hL2
  go_upto_region 2 with (first | (with_reducible refine isStoreR 49 ?_; refine wpList_stNew 49 rfl (.tmp 6) (.tmp 8) rfl V1.heap.size (layRow y) (layRow lay0) 49 (lay_info _) (lay_two _ _) (lay_one _) rfl rfl rfl ?_))
  generalize V1.alloc (.cells (layRow y) 49) = V2 at *
  generalize V1.heap.size = gy at *
  have c8 : V2.cell? ⟨gy, 8, none⟩ = some (.int .i64 38) := by rw [← HyD.out]; exact Joins.cell_of_block HLy.out 8
  have c0 : V2.cell? ⟨gy, 0, none⟩ = some (.int .i64 400) := by rw [← HyN.out]; exact Joins.cell_of_block HLy.out 0
  have hres := HL2.out.obj (List.mem_cons_self ..)
  have HL4 : Hid _ := HL2.out.beside (Fr.setRow V2 W.heap.size (shRow 0 0 nought)) HS0.out HK.out
  clear HL2 HLy
  by_cases h1 : at' < 38
  · have t1 : decide (at' < 38) = true := decide_eq_true h1
    go_wp2_with (first | (with_reducible refine isBuildR 78 ?_; refine wpList_ex rfl (exec_build0Sh rfl) ?_) | (with_reducible refine isStoreR 78 ?_; refine wpList_stR 78 rfl (.tmp 4) (.tmp 20) rfl W.heap.size (shRow 0 0 nought) (shRow 0 0 nought) 78 (sh_info _ _ _) (sh_two _ _ _ _ _ _) (sh_one _ _ _) rfl rfl hres ?_))
    exact retCT Tryz.underlying78 rfl rfl W.heap.size (shRow 0 0 nought) 78 (sh_info _ _ _) rfl (setRow_heap _ _ _ _ _ _ hres) rfl ⟨rfl, HL4.out⟩
  · have t1 : decide (at' < 38) = false := decide_eq_false h1
    have t2 : decide (400 ≤ at') = true := decide_eq_true (by omega)
    go_wp2_with (first | (with_reducible refine isBuildR 78 ?_; refine wpList_ex rfl (exec_build0Sh rfl) ?_) | (with_reducible refine isStoreR 78 ?_; refine wpList_stR 78 rfl (.tmp 4) (.tmp 20) rfl W.heap.size (shRow 0 0 nought) (shRow 0 0 nought) 78 (sh_info _ _ _) (sh_two _ _ _ _ _ _) (sh_one _ _ _) rfl rfl hres ?_))
    exact retCT Tryz.underlying78 rfl rfl W.heap.size (shRow 0 0 nought) 78 (sh_info _ _ _) rfl (setRow_heap _ _ _ _ _ _ hres) rfl ⟨rfl, HL4.out⟩
end
end Go.Proofs.YtkcgbhagjkhcmaaGreat
/- Blocks taken and given back over a log that lives: room's Take, Give, and Used of a block that is none. -/
namespace Go.Proofs.YtkcgbhagjkhcmaaGreat
open Go.RowKit Go.Maps
theorem exec_ldSh {o : Oper} {a : Act} {W : World} {x : Operand} {g : Nat} {p q : Int} {f : Nat → Int} (ho : o.op = .load 78 x) (hx : a.eval x = .pointer (some ⟨g, 0, none⟩)) (hg : W.heap[g]? = some (.cells (shRow p q f) 78)) : (execOp a.eval o).run Tryz.prog W = .ok (.value (.agg (shRow p q f))) W := by
  have hl := run_loadVar_row W g 78 78 (shRow p q f) (0, 0) _ hg Tryz.underlying78 rfl (sh_info _ _ _)
  unfold execOp
  simp only [ho, hx, Instr.loadAt, Instr.sureAddr, Sem.run_bind, Sem.run_pure, Result.andThen_ok, hl]
section
variable {w W W' : World} {g d n : Nat} {x x1 x2 : Go.Proofs.YtkcgbhagjkhcmaaGreatW.LSt} {book : Int → Nat → Int} {ks ks' : List (Nat × Obj)}
theorem RLog.with' {p : Nat → Bool} {f : Nat → Int} (hb : Bp f p) (k : Nat) (hk : k < 400) (on : Bool) (V : World) :
    Calls Tryz.prog 29 #[.agg (shRow 37 0 f), .int .i64 (k : Int), .bool on] V fun e W' => e = .returned (.agg (blk (Go.Proofs.YtkcgbhagjkhcmaaGreatV.setB f (k : Int) on))) ∧ Below V.heap.size V W' :=
  shWith_ok (by omega) fun U => by
    rw [show (k : Int) - 0 = (k : Int) by omega, ← blkV, ← blkV]
    exact Go.Proofs.YtkcgbhagjkhcmaaGreatV.set_any f hb.byte _ on U
set_option maxRecDepth 20000 in
set_option maxHeartbeats 3200000 in
theorem RLog.take (h : RLog w W g d x book (n + 2) ks) (hg : Ge x) (ho : x.opn = true) {p : Nat → Bool} (hb : Bp (book 37) p) (k : Nat) (hk : 38 ≤ k ∧ k < 400) (hp : p k = false) (hl : ∀ j, 38 ≤ j → j < k → p j = true) (h1 : WrX x 37 x1) (h2 : WrX x1 (k : Int) x2) :
    Calls Tryz.prog 9 #[.pointer (some ⟨g, 0, none⟩)] W fun e W' => e = .returned (.tuple #[.int .i64 (k : Int), .int .i64 0]) ∧ RLog w W' g d x2 (fun j => if j = (k : Int) then nought else if j = 37 then Go.Proofs.YtkcgbhagjkhcmaaGreatV.setB (book 37) (k : Int) true else book j) n ks := by
  have zs := zeroSh
  have hrf := h.refuses
  rw [if_pos ho] at hrf
  have HLe : Hid (∀ V, RLog w V g d x book (n + 2) ks → Calls Tryz.prog 27 #[.pointer (some ⟨g, 0, none⟩)] V fun e W' => e = .returned (.tuple #[.int .i64 (k : Int), .int .i64 0]) ∧ RLog w W' g d x book (n + 1) ks) := fun V hV => RLog.least (n := n + 1) hV hg hb k hk hp hl
  have HSh : Hid (∀ V, RLog w V g d x book (n + 1) ks → Calls Tryz.prog 24 #[.pointer (some ⟨g, 0, none⟩), .int .i64 (k : Int)] V fun e W' => e = .returned (.tuple #[.agg (shRow 37 0 (book 37)), .int .i64 0]) ∧ RLog w W' g d x book n ks) := fun V hV => hV.sheetOf hg _ (by omega)
  have HWi : Hid (∀ V, Calls Tryz.prog 29 #[.agg (shRow 37 0 (book 37)), .int .i64 (k : Int), .bool true] V fun e W' => e = .returned (.agg (blk (Go.Proofs.YtkcgbhagjkhcmaaGreatV.setB (book 37) (k : Int) true))) ∧ Below V.heap.size V W') := fun V => RLog.with' hb k (by omega) true V
  have HW1 : Hid (∀ V ks0, RLog w V g d x book n ks0 → Calls Tryz.prog 28 #[.pointer (some ⟨g, 0, none⟩), .int .i64 37, .agg (blk (Go.Proofs.YtkcgbhagjkhcmaaGreatV.setB (book 37) (k : Int) true))] V fun e W' => e = .returned (.int .i64 0) ∧ RLog w W' g d x1 (fun j => if j = 37 then Go.Proofs.YtkcgbhagjkhcmaaGreatV.setB (book 37) (k : Int) true else book j) n ks0) := fun V ks0 hV => hV.write (hb.set k (by omega) true).1 ho hg (by omega) h1
  have HW2 : Hid (∀ V, RLog w V g d x1 (fun j => if j = 37 then Go.Proofs.YtkcgbhagjkhcmaaGreatV.setB (book 37) (k : Int) true else book j) n ks → Calls Tryz.prog 28 #[.pointer (some ⟨g, 0, none⟩), .int .i64 (k : Int), .agg (blk nought)] V fun e W' => e = .returned (.int .i64 0) ∧ RLog w W' g d x2 (fun j => if j = (k : Int) then nought else if j = 37 then Go.Proofs.YtkcgbhagjkhcmaaGreatV.setB (book 37) (k : Int) true else book j) n ks) := fun V hV => hV.write Go.Proofs.YtkcgbhagjkhcmaaGreatW.can_nought (h1.same.2.2.2.2.1.trans ho) (h1.ge hg) (by omega) h2
  clear h hg hb hk hp hl h1 h2 ho
  generalize (fun j => if j = (k : Int) then nought else if j = 37 then Go.Proofs.YtkcgbhagjkhcmaaGreatV.setB (book 37) (k : Int) true else book j) = book2 at *
  generalize (fun j => if j = 37 then Go.Proofs.YtkcgbhagjkhcmaaGreatV.setB (book 37) (k : Int) true else book j) = book1 at *
  generalize Go.Proofs.YtkcgbhagjkhcmaaGreatV.setB (book 37) (k : Int) true = F1 at *
  generalize book 37 = F at *
  generalize (k : Int) = K at *
  go_enter Tryz.func9, Tryz.ntmps9
  go_wp2_with (go_at_call 26; fail)
  refine hrf.mono ?_
  rintro e V1 ⟨rfl, hL1⟩
  have hle := HLe.out V1 hL1
  clear hrf hL1 HLe
  go_wp2_with (go_at_call 27; fail)
  refine hle.mono ?_
  rintro e V2 ⟨rfl, hL2⟩
  have hsh := HSh.out V2 hL2
  clear hle hL2 HSh
  go_wp2_with (go_at_call 24; fail)
  refine hsh.mono ?_
  rintro e V3 ⟨rfl, hL3⟩
  have HL3 : Hid _ := hL3.add (.cells (shRow 37 0 F) 78)
  clear hsh hL3
  go_upto_region 8 with (first | (with_reducible refine isStoreR 78 ?_; refine wpList_stNew 78 rfl (.tmp 7) (.tmp 26) rfl V3.heap.size (shRow 37 0 F) (shRow 0 0 nought) 78 (sh_info _ _ _) (sh_two _ _ _ _ _ _) (sh_one _ _ _) rfl rfl rfl ?_))
  generalize V3.alloc (.cells (shRow 37 0 F) 78) = V4 at *
  generalize V3.heap.size = gb at *
  go_upto_region 9 with fail
  have hLd : RLog w V4.drew g d x book n ((gb, .cells (shRow 37 0 F) 78) :: ks) := HL3.out.later (Below.refl _ _).drew
  have hS := hLd.obj (List.mem_cons_self ..)
  clear HL3
  refine wp_region_ord (S := fun u => u.heap[gb]? = some (.cells (shRow 37 0 F) 78)) [(0, true), (1, true), (2, true), (3, true), (4, true), (5, false), (6, false), (7, true)] (by kernel_rfl) rfl (by kernel_rfl) (fun d _ _ _ _ h => by cases d <;> exact h) hS ?_
  simp only [inOrd, List.getElem?_cons_zero, List.getElem?_cons_succ]
  generalize V4.drew = U at *
  refine wpOrd_yield (v := .pointer (some ⟨g, 0, none⟩)) rfl (fun u _ => exec_mv rfl rfl) ?_
  simp only [Act.put, List.setIfInBounds_toArray, List.set_cons_succ, List.set_cons_zero]
  refine wpOrd_yield (v := .pointer (some ⟨gb, 0, none⟩)) rfl (fun u _ => by go_simp) ?_
  simp only [Act.put, List.setIfInBounds_toArray, List.set_cons_succ, List.set_cons_zero]
  refine wpOrd_yield (v := .int .i64 37) rfl (fun u hu => by have hc : u.cell? ⟨gb, 0, none⟩ = some (.int .i64 37) := Joins.cell_of_block hu 0; go_simp) ?_
  simp only [Act.put, List.setIfInBounds_toArray, List.set_cons_succ, List.set_cons_zero]
  refine wpOrd_yield (v := .agg (shRow 37 0 F)) rfl (fun u hu => exec_ldSh rfl rfl hu) ?_
  simp only [Act.put, List.setIfInBounds_toArray, List.set_cons_succ, List.set_cons_zero]
  refine wpOrd_yield (v := .int .i64 K) rfl (fun u _ => exec_mv rfl rfl) ?_
  simp only [Act.put, List.setIfInBounds_toArray, List.set_cons_succ, List.set_cons_zero]
  refine wpOrd_call rfl 29 _ _ rfl Tryz.call29 [.agg (shRow 37 0 F), .int .i64 K, .bool true] rfl ?_
  refine (HWi.out U).mono ?_
  rintro e U1 ⟨rfl, hb1⟩
  have hS1 := heap_kept hS hb1
  have hL5 := hLd.later hb1
  refine ⟨_, rfl, hS1, ?_⟩
  simp only [Act.put, List.setIfInBounds_toArray, List.set_cons_succ, List.set_cons_zero]
  refine wpOrd_call rfl 28 _ _ rfl Tryz.call28 [.pointer (some ⟨g, 0, none⟩), .int .i64 37, .agg (blk F1)] rfl ?_
  refine (HW1.out U1 _ hL5).mono ?_
  rintro e U2 ⟨rfl, hL6⟩
  refine ⟨_, rfl, hL6.obj (List.mem_cons_self ..), ?_⟩
  simp only [Act.put, List.setIfInBounds_toArray, List.set_cons_succ, List.set_cons_zero]
  refine wpOrd_yield (v := .int .i64 0) rfl (fun u _ => by go_simp) ?_
  simp only [Act.put, List.setIfInBounds_toArray, List.set_cons_succ, List.set_cons_zero]
  refine wpOrd_nil ?_
  have hw2 := HW2.out U2 (hL6.drop fun p hp => List.mem_cons_of_mem _ hp)
  clear hL6 hL5 hS1 hb1 hLd hS HW1 HW2 HWi
  go_wp2_with (first | (with_reducible refine isBuildR 76 ?_; refine wpList_buildB rfl rfl ?_) | (go_at_call 28; fail))
  refine hw2.mono ?_
  rintro e U3 ⟨rfl, hL7⟩
  have HL : Hid _ := hL7
  clear hw2 hL7
  go_wp2
  exact bodyPost_ret (results_tmp2 rfl _ _ _) rfl ⟨rfl, HL.out⟩
theorem RLog.takeStep (h : RLog w W g d x book n ks) (ho : x.opn = false) : Calls Tryz.prog 9 #[.pointer (some ⟨g, 0, none⟩)] W fun e W' => e = .returned (.tuple #[.int .i64 0, .int .i64 180]) ∧ RLog w W' g d x book n ks := by
  have hrf := h.refuses
  rw [ho, if_neg (by simp)] at hrf
  clear h ho
  go_enter Tryz.func9, Tryz.ntmps9
  go_wp2_with (go_at_call 26; fail)
  refine hrf.mono ?_
  rintro e V1 ⟨rfl, hL1⟩
  have HL : Hid _ := hL1
  clear hrf hL1
  go_wp2
  exact bodyPost_ret (results_tmp2 rfl _ _ _) rfl ⟨rfl, HL.out⟩
set_option maxRecDepth 20000 in
set_option maxHeartbeats 3200000 in
theorem RLog.give (h : RLog w W g d x book (n + 1) ks) (hg : Ge x) (ho : x.opn = true) {p : Nat → Bool} (hb : Bp (book 37) p) (k : Nat) (hk : 38 ≤ k ∧ k < 400) (hp : p k = true) (h1 : WrX x 37 x1) :
    Calls Tryz.prog 11 #[.pointer (some ⟨g, 0, none⟩), .int .i64 (k : Int)] W fun e W' => e = .returned (.int .i64 0) ∧ RLog w W' g d x1 (fun j => if j = 37 then Go.Proofs.YtkcgbhagjkhcmaaGreatV.setB (book 37) (k : Int) false else book j) n ks := by
  have zs := zeroSh
  have hrf := h.refuses
  rw [if_pos ho] at hrf
  have HSh : Hid (∀ V, RLog w V g d x book (n + 1) ks → Calls Tryz.prog 24 #[.pointer (some ⟨g, 0, none⟩), .int .i64 (k : Int)] V fun e W' => e = .returned (.tuple #[.agg (shRow 37 0 (book 37)), .int .i64 0]) ∧ RLog w W' g d x book n ks) := fun V hV => hV.sheetOf hg _ (by omega)
  have HHas : Hid (∀ V, Calls Tryz.prog 25 #[.agg (shRow 37 0 (book 37)), .int .i64 (k : Int)] V fun e W' => e = .returned (.bool true) ∧ Below V.heap.size V W') := fun V => shHas_ok (by omega) (fun U => by
    rw [show (k : Int) - 0 = (k : Int) by omega, ← hp, ← hb.has k (by omega)]
    exact hasV hb.byt k (by omega) U)
  have HWi : Hid (∀ V, Calls Tryz.prog 29 #[.agg (shRow 37 0 (book 37)), .int .i64 (k : Int), .bool false] V fun e W' => e = .returned (.agg (blk (Go.Proofs.YtkcgbhagjkhcmaaGreatV.setB (book 37) (k : Int) false))) ∧ Below V.heap.size V W') := fun V => RLog.with' hb k (by omega) false V
  have HW1 : Hid (∀ V ks0, RLog w V g d x book n ks0 → Calls Tryz.prog 28 #[.pointer (some ⟨g, 0, none⟩), .int .i64 37, .agg (blk (Go.Proofs.YtkcgbhagjkhcmaaGreatV.setB (book 37) (k : Int) false))] V fun e W' => e = .returned (.int .i64 0) ∧ RLog w W' g d x1 (fun j => if j = 37 then Go.Proofs.YtkcgbhagjkhcmaaGreatV.setB (book 37) (k : Int) false else book j) n ks0) := fun V ks0 hV => hV.write (hb.set k (by omega) false).1 ho hg (by omega) h1
  clear h hg hb hk hp h1 ho
  generalize (fun j => if j = 37 then Go.Proofs.YtkcgbhagjkhcmaaGreatV.setB (book 37) (k : Int) false else book j) = book1 at *
  generalize Go.Proofs.YtkcgbhagjkhcmaaGreatV.setB (book 37) (k : Int) false = F1 at *
  generalize book 37 = F at *
  generalize (k : Int) = K at *
  go_enter Tryz.func11, Tryz.ntmps11
  go_wp2_with (go_at_call 26; fail)
  refine hrf.mono ?_
  rintro e V1 ⟨rfl, hL1⟩
  have hsh := HSh.out V1 hL1
  clear hrf hL1 HSh
  go_wp2_with (go_at_call 24; fail)
  refine hsh.mono ?_
  rintro e V3 ⟨rfl, hL3⟩
  have HL3 : Hid _ := hL3.add (.cells (shRow 37 0 F) 78)
  clear hsh hL3
  go_upto_region 5 with (first | (with_reducible refine isStoreR 78 ?_; refine wpList_stNew 78 rfl (.tmp 6) (.tmp 17) rfl V3.heap.size (shRow 37 0 F) (shRow 0 0 nought) 78 (sh_info _ _ _) (sh_two _ _ _ _ _ _) (sh_one _ _ _) rfl rfl rfl ?_))
  generalize V3.alloc (.cells (shRow 37 0 F) 78) = V4 at *
  generalize V3.heap.size = gb at *
  have hhas := HHas.out V4
  have hr4 := HL3.out.obj (List.mem_cons_self ..)
  go_wp2_with (first | (with_reducible refine isLoadR 78 ?_; refine wpList_ldR 78 Tryz.underlying78 rfl rfl (.tmp 6) rfl gb rfl (shRow 37 0 F) 78 (0, 0) (sh_info _ _ _) hr4 ?_) | (go_at_call 25; fail))
  refine hhas.mono ?_
  rintro e V5 ⟨rfl, hb5⟩
  have HL5 : Hid _ := HL3.out.later hb5
  clear hhas hb5 HL3 hr4 HHas
  go_upto_region 9 with fail
  have hLd : RLog w V5.drew g d x book n ((gb, .cells (shRow 37 0 F) 78) :: ks) := HL5.out.later (Below.refl _ _).drew
  have hS := hLd.obj (List.mem_cons_self ..)
  clear HL5
  refine wp_region_ord (S := fun u => u.heap[gb]? = some (.cells (shRow 37 0 F) 78)) [(0, true), (1, true), (2, true), (3, true), (4, true), (5, false), (6, false), (7, true)] (by kernel_rfl) rfl (by kernel_rfl) (fun d _ _ _ _ h => by cases d <;> exact h) hS ?_
  simp only [inOrd, List.getElem?_cons_zero, List.getElem?_cons_succ]
  generalize V5.drew = U at *
  refine wpOrd_yield (v := .pointer (some ⟨g, 0, none⟩)) rfl (fun u _ => exec_mv rfl rfl) ?_
  simp only [Act.put, List.setIfInBounds_toArray, List.set_cons_succ, List.set_cons_zero]
  refine wpOrd_yield (v := .pointer (some ⟨gb, 0, none⟩)) rfl (fun u _ => by go_simp) ?_
  simp only [Act.put, List.setIfInBounds_toArray, List.set_cons_succ, List.set_cons_zero]
  refine wpOrd_yield (v := .int .i64 37) rfl (fun u hu => by have hc : u.cell? ⟨gb, 0, none⟩ = some (.int .i64 37) := Joins.cell_of_block hu 0; go_simp) ?_
  simp only [Act.put, List.setIfInBounds_toArray, List.set_cons_succ, List.set_cons_zero]
  refine wpOrd_yield (v := .agg (shRow 37 0 F)) rfl (fun u hu => exec_ldSh rfl rfl hu) ?_
  simp only [Act.put, List.setIfInBounds_toArray, List.set_cons_succ, List.set_cons_zero]
  refine wpOrd_yield (v := .int .i64 K) rfl (fun u _ => exec_mv rfl rfl) ?_
  simp only [Act.put, List.setIfInBounds_toArray, List.set_cons_succ, List.set_cons_zero]
  refine wpOrd_call rfl 29 _ _ rfl Tryz.call29 [.agg (shRow 37 0 F), .int .i64 K, .bool false] rfl ?_
  refine (HWi.out U).mono ?_
  rintro e U1 ⟨rfl, hb1⟩
  have hS1 := heap_kept hS hb1
  have hL5 := hLd.later hb1
  refine ⟨_, rfl, hS1, ?_⟩
  simp only [Act.put, List.setIfInBounds_toArray, List.set_cons_succ, List.set_cons_zero]
  refine wpOrd_call rfl 28 _ _ rfl Tryz.call28 [.pointer (some ⟨g, 0, none⟩), .int .i64 37, .agg (blk F1)] rfl ?_
  refine (HW1.out U1 _ hL5).mono ?_
  rintro e U2 ⟨rfl, hL6⟩
  refine ⟨_, rfl, hL6.obj (List.mem_cons_self ..), ?_⟩
  simp only [Act.put, List.setIfInBounds_toArray, List.set_cons_succ, List.set_cons_zero]
  refine wpOrd_yield (v := .int .i64 0) rfl (fun u _ => by go_simp) ?_
  simp only [Act.put, List.setIfInBounds_toArray, List.set_cons_succ, List.set_cons_zero]
  refine wpOrd_nil ?_
  have HL : Hid _ := hL6.drop fun p hp => List.mem_cons_of_mem _ hp
  clear hL6 hL5 hS1 hb1 hLd hS HW1 HWi
  go_wp2
  go_ret
  exact ⟨rfl, HL.out⟩
set_option maxRecDepth 20000 in
set_option maxHeartbeats 3200000 in
theorem RLog.giveFree (h : RLog w W g d x book (n + 1) ks) (hg : Ge x) (ho : x.opn = true) {p : Nat → Bool} (hb : Bp (book 37) p) (k : Nat) (hk : 38 ≤ k ∧ k < 400) (hp : p k = false) :
    Calls Tryz.prog 11 #[.pointer (some ⟨g, 0, none⟩), .int .i64 (k : Int)] W fun e W' => e = .returned (.int .i64 4) ∧ RLog w W' g d x book n ks := by
  have zs := zeroSh
  have hrf := h.refuses
  rw [if_pos ho] at hrf
  have HSh : Hid (∀ V, RLog w V g d x book (n + 1) ks → Calls Tryz.prog 24 #[.pointer (some ⟨g, 0, none⟩), .int .i64 (k : Int)] V fun e W' => e = .returned (.tuple #[.agg (shRow 37 0 (book 37)), .int .i64 0]) ∧ RLog w W' g d x book n ks) := fun V hV => hV.sheetOf hg _ (by omega)
  have HHas : Hid (∀ V, Calls Tryz.prog 25 #[.agg (shRow 37 0 (book 37)), .int .i64 (k : Int)] V fun e W' => e = .returned (.bool false) ∧ Below V.heap.size V W') := fun V => shHas_ok (by omega) (fun U => by
    rw [show (k : Int) - 0 = (k : Int) by omega, ← hp, ← hb.has k (by omega)]
    exact hasV hb.byt k (by omega) U)
  clear h hg hb hk hp ho
  generalize book 37 = F at *
  generalize (k : Int) = K at *
  go_enter Tryz.func11, Tryz.ntmps11
  go_wp2_with (go_at_call 26; fail)
  refine hrf.mono ?_
  rintro e V1 ⟨rfl, hL1⟩
  have hsh := HSh.out V1 hL1
  clear hrf hL1 HSh
  go_wp2_with (go_at_call 24; fail)
  refine hsh.mono ?_
  rintro e V3 ⟨rfl, hL3⟩
  have HL3 : Hid _ := hL3.add (.cells (shRow 37 0 F) 78)
  clear hsh hL3
  go_upto_region 5 with (first | (with_reducible refine isStoreR 78 ?_; refine wpList_stNew 78 rfl (.tmp 6) (.tmp 17) rfl V3.heap.size (shRow 37 0 F) (shRow 0 0 nought) 78 (sh_info _ _ _) (sh_two _ _ _ _ _ _) (sh_one _ _ _) rfl rfl rfl ?_))
  generalize V3.alloc (.cells (shRow 37 0 F) 78) = V4 at *
  generalize V3.heap.size = gb at *
  have hhas := HHas.out V4
  have hr4 := HL3.out.obj (List.mem_cons_self ..)
  go_wp2_with (first | (with_reducible refine isLoadR 78 ?_; refine wpList_ldR 78 Tryz.underlying78 rfl rfl (.tmp 6) rfl gb rfl (shRow 37 0 F) 78 (0, 0) (sh_info _ _ _) hr4 ?_) | (go_at_call 25; fail))
  refine hhas.mono ?_
  rintro e V5 ⟨rfl, hb5⟩
  have HL : Hid _ := (HL3.out.later hb5).drop fun p hp => List.mem_cons_of_mem _ hp
  clear hhas hb5 HL3 hr4 HHas
  go_wp2
  go_ret
  exact ⟨rfl, HL.out⟩
set_option maxRecDepth 20000 in
set_option maxHeartbeats 1600000 in
theorem RLog.giveBad (h : RLog w W g d x book n ks) (hg : Ge x) (ho : x.opn = true) (k : Int) (hk : k < 38 ∨ 400 ≤ k) :
    Calls Tryz.prog 11 #[.pointer (some ⟨g, 0, none⟩), .int .i64 k] W fun e W' => e = .returned (.int .i64 4) ∧ RLog w W' g d x book n ks := by
  have zs := zeroSh
  have hrf := h.refuses
  rw [if_pos ho] at hrf
  have HSh : Hid (∀ V, RLog w V g d x book n ks → Calls Tryz.prog 24 #[.pointer (some ⟨g, 0, none⟩), .int .i64 k] V fun e W' => e = .returned (.tuple #[.agg (shRow 0 0 nought), .int .i64 4]) ∧ RLog w W' g d x book n ks) := fun V hV => hV.sheetBad hg _ hk
  clear h hg hk ho
  go_enter Tryz.func11, Tryz.ntmps11
  go_wp2_with (go_at_call 26; fail)
  refine hrf.mono ?_
  rintro e V1 ⟨rfl, hL1⟩
  have hsh := HSh.out V1 hL1
  clear hrf hL1 HSh
  go_wp2_with (go_at_call 24; fail)
  refine hsh.mono ?_
  rintro e V3 ⟨rfl, hL3⟩
  have HL : Hid _ := hL3.later (below_new V3 (.cells (shRow 0 0 nought) 78))
  clear hsh hL3
  go_upto_region 5 with (first | (with_reducible refine isStoreR 78 ?_; refine wpList_stNew 78 rfl (.tmp 6) (.tmp 17) rfl V3.heap.size (shRow 0 0 nought) (shRow 0 0 nought) 78 (sh_info _ _ _) (sh_two _ _ _ _ _ _) (sh_one _ _ _) rfl rfl rfl ?_))
  generalize V3.alloc (.cells (shRow 0 0 nought) 78) = V4 at *
  go_wp2
  go_ret
  exact ⟨rfl, HL.out⟩
set_option maxRecDepth 20000 in
set_option maxHeartbeats 1600000 in
theorem RLog.usedBad (h : RLog w W g d x book n ks) (hg : Ge x) (k : Int) (hk : k < 38 ∨ 400 ≤ k) :
    Calls Tryz.prog 8 #[.pointer (some ⟨g, 0, none⟩), .int .i64 k] W fun e W' => e = .returned (.tuple #[.bool false, .int .i64 4]) ∧ RLog w W' g d x book n ks := by
  have zs := zeroSh
  have hrf := h.check
  have HSh : Hid (∀ V, RLog w V g d x book n ks → Calls Tryz.prog 24 #[.pointer (some ⟨g, 0, none⟩), .int .i64 k] V fun e W' => e = .returned (.tuple #[.agg (shRow 0 0 nought), .int .i64 4]) ∧ RLog w W' g d x book n ks) := fun V hV => hV.sheetBad hg _ hk
  clear h hg hk
  go_enter Tryz.func8, Tryz.ntmps8
  go_wp2_with (go_at_call 23; fail)
  refine hrf.mono ?_
  rintro e V1 ⟨rfl, hL1⟩
  have hsh := HSh.out V1 hL1
  clear hrf hL1 HSh
  go_wp2_with (go_at_call 24; fail)
  refine hsh.mono ?_
  rintro e V3 ⟨rfl, hL3⟩
  have HL : Hid _ := hL3.later (below_new V3 (.cells (shRow 0 0 nought) 78))
  clear hsh hL3
  go_upto_region 5 with (first | (with_reducible refine isStoreR 78 ?_; refine wpList_stNew 78 rfl (.tmp 7) (.tmp 18) rfl V3.heap.size (shRow 0 0 nought) (shRow 0 0 nought) 78 (sh_info _ _ _) (sh_two _ _ _ _ _ _) (sh_one _ _ _) rfl rfl rfl ?_))
  generalize V3.alloc (.cells (shRow 0 0 nought) 78) = V4 at *
  go_wp2
  exact bodyPost_ret (results_tmp2 rfl _ _ _) rfl ⟨rfl, HL.out⟩
end
end Go.Proofs.YtkcgbhagjkhcmaaGreat
/- The example's log with the bits of its sheet: what each call makes of them; a log closed; the room's law awake. -/
namespace Go.Proofs.YtkcgbhagjkhcmaaGreat
open Go.RowKit Go.Maps
/-- The log lives, and its sheet's bit j is p j. -/
structure RB (w W : World) (g d : Nat) (x : Go.Proofs.YtkcgbhagjkhcmaaGreatW.LSt) (p : Nat → Bool) (n : Nat) (ks : List (Nat × Obj)) : Prop where
  ex : ∃ book, RLog w W g d x book n ks ∧ Bp (book 37) p ∧ Ge x
section
variable {w W W' : World} {g d n : Nat} {x x1 x2 : Go.Proofs.YtkcgbhagjkhcmaaGreatW.LSt} {p : Nat → Bool} {ks ks' : List (Nat × Obj)}
theorem RB.later (h : RB w W g d x p n ks) (hb : Below W.heap.size W W') : RB w W' g d x p n ks := by
  obtain ⟨b, h, hp⟩ := h
  exact ⟨b, h.later hb, hp⟩
theorem RB.obj (h : RB w W g d x p n ks) {q : Nat} {o : Obj} (hm : (q, o) ∈ ks) : W.heap[q]? = some o := by
  obtain ⟨b, h, hp⟩ := h
  exact h.obj hm
theorem RB.below (h : RB w W g d x p n ks) : Below w.heap.size w W := by
  obtain ⟨b, h, hp⟩ := h
  exact h.below
theorem RB.begin (h : RB w W g d x p n ks) (ho : x.opn = false) {r : Int} (hr : 1 ≤ r) (hr2 : (x.blocks.length : Int) + r ≤ 31) :
    Calls Tryz.prog 10 #[.pointer (some ⟨g, 0, none⟩), .int .i64 r] W fun e W' => e = .returned (.int .i64 0) ∧ RB w W' g d { x with opn := true, room := r } p n ks := by
  obtain ⟨b, h, hp, hg⟩ := h
  refine (h.begin ho hg hr hr2).mono ?_
  rintro e W' ⟨rfl, h3⟩
  exact ⟨rfl, b, h3, hp, hg.b, hg.l, hg.i⟩
theorem RB.ends (h : RB w W g d x p n ks) (ho : x.opn = true) (hs : x.steps < 1099511627776) :
    Calls Tryz.prog 13 #[.pointer (some ⟨g, 0, none⟩)] W fun e W' => e = .returned (.int .i64 0) ∧ RB w W' g d (Go.Proofs.YtkcgbhagjkhcmaaGreatW.endX x) p n ks := by
  obtain ⟨b, h, hp, hg⟩ := h
  refine (h.ends ho hs).mono ?_
  rintro e W' ⟨rfl, h3⟩
  exact ⟨rfl, b, h3, hp, hg.b, hg.l, hg.i⟩
theorem RB.free (h : RB w W g d x p (n + 1) ks) (k : Nat) (hk : 38 ≤ k ∧ k ≤ 400) (hp : ∀ j, p j = decide (j < k)) :
    Calls Tryz.prog 12 #[.pointer (some ⟨g, 0, none⟩)] W fun e W' => e = .returned (.tuple #[.int .i64 (400 - (k : Int)), .int .i64 0]) ∧ RB w W' g d x p n ks := by
  obtain ⟨b, h, hb, hg⟩ := h
  refine (h.free hg (hb.congr hp : Bm (b 37) k) hk).mono ?_
  rintro e W' ⟨rfl, h3⟩
  exact ⟨rfl, b, h3, hb, hg⟩
theorem RB.used (h : RB w W g d x p (n + 1) ks) (k : Nat) (hk : 38 ≤ k ∧ k < 400) :
    Calls Tryz.prog 8 #[.pointer (some ⟨g, 0, none⟩), .int .i64 (k : Int)] W fun e W' => e = .returned (.tuple #[.bool (p k), .int .i64 0]) ∧ RB w W' g d x p n ks := by
  obtain ⟨b, h, hb, hg⟩ := h
  refine (h.used hg hb k hk).mono ?_
  rintro e W' ⟨rfl, h3⟩
  exact ⟨rfl, b, h3, hb, hg⟩
theorem RB.usedBad (h : RB w W g d x p n ks) (k : Int) (hk : k < 38 ∨ 400 ≤ k) :
    Calls Tryz.prog 8 #[.pointer (some ⟨g, 0, none⟩), .int .i64 k] W fun e W' => e = .returned (.tuple #[.bool false, .int .i64 4]) ∧ RB w W' g d x p n ks := by
  obtain ⟨b, h, hb, hg⟩ := h
  refine (h.usedBad hg k hk).mono ?_
  rintro e W' ⟨rfl, h3⟩
  exact ⟨rfl, b, h3, hb, hg⟩
theorem RB.take (h : RB w W g d x p (n + 2) ks) (ho : x.opn = true) (k : Nat) (hk : 38 ≤ k ∧ k < 400) (hp : p k = false) (hl : ∀ j, 38 ≤ j → j < k → p j = true) (h1 : WrX x 37 x1) (h2 : WrX x1 (k : Int) x2) :
    Calls Tryz.prog 9 #[.pointer (some ⟨g, 0, none⟩)] W fun e W' => e = .returned (.tuple #[.int .i64 (k : Int), .int .i64 0]) ∧ RB w W' g d x2 (fun j => if j = k then true else p j) n ks := by
  obtain ⟨b, h, hb, hg⟩ := h
  refine (h.take hg ho hb k hk hp hl h1 h2).mono ?_
  rintro e W' ⟨rfl, h3⟩
  refine ⟨rfl, _, h3, ?_, h2.ge (h1.ge hg)⟩
  show Bp (if (37 : Int) = (k : Int) then nought else if (37 : Int) = 37 then Go.Proofs.YtkcgbhagjkhcmaaGreatV.setB (b 37) (k : Int) true else b 37) _
  rw [if_neg (by omega), if_pos rfl]
  exact hb.set k (by omega) true
theorem RB.takeStep (h : RB w W g d x p n ks) (ho : x.opn = false) : Calls Tryz.prog 9 #[.pointer (some ⟨g, 0, none⟩)] W fun e W' => e = .returned (.tuple #[.int .i64 0, .int .i64 180]) ∧ RB w W' g d x p n ks := by
  obtain ⟨b, h, hb, hg⟩ := h
  refine (h.takeStep ho).mono ?_
  rintro e W' ⟨rfl, h3⟩
  exact ⟨rfl, b, h3, hb, hg⟩
theorem RB.give (h : RB w W g d x p (n + 1) ks) (ho : x.opn = true) (k : Nat) (hk : 38 ≤ k ∧ k < 400) (hp : p k = true) (h1 : WrX x 37 x1) :
    Calls Tryz.prog 11 #[.pointer (some ⟨g, 0, none⟩), .int .i64 (k : Int)] W fun e W' => e = .returned (.int .i64 0) ∧ RB w W' g d x1 (fun j => if j = k then false else p j) n ks := by
  obtain ⟨b, h, hb, hg⟩ := h
  refine (h.give hg ho hb k hk hp h1).mono ?_
  rintro e W' ⟨rfl, h3⟩
  refine ⟨rfl, _, h3, ?_, h1.ge hg⟩
  show Bp (if (37 : Int) = 37 then Go.Proofs.YtkcgbhagjkhcmaaGreatV.setB (b 37) (k : Int) false else b 37) _
  rw [if_pos rfl]
  exact hb.set k (by omega) false
theorem RB.giveFree (h : RB w W g d x p (n + 1) ks) (ho : x.opn = true) (k : Nat) (hk : 38 ≤ k ∧ k < 400) (hp : p k = false) :
    Calls Tryz.prog 11 #[.pointer (some ⟨g, 0, none⟩), .int .i64 (k : Int)] W fun e W' => e = .returned (.int .i64 4) ∧ RB w W' g d x p n ks := by
  obtain ⟨b, h, hb, hg⟩ := h
  refine (h.giveFree hg ho hb k hk hp).mono ?_
  rintro e W' ⟨rfl, h3⟩
  exact ⟨rfl, b, h3, hb, hg⟩
theorem RB.giveBad (h : RB w W g d x p n ks) (ho : x.opn = true) (k : Int) (hk : k < 38 ∨ 400 ≤ k) :
    Calls Tryz.prog 11 #[.pointer (some ⟨g, 0, none⟩), .int .i64 k] W fun e W' => e = .returned (.int .i64 4) ∧ RB w W' g d x p n ks := by
  obtain ⟨b, h, hb, hg⟩ := h
  refine (h.giveBad hg ho k hk).mono ?_
  rintro e W' ⟨rfl, h3⟩
  exact ⟨rfl, b, h3, hb, hg⟩
/-- A log that is none, as a row. -/
def lgZ : Array Value := #[.pointer none, .pointer none, .int .i64 0, .int .i64 0, .int .i64 0, .int .i64 0, .int .i64 0, .int .i64 0, .int .i64 0, .int .i64 0, .int .i64 0, .int .i64 0, .pointer none, .slice none 0 0, .map none, .bool false, .int .i64 0, .int .i64 0, .int .i64 0]
theorem lgZ_info : (Tryz.prog.info? 56).map (·.size) = some lgZ.size := by kernel_rfl
theorem lgZ_one : lgZ.all (·.oneCell') = true := by simp [lgZ, Value.oneCell']
theorem zeroPL : ∀ w, (zeroValue 56).run Tryz.prog w = .ok (.agg lgZ) w := (zero_of_info (show (Tryz.prog.info? 56).map (fun i => (i.zero, i.size)) = some (some (.agg lgZ), 19) by kernel_rfl)).1
theorem build0Lg (u : World) : (Instr.build 56 #[]).run Tryz.prog u = .ok (.agg lgZ) u := by
  have z := zeroPL
  generalize lgZ = Z at *
  simp [Instr.build, z, run_underlying Tryz.underlying56, Instr.fill, Value.cells, go_sem]
theorem exec_build0Lg {o : Oper} {a : Act} {W : World} (ho : o.op = .build 56 #[]) : (execOp a.eval o).run Tryz.prog W = .ok (.value (.agg lgZ)) W := by
  have e := build0Lg W
  generalize lgZ = Z at *
  simp [execOp, ho, e]
theorem RB.row (h : RB w W g d x p n ks) : ∃ R, R.size = 19 ∧ W.heap[g]? = some (.cells R 56) ∧ w.heap.size ≤ g ∧ (∀ q ∈ ks, q.1 ≠ g) := by
  obtain ⟨b, ⟨t, ⟨s, ⟨c, mb, v, os, h⟩, hI⟩, _⟩, _⟩ := h
  exact ⟨_, rfl, h.log.row, (h.own g (.inl rfl)).1, fun q hq e => h.ap q hq (.inl e)⟩
set_option maxHeartbeats 1600000 in
/-- A log with nothing to commit is closed. -/
theorem RB.close (h : RB w W g d x p n ks) (ho : x.opn = false) (hb : x.blocks = []) :
    Calls Tryz.prog 14 #[.pointer (some ⟨g, 0, none⟩)] W fun e W' => e = .returned (.int .i64 0) ∧ Go.Proofs.YtkcgbhagjkhcmaaGreatW.NoneAt W' (.pointer (some ⟨g, 0, none⟩)) ∧ (∀ q ∈ ks, W'.heap[q.1]? = some q.2) ∧ Below w.heap.size w W' := by
  have HS : Hid (Calls Tryz.prog 37 #[.pointer (some ⟨g, 0, none⟩)] W fun e W' => e = .returned (.int .i64 0) ∧ RB w W' g d x p n ks) := by
    obtain ⟨b, ⟨t, h, h1, h2⟩, hp⟩ := h
    refine (Go.Proofs.YtkcgbhagjkhcmaaGreatW.LogI.syncNone h (ref_of h1 ho) hb).mono ?_
    rintro e W' ⟨rfl, h3⟩
    exact ⟨rfl, b, ⟨t, h3, h1, h2⟩, hp⟩
  clear h hb ho
  go_enter Tryz.func14, Tryz.ntmps14
  go_wp2_with (go_at_call 37; fail)
  refine HS.out.mono ?_
  rintro e W1 ⟨rfl, h1⟩
  obtain ⟨R, hs, hrow, hge, hne⟩ := h1.row
  have HZ : Hid ((W1.setRow g lgZ).heap[g]? = some (.cells lgZ 56)) := setRow_heap _ _ _ _ _ _ hrow
  have HK : Hid (∀ q ∈ ks, (W1.setRow g lgZ).heap[q.1]? = some q.2) := fun q hq => by
    have k1 := h1.obj (q := q.1) (o := q.2) hq
    exact ((Fr.setRow W1 g lgZ).block q.1 (Array.getElem?_eq_some_iff.1 k1).1 (hne q hq)).trans k1
  have HB : Hid (Below w.heap.size w (W1.setRow g lgZ)) := h1.below.trans ((Fr.setRow W1 g lgZ).below (fun i hi => by omega) h1.below.size)
  have hs2 : R.size = lgZ.size := hs
  have hz0 : lgZ[0]? = some (.pointer none) := rfl
  have HZ0 : Hid (lgZ[0]? = some (.pointer none)) := hz0
  have HI : Hid ((Tryz.prog.info? 56).map (·.size) = some lgZ.size) := lgZ_info
  have HO : Hid (lgZ.all (·.oneCell') = true) := lgZ_one
  have HE : Hid (∀ {o : Oper} {a : Act} {W : World}, o.op = .build 56 #[] → (execOp a.eval o).run Tryz.prog W = .ok (.value (.agg lgZ)) W) := fun ho => exec_build0Lg ho
  clear HS h1 hge hne hs hz0
  generalize lgZ = Z at *
  go_wp2_with (first | (with_reducible refine isBuildR 56 ?_; refine wpList_ex rfl (HE.out rfl) ?_) | (with_reducible refine isStoreR 56 ?_; refine wpList_stR 56 rfl _ _ rfl g Z R 56 HI.out hs2 HO.out rfl rfl hrow ?_))
  go_ret
  exact ⟨rfl, .inr ⟨g, rfl, (Joins.cell_of_block HZ.out 0).trans HZ0.out⟩, HK.out, HB.out⟩
end
/-- The example's log as it is made, with claim c. -/
def xA (c : Int) : Go.Proofs.YtkcgbhagjkhcmaaGreatW.LSt := Go.Proofs.YtkcgbhagjkhcmaaGreatW.newX 400 32 60 c
theorem curE37 : Go.Proofs.YtkcgbhagjkhcmaaGreatW.curV stE 37 = B0 := by
  show (stE.held 37).getD nought = B0
  have : stE.held 37 = some B0 := by
    show (Go.Proofs.YtkcgbhagjkhcmaaGreatW.holdV (Go.Proofs.YtkcgbhagjkhcmaaGreatW.holdV (Go.Proofs.YtkcgbhagjkhcmaaGreatW.holdV (Go.Proofs.YtkcgbhagjkhcmaaGreatW.holdV (Go.Proofs.YtkcgbhagjkhcmaaGreatW.newV 400) 0 (supP y0)) 33 N0) 37 B0) 38 D0).held 37 = some B0
    rw [hold_ne _ _ _ _ (by decide)]
    unfold Go.Proofs.YtkcgbhagjkhcmaaGreatW.holdV
    simp only [if_true]
    rw [blank_no (canE (37, B0) (by simp [imE])) 0 b0_zero]
    rfl
  rw [this]
  rfl
theorem rb_begin {W0 W : World} {gl gd : Nat} {ks : List (Nat × Obj)} (h : Go.Proofs.YtkcgbhagjkhcmaaGreatW.LogI W0 W gl gd (Go.Proofs.YtkcgbhagjkhcmaaGreatW.newX 400 32 60 (Go.Proofs.YtkcgbhagjkhcmaaGreatW.claimN stE)) (Go.Proofs.YtkcgbhagjkhcmaaGreatW.claimV (Go.Proofs.YtkcgbhagjkhcmaaGreatW.readS stE)) (Go.Proofs.YtkcgbhagjkhcmaaGreatW.curV stE) ks) : RB W0 W gl gd (xA (Go.Proofs.YtkcgbhagjkhcmaaGreatW.claimN stE)) (fun j => decide (j < 39)) 1000 ks := by
  refine ⟨_, ⟨_, h, ?_, ?_⟩, ?_, rfl, rfl, rfl⟩
  · rfl
  · refine ⟨?_, ?_, ?_, ?_⟩
    · show (0 : Nat) + 1001 < _; omega
    · show (0 : Int) + 1001 < _; omega
    · show (0 : Int) + 1 + 1001 < _; omega
    · show (0 : Int) + 1 + 1001 < _; omega
  · rw [curE37]
    exact bm_E
end Go.Proofs.YtkcgbhagjkhcmaaGreat
/- The room's law awake: the first block of an empty file system is taken. -/
namespace Go.Proofs.YtkcgbhagjkhcmaaGreat
open Go.RowKit Go.Maps
/-- The example's log with a step open; the sheet written; block 39 besides; 40; 41. -/
def xB (c r : Int) : Go.Proofs.YtkcgbhagjkhcmaaGreatW.LSt := { xA c with opn := true, room := r }
def xC (c r : Int) : Go.Proofs.YtkcgbhagjkhcmaaGreatW.LSt := { Go.Proofs.YtkcgbhagjkhcmaaGreatW.changeL (xB c r) 37 0 with room := r - 1 }
def xD (c r : Int) : Go.Proofs.YtkcgbhagjkhcmaaGreatW.LSt := { Go.Proofs.YtkcgbhagjkhcmaaGreatW.changeL (xC c r) 39 0 with room := r - 1 - 1 }
def xE (c r : Int) : Go.Proofs.YtkcgbhagjkhcmaaGreatW.LSt := { Go.Proofs.YtkcgbhagjkhcmaaGreatW.changeL (xD c r) 40 0 with room := r - 1 - 1 - 1 }
def xF (c r : Int) : Go.Proofs.YtkcgbhagjkhcmaaGreatW.LSt := { Go.Proofs.YtkcgbhagjkhcmaaGreatW.changeL (xE c r) 41 0 with room := r - 1 - 1 - 1 - 1 }
theorem wrBC (c r : Int) (h : r ≠ 0) : WrX (xB c r) 37 (xC c r) := .first rfl h
theorem wrCD (c r : Int) (h : r - 1 ≠ 0) : WrX (xC c r) ((39 : Nat) : Int) (xD c r) := .first rfl h
theorem wrDD (c r : Int) : WrX (xD c r) 37 (xD c r) := .again rfl
theorem wrDE (c r : Int) (h : r - 1 - 1 ≠ 0) : WrX (xD c r) ((40 : Nat) : Int) (xE c r) := .first rfl h
theorem wrEE (c r : Int) : WrX (xE c r) 37 (xE c r) := .again rfl
theorem wrEE2 (c r : Int) : WrX (xE c r) ((39 : Nat) : Int) (xE c r) := .again rfl
theorem wrEF (c r : Int) (h : r - 1 - 1 - 1 ≠ 0) : WrX (xE c r) ((41 : Nat) : Int) (xF c r) := .first rfl h
theorem pr_log {W : World} {gp gd gl gr gm : Nat} (h : W.heap[gp]? = some (.cells (prRow gd gl gr gm) 42)) : W.cell? ⟨gp, 1, none⟩ = some (.pointer (some ⟨gl, 0, none⟩)) := Joins.cell_of_block h 1
theorem RB.congr {w W : World} {g d n : Nat} {x : Go.Proofs.YtkcgbhagjkhcmaaGreatW.LSt} {p q : Nat → Bool} {ks : List (Nat × Obj)} (h : RB w W g d x p n ks) (e : ∀ j, p j = q j) : RB w W g d x q n ks := by
  obtain ⟨b, h1, hb, hg⟩ := h
  exact ⟨b, h1, hb.congr e, hg⟩
set_option maxRecDepth 20000 in
set_option maxHeartbeats 4000000 in
theorem awake_ok (w : World) : Calls Tryz.prog 7 #[] w fun e w' => e = .returned (.bool true) ∧ Below w.heap.size w w' := by
  have hex := example_ok w
  go_enter Tryz.func7, Tryz.ntmps7
  go_wp2_with (go_at_call 6; fail)
  refine hex.mono ?_
  rintro e V1 ⟨pi, pe, ce, ci, rfl, hE, _, _, hb1⟩
  have hbg := begin_ok ci hE
  have HB1 : Hid _ := hb1
  clear hex hE hb1
  generalize wdRow 400 32 60 (.slice pi 1 ci) 361 59 0 = WR at *
  go_wp2_with (go_at_call 5; fail)
  refine hbg.mono ?_
  rintro e V2 ⟨W0, gp, gl, gd, gr, gm, rfl, hb2, hlog⟩
  have h0 := rb_begin hlog
  have HB : Hid (Below w.heap.size w W0) := below_next HB1.out hb2
  clear hbg hb2 hlog HB1
  generalize Go.Proofs.YtkcgbhagjkhcmaaGreatW.claimN stE = c at *
  have cl := pr_log (h0.obj (List.mem_cons_self ..))
  have hc := RB.free (n := 999) h0 39 (by omega) (fun j => rfl)
  rw [show (400 : Int) - ((39 : Nat) : Int) = 361 by decide] at hc
  clear h0
  go_wp2_with (go_at_call 12; fail)
  refine hc.mono ?_
  rintro e V3 ⟨rfl, h1⟩
  clear hc cl
  have cl := pr_log (h1.obj (List.mem_cons_self ..))
  have hc : Calls Tryz.prog 10 #[.pointer (some ⟨gl, 0, none⟩), .int .i64 2] V3 fun e W' => e = .returned (.int .i64 0) ∧ RB W0 W' gl gd (xB c 2) _ _ _ := RB.begin (r := 2) h1 rfl (by omega) (show ((0 : Nat) : Int) + 2 ≤ 31 by omega)
  clear h1
  go_wp2_with (go_at_call 10; fail)
  refine hc.mono ?_
  rintro e V4 ⟨rfl, h2⟩
  clear hc cl
  have cl := pr_log (h2.obj (List.mem_cons_self ..))
  have hc := RB.take (n := 997) h2 rfl 39 (by omega) (by decide) (fun j q1 q2 => decide_eq_true (by omega)) (wrBC c 2 (by decide)) (wrCD c 2 (by decide))
  rw [show ((39 : Nat) : Int) = 39 by decide] at hc
  clear h2
  go_wp2_with (go_at_call 9; fail)
  refine hc.mono ?_
  rintro e V5 ⟨rfl, h3⟩
  clear hc cl
  have cl := pr_log (h3.obj (List.mem_cons_self ..))
  have hc := RB.ends h3 rfl (show (0 : Int) < 1099511627776 by omega)
  clear h3
  go_wp2_with (go_at_call 13; fail)
  refine hc.mono ?_
  rintro e V6 ⟨rfl, h4⟩
  clear hc cl
  have cl := pr_log (h4.obj (List.mem_cons_self ..))
  have hc := RB.used (n := 996) h4 39 (by omega)
  rw [show ((39 : Nat) : Int) = 39 by decide, if_pos rfl] at hc
  clear h4
  go_wp2_with (go_at_call 8; fail)
  refine hc.mono ?_
  rintro e V7 ⟨rfl, h5⟩
  have HBl : Hid _ := below_next HB.out h5.below
  clear hc cl h5
  go_wp2
  go_ret
  exact ⟨rfl, HBl.out⟩
end Go.Proofs.YtkcgbhagjkhcmaaGreat
