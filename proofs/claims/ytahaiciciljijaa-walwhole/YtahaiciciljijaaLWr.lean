import Derived.Test.YtahaiciciljijaaLCSt3
/- Any write of a log in a step; Begin and Sync on a disk without a fuse; a list of numbers beside a log; no condition. -/
namespace Go.Proofs.Ytahaiciciljijaa
open Go.RowKit Go.Maps
variable {w W1 W W' : World} {g d q8 : Nat} {LA : Array Value} {v : Value} {zs : List Int} {s : CSt} {book book' : Int → Nat → Int} {x x' : LSt} {t t' : St} {ks : List (Nat × Obj)}
/-- What a write leaves of a log. -/
def wrX (x : LSt) (k : Int) : LSt := if byB x k x.steps = true then x else { changeL x k x.steps with room := x.room - 1 }
theorem wrX_same (x : LSt) (k : Int) : (wrX x k).b = x.b ∧ (wrX x k).l = x.l ∧ (wrX x k).i = x.i ∧ (wrX x k).claim = x.claim ∧ (wrX x k).opn = x.opn ∧ (wrX x k).steps = x.steps ∧ (wrX x k).commits = x.commits ∧ x.room - 1 ≤ (wrX x k).room := by
  unfold wrX
  split
  · exact ⟨rfl, rfl, rfl, rfl, rfl, rfl, rfl, by omega⟩
  · exact ⟨rfl, rfl, rfl, rfl, rfl, rfl, rfl, Int.le_refl _⟩
theorem Inv.wrote (h : Inv x s t book) (k : Int) : (wrX x k).blocks = ordV x.blocks k := by
  have hl := h.last k
  unfold wrX ordV
  by_cases hby : byB x k x.steps = true
  · have hs : x.last k = some x.steps := by unfold byB at hby; simpa using hby
    have hm : k ∈ x.blocks := by
      by_cases hm : k ∈ x.blocks
      · exact hm
      · rw [hl.2 hm] at hs
        cases hs
    rw [if_pos hby, if_pos hm]
  · rw [if_neg hby]
    show (if x.last k = none then x.blocks ++ [k] else x.blocks) = _
    by_cases hm : k ∈ x.blocks
    · rw [if_pos hm, if_neg (fun q => hl.1 q hm)]
    · rw [if_neg hm, if_pos (hl.2 hm)]
theorem LogI.wrote (h : LogI w W g d x t book ks) (k : Int) : (wrX x k).blocks = ordV x.blocks k := by
  obtain ⟨s, _, hI⟩ := h
  exact hI.wrote k
theorem LogI.wr (h : LogI w W g d x t book ks) {k : Int} {f : Nat → Int} (hf : Can f) (hr : refL x t true = 0) (hk : 1 + x.l ≤ k ∧ k < x.b) (hz : 1 ≤ x.room) :
    Calls Try.prog 30 #[ptr g, .int .i64 k, .agg (blk f)] W fun e W' => e = .returned (.int .i64 0) ∧ LogI w W' g d (wrX x k) t (fun j => if j = k then f else book j) ks := by
  unfold wrX
  by_cases hby : byB x k x.steps = true
  · rw [if_pos hby]
    exact h.rewrite hf hr hk hby
  · rw [if_neg hby]
    exact h.write hf hr hk (by simpa using hby) (by omega)
/-- A log on a disk that goes. -/
structure Going (b l i : Int) (x : LSt) (t : St) : Prop where
  xb : x.b = b
  xl : x.l = l
  xi : x.i = i
  xc : x.claim = 1
  st : t.stopped = false
  fu : t.fuse = -1
  cl : t.claims = 1
  cd : t.claimed = true
  rd : t.reads ≤ 1000000
  op : (t.ops.length : Int) ≤ t.made
theorem Going.chk {b l i : Int} (h : Going b l i x t) : chkE x t = 0 := chk_of (live_of h.st h.cl h.cd) h.xc
theorem Going.ref {b l i : Int} (h : Going b l i x t) {o : Bool} (ho : x.opn = o) : refL x t o = 0 := refL_of (live_of h.st h.cl h.cd) h.xc ho
theorem Going.rm {b l i : Int} (h : Going b l i x t) (hm : t.made ≤ 1000000) {n : Nat} (hn : n ≤ 1000000) : Rm t n := by
  have h1 := h.rd
  have h2 := h.op
  have h3 := h.cl
  exact ⟨by omega, by omega, by omega, by omega⟩
theorem Going.turn {b l i : Int} (h : Going b l i x t) (hb : x'.b = x.b) (hl : x'.l = x.l) (hi : x'.i = x.i) (hc : x'.claim = x.claim) : Going b l i x' t := ⟨hb.trans h.xb, hl.trans h.xl, hi.trans h.xi, hc.trans h.xc, h.st, h.fu, h.cl, h.cd, h.rd, h.op⟩
theorem Going.wr {b l i : Int} (h : Going b l i x t) (k : Int) : Going b l i (wrX x k) t := by
  obtain ⟨h1, h2, h3, h4, _⟩ := wrX_same x k
  exact h.turn h1 h2 h3 h4
/-- Behind a commit. -/
theorem LogI.went {b l i : Int} (h : LogI w W g d x t book ks) (hG : Going b l i x t) (hb : x'.b = x.b) (hl : x'.l = x.l) (hi : x'.i = x.i) (hc : x'.claim = x.claim) : runE (cmtOps x book) t = 0 ∧ Going b l i x' (runV (cmtOps x book) t) ∧ (runV (cmtOps x book) t).made = t.made + (2 * x.blocks.length + 6 : Nat) := by
  obtain ⟨s, _, hI⟩ := h
  obtain ⟨a1, a2, a3, a4⟩ := run_free (cmtOps x book) t hG.st hG.fu (cmt_in hI hI.c.n)
  obtain ⟨_, b2, b3, b4, b5, b6⟩ := run_nums (cmtOps x book) t
  rw [cmt_len] at a2 b6
  have h1 := hG.op
  exact ⟨a1, ⟨hb.trans hG.xb, hl.trans hG.xl, hi.trans hG.xi, hc.trans hG.xc, a4, a3, b3.trans hG.cl, b4.trans hG.cd, by rw [b2]; exact hG.rd, by omega⟩, a2⟩
/-- Does a Begin commit first? -/
def bgOver (x : LSt) (r : Int) : Bool := decide (x.l - 1 < (x.blocks.length : Int) + r)
def bgX (x : LSt) (r : Int) : LSt := if bgOver x r = true then { forgotL x with commits := x.commits + 1, opn := true, room := r } else { x with opn := true, room := r }
def bgT (x : LSt) (book : Int → Nat → Int) (t : St) (r : Int) : St := if bgOver x r = true then runV (cmtOps x book) t else t
theorem LogI.beginAny {b l i r : Int} (h : LogI w W g d x t book ks) (hG : Going b l i x t) (ho : x.opn = false) (hr1 : 1 ≤ r) (hr2 : r ≤ l - 1) (hm : t.made ≤ 1000000) (hcm : x.commits < 1000000) :
    Calls Try.prog 29 #[ptr g, .int .i64 r] W fun e W' => e = .returned (.int .i64 0) ∧ LogI w W' g d (bgX x r) (bgT x book t r) book ks := by
  have hxl := hG.xl
  unfold bgX bgT
  by_cases hov : bgOver x r = true
  · have hlen : (x.blocks.length : Int) ≤ x.l - 1 ∧ x.l ≤ 256 := by
      obtain ⟨s, _, hI⟩ := h
      exact ⟨hI.len, hI.fine.2.1⟩
    rw [if_pos hov, if_pos hov]
    have hE := (h.went hG (x' := x) rfl rfl rfl rfl).1
    refine (h.beginOver (hG.ref ho) hr1 (by omega) (of_decide_eq_true hov) (hG.rm hm (by omega)) (by omega)).mono ?_
    rintro e W' ⟨h1, _, h3⟩
    exact ⟨by rw [h1, hE], h3 hE⟩
  · rw [if_neg hov, if_neg hov]
    exact h.begin (hG.ref ho) hr1 (by
      unfold bgOver at hov
      simp only [decide_eq_true_eq] at hov
      omega)
theorem LogI.begun {b l i r : Int} (h : LogI w W g d x t book ks) (hG : Going b l i x t) : Going b l i (bgX x r) (bgT x book t r) ∧ (bgX x r).blocks = (if bgOver x r = true then [] else x.blocks) ∧ (bgX x r).opn = true ∧ (bgX x r).room = r ∧ (bgX x r).steps = x.steps ∧ (bgX x r).commits = (if bgOver x r = true then x.commits + 1 else x.commits) ∧ (bgT x book t r).made = (if bgOver x r = true then t.made + (2 * x.blocks.length + 6 : Nat) else t.made) := by
  unfold bgX bgT
  by_cases hov : bgOver x r = true
  · obtain ⟨_, h2, h3⟩ := h.went hG (x' := { forgotL x with commits := x.commits + 1, opn := true, room := r }) rfl rfl rfl rfl
    simp only [if_pos hov]
    exact ⟨h2, rfl, trivial, trivial, rfl, trivial, h3⟩
  · simp only [if_neg hov]
    exact ⟨hG.turn rfl rfl rfl rfl, trivial, trivial, trivial, trivial, trivial, trivial⟩
theorem LogI.openL (h : LogI w W g d x t book ks) (hc : chkE x t = 0) : Calls Try.prog 48 #[ptr g] W fun e W' => e = .returned (.bool x.opn) ∧ LogI w W' g d x t book ks := by
  obtain ⟨s, ⟨c, mb, v, os, h⟩, hI⟩ := h
  refine h.openL.mono ?_
  rintro e W' ⟨rfl, m, rfl⟩
  exact ⟨by rw [hc]; simp, s, ⟨c, mb, v, os, h.later (below_drewN _ m)⟩, hI⟩
/-- A list of numbers, beside a log and other blocks. -/
def ZX (W1 W : World) (g d : Nat) (x : LSt) (t : St) (book : Int → Nat → Int) (v : Value) (zs : List Int) (ks : List (Nat × Obj)) : Prop :=
  ∃ o, LogI W1 W g d x t book (o ++ ks) ∧ Holds W1.heap.size o 3 1 v zs.length (zs.map (Value.int .i64)) ∧ ∀ p ∈ ks, v.ownBlock ≠ some p.1
theorem LogI.zx (h : LogI W1 W g d x t book ks) : ZX W1 W g d x t book (.slice none 0 0) [] ks := ⟨[], h, Holds.nil _ _ _, fun _ _ q => (by cases q)⟩
theorem ZX.log (h : ZX W1 W g d x t book v zs ks) : LogI W1 W g d x t book ks := by
  obtain ⟨o, h1, _⟩ := h
  exact h1.drop fun p hp => List.mem_append.2 (.inr hp)
theorem ZX.later (h : ZX W1 W g d x t book v zs ks) (hb : Below W.heap.size W W') : ZX W1 W' g d x t book v zs ks := by
  obtain ⟨o, h1, h2⟩ := h
  exact ⟨o, h1.later hb, h2⟩
theorem ZX.below (h : ZX W1 W g d x t book v zs ks) : Below W1.heap.size W1 W := h.log.below
theorem ZX.obj (h : ZX W1 W g d x t book v zs ks) {q : Nat} {o : Obj} (hp : (q, o) ∈ ks) : W.heap[q]? = some o := h.log.obj hp
theorem ZX.call {fn : Nat} {args : Array Value} {E : Ending} (h : ZX W1 W g d x t book v zs ks) (hc : ∀ ks, LogI W1 W g d x t book ks → Calls Try.prog fn args W fun e W' => e = E ∧ LogI W1 W' g d x' t' book' ks) :
    Calls Try.prog fn args W fun e W' => e = E ∧ ZX W1 W' g d x' t' book' v zs ks := by
  obtain ⟨o, h1, h2⟩ := h
  exact (hc _ h1).mono fun e W' ⟨he, h3⟩ => ⟨he, o, h3, h2⟩
theorem ZX.owns (h : ZX W1 W g d x t book v zs ks) : W.ownsRow W1.heap.size 3 1 v zs.length (zs.map (Value.int .i64)) := by
  obtain ⟨o, h1, h2, _⟩ := h
  exact h1.owns h2
theorem ZX.ints (h : ZX W1 W g d x t book v zs ks) : ∃ p c, v = .slice p zs.length c ∧ H.IntsAt W p zs := by
  obtain ⟨p, c, h1, h2, _⟩ := H.ints_of_row h.owns
  exact ⟨p, c, h1, h2⟩
theorem ZX.push (h : ZX W1 W g d x t book v zs ks) (hl : zs.length ≤ 1000) (y : Int) (ty : TypeId) :
    ∃ v' W', (Builtin.append_ #[44, 44] ty #[v, .slice (some ⟨W.heap.size, 0, none⟩) 1 1]).run Try.prog (W.alloc (.cells #[.int .i64 y] 3)) = .ok v' W' ∧ ZX W1 W' g d x t book v' (zs ++ [y]) ks := by
  have hW := h.below.size
  obtain ⟨o, h1, h2, h3⟩ := h
  obtain ⟨i0, hi0, hz0, hz1, hz2⟩ := info_parts H.info3
  obtain ⟨v', W', own', hr, q1, q2, q3⟩ := h1.push Try.underlying44 hi0 hz0 hz1 hz2 rfl (by decide) h2 (Nat.le_refl _) hW h3 (m := 1) (news := [.int .i64 y]) (by omega) rfl (fun u hu => by simp at hu; subst hu; rfl) (by unfold maxLen; omega) (by omega) ty
  refine ⟨v', W', hr, own', q1, ?_, q3⟩
  rw [List.length_append, List.map_append]
  exact q2
/-- Behind a Begin: the list beside a log, as the law keeps it. -/
theorem ZX.over {b l i r : Int} {W0 : World} {ks0 : List (Nat × Obj)} (h : ZX W1 W g d (bgX x r) (bgT x book t r) book v x.blocks ks) (h0 : LogI W1 W0 g d x t book ks0) (hG : Going b l i x t) (hov : bgOver x r = true) :
    ∃ X T, ZX W1 W g d X T book (.slice none 0 0) X.blocks ks ∧ Going b l i X T ∧ X.opn = true ∧ X.steps = x.steps ∧ X.commits = x.commits + 1 ∧ T.made = t.made + (2 * x.blocks.length + 6 : Nat) ∧ X.room = r ∧ X.blocks.length = 0 := by
  obtain ⟨a1, a2, a3, a4, a5, a6, a7⟩ := h0.begun (r := r) hG
  rw [if_pos hov] at a2 a6 a7
  refine ⟨_, _, ?_, a1, a3, a5, a6, a7, a4, by rw [a2]; rfl⟩
  rw [a2]
  exact h.log.zx
theorem ZX.under {b l i r : Int} {W0 : World} {ks0 : List (Nat × Obj)} (h : ZX W1 W g d (bgX x r) (bgT x book t r) book v x.blocks ks) (h0 : LogI W1 W0 g d x t book ks0) (hG : Going b l i x t) (hov : ¬ bgOver x r = true) :
    ∃ X T, ZX W1 W g d X T book v X.blocks ks ∧ Going b l i X T ∧ X.opn = true ∧ X.steps = x.steps ∧ X.commits = x.commits ∧ T.made = t.made ∧ X.room = r ∧ X.blocks.length = x.blocks.length := by
  obtain ⟨a1, a2, a3, a4, a5, a6, a7⟩ := h0.begun (r := r) hG
  rw [if_neg hov] at a2 a6 a7
  refine ⟨_, _, ?_, a1, a3, a5, a6, a7, a4, by rw [a2]⟩
  rw [a2]
  exact h
end Go.Proofs.Ytahaiciciljijaa
/- An operation that only reads, in a drawn region, by what it comes to. -/
namespace Go.Proofs.Ytahaiciciljijaa
open Go.RowKit Go.Maps
theorem wpStill_exec {ops : Array Oper} {Q : Act → Prop} {a : Act} {o : Oper} {rest : List Oper} {w : World} {v : Value} (hw : Region.wanted o (yielded ops a.tmps) = true) (hr : (execOp a.eval o).run Try.prog w = .ok (.value v) w)
    (h : wpStill Try.prog ops w Q rest (a.put o.dst v)) : wpStill Try.prog ops w Q (o :: rest) a := by
  unfold wpStill
  rw [if_pos hw]
  unfold Oper.still
  rw [hr]
  exact ⟨rfl, h⟩
section
variable {P : Program} {ops : Array Oper} {Q : Exit → Act → World → Prop} {S : World → Prop} {r : List (Bool × Oper)} {a : Act} {w w' : World} {o : Oper} {v : Value}
theorem wpOrd_val (hw : Region.wanted o (yielded ops a.tmps) = true) (hr : (execOp a.eval o).run P w = .ok (.value v) w') (hS : S w') (h : wpOrd P ops Q S r (a.put o.dst v) w') : wpOrd P ops Q S ((false, o) :: r) a w := by
  simp only [wpOrd, hw, if_true]
  unfold Oper.wp
  rw [hr]
  exact ⟨hS, h⟩
end
section
variable {a : Act} {u : World} {o : Oper}
theorem exec_ld3 {y : Operand} {q k : Nat} {v : Value} (ho : o.op = .load 3 y) (hx : a.eval y = .pointer (some ⟨q, k, none⟩)) (hc : u.cell? ⟨q, k, none⟩ = some v) : (execOp a.eval o).run Try.prog u = .ok (.value v) u := by
  simp only [execOp, ho, hx]
  go_simp
theorem exec_ldM {y : Operand} {q k : Nat} {f : Nat → Int} (ho : o.op = .load 23 y) (hx : a.eval y = .pointer (some ⟨q, k, none⟩)) (hc : BlkAt u q k f) : (execOp a.eval o).run Try.prog u = .ok (.value (.agg (blk f))) u := by
  have e := run_loadAt_mid (P := Try.prog) u q k 23 (blk f).toList _ hc Try.underlying23 rfl (by rw [blk_list_len]; exact size25)
  rw [Array.toArray_toList] at e
  unfold execOp
  simp only [ho, hx, e, Sem.run_bind, Result.andThen_ok, Sem.run_pure]
theorem exec_ix69 {y z : Operand} {q n c k : Nat} (ho : o.op = .indexAddr 69 y z) (hx : a.eval y = .slice (some ⟨q, 0, none⟩) n c) (hz : a.eval z = .int .i64 (k : Int)) (hk : k < n) : (execOp a.eval o).run Try.prog u = .ok (.value (.pointer (some ⟨q, k * 1024, none⟩))) u := by
  have hk' : ((k : Int) < (n : Int)) := by omega
  simp only [execOp, ho, hx, hz]
  go_simp
theorem exec_ix44 {y z : Operand} {q off n c k : Nat} (ho : o.op = .indexAddr 44 y z) (hx : a.eval y = .slice (some ⟨q, off, none⟩) n c) (hz : a.eval z = .int .i64 (k : Int)) (hk : k < n) : (execOp a.eval o).run Try.prog u = .ok (.value (.pointer (some ⟨q, off + k, none⟩))) u := by
  have hk' : ((k : Int) < (n : Int)) := by omega
  simp only [execOp, ho, hx, hz]
  go_simp
end
end Go.Proofs.Ytahaiciciljijaa
/- A play in memory: its row, its steps, its numbers; what a walk reads of it; no condition. -/
namespace Go.Proofs.Ytahaiciciljijaa
open Go.RowKit Go.Maps
theorem size53 : (Try.prog.info? 53).map (·.size) = some 9 := by kernel_rfl
theorem size23p : (Try.prog.info? 25).map (·.size) = some 3 := by kernel_rfl
variable {u w W : World} {q : Nat} {b l i : Int} {p p2 p3 p4 : Option Addr} {n c n2 c2 n3 c3 n4 c4 : Nat} {st ag : Int} {ss : List (Option Addr × Nat × Nat)} {sy : List Int}
theorem exec_loadG {a : Act} {o : Oper} {y : Operand} (ho : o.op = .load 25 y) (hx : a.eval y = .pointer (some ⟨q, 0, none⟩)) (h : u.heap[q]? = some (.cells (playA b l i p n c p2 n2 c2 st p3 n3 c3 ag p4 n4 c4) 53)) :
    (execOp a.eval o).run Try.prog u = .ok (.value (.agg #[.int .i64 b, .int .i64 l, .int .i64 i])) u := by
  have e := run_loadVar_mid (P := Try.prog) u q 0 25 [.int .i64 b, .int .i64 l, .int .i64 i] _ (World.rangeAt_of_block h 0 3) Try.underlying25 rfl size23p
  unfold execOp
  simp only [ho, hx, Instr.loadAt, Instr.sureAddr, Sem.run_bind, Sem.run_pure, Result.andThen_ok, e]
theorem play_cells (h : u.heap[q]? = some (.cells (playA b l i p n c p2 n2 c2 st p3 n3 c3 ag p4 n4 c4) 53)) : u.cell? ⟨q, 0, none⟩ = some (.int .i64 b) ∧ u.cell? ⟨q, 1, none⟩ = some (.int .i64 l) ∧ u.cell? ⟨q, 3, none⟩ = some (.slice p n c) ∧ u.cell? ⟨q, 4, none⟩ = some (.slice p2 n2 c2) :=
  ⟨Joins.cell_of_block h 0, Joins.cell_of_block h 1, Joins.cell_of_block h 3, Joins.cell_of_block h 4⟩
/-- What a play's lists are. -/
def PlayAt (w : World) (p : Option Addr) (ss : List (Option Addr × Nat × Nat)) (p2 : Option Addr) (sy : List Int) : Prop :=
  StepsAt w p ss ∧ (∀ s ∈ ss, ∃ cs : List (Int × Int), cs.length = s.2.1 ∧ ChsAt w s.1 cs ∧ ∀ c ∈ cs, 0 ≤ c.2 ∧ c.2 ≤ 255) ∧ H.IntsAt w p2 sy
theorem PlayAt.later (h : PlayAt w p ss p2 sy) (hb : Below w.heap.size w W) : PlayAt W p ss p2 sy := by
  refine ⟨h.1.later hb, fun s hs => ?_, h.2.2.later hb⟩
  obtain ⟨cs, h1, h2, h3⟩ := h.2.1 s hs
  exact ⟨cs, h1, h2.later hb, h3⟩
end Go.Proofs.Ytahaiciciljijaa
