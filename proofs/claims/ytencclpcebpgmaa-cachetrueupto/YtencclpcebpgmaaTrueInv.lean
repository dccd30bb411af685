/- What holds behind so many steps of the law of what is put; each kind of step; no condition. -/
import Derived.Test.YtencclpcebpgmaaTrueRows
namespace Go.Proofs.Ytencclpcebpgmaa
open Go.RowKit Go.Maps
section
variable {ops : Array Oper} {rest : List Oper} {o : Oper} {a : Act} {w : World} {Q : Exit → Act → World → Prop}
theorem wpList_load81 (hgd : o.guard = none) (x : Operand) (ho : o.op = .load 81 x) (g : Nat) (hx : a.eval x = .pointer (some ⟨g, 0, none⟩)) (f : Int → Int) (hg : w.heap[g]? = some (.cells (uRow f) 81))
    (h : wpList Try.prog ops Q rest (a.put o.dst (.agg (uRow f))) w) : wpList Try.prog ops Q (o :: rest) a w :=
  wpList_load_row hgd 81 x ho g hx 81 (uRow f) (0, 0) _ hg Try.underlying81 rfl (by rw [uRow_size]; exact size81) h
theorem wpList_store81_new (hgd : o.guard = none) (x y : Operand) (ho : o.op = .store 81 x y) (f f0 : Int → Int) (hx : a.eval x = .pointer (some ⟨w.heap.size, 0, none⟩)) (hy : a.eval y = .agg (uRow f))
    (h : wpList Try.prog ops Q rest (a.put o.dst undef) (w.alloc (.cells (uRow f) 81))) : wpList Try.prog ops Q (o :: rest) a (w.alloc (.cells (uRow f0) 81)) :=
  wpList_plain hgd fun _ hK => by
    unfold Oper.wp execOp
    simp only [ho, hx, hy, Instr.storeAt, Instr.sureAddr, Sem.run_bind, Sem.run_pure, Result.andThen_ok, run_storeVar_row (w.alloc (.cells (uRow f0) 81)) w.heap.size 81 81 (uRow f0) (uRow f) (heap_alloc_new _ _) (by rw [uRow_size]; exact size81) (by rw [uRow_size, uRow_size]) (uRow_one f), World.setRow_alloc_new]
    exact hK _ _ h
theorem wpList_store81_at (hgd : o.guard = none) (x y : Operand) (ho : o.op = .store 81 x y) (f f0 : Int → Int) (g : Nat) (hg : g = w.heap.size) (hx : a.eval x = .pointer (some ⟨g, 0, none⟩)) (hy : a.eval y = .agg (uRow f))
    (h : wpList Try.prog ops Q rest (a.put o.dst undef) (w.alloc (.cells (uRow f) 81))) : wpList Try.prog ops Q (o :: rest) a (w.alloc (.cells (uRow f0) 81)) := by
  subst hg
  exact wpList_store81_new hgd x y ho f f0 hx hy h
end
/-- What holds behind i steps. -/
structure TI (i : Nat) (N : Nat) (s : CSt) (t : St) (book out : Int → Int) (fast : Int → Bool) (wn : Nat) : Prop where
  tr : TR s t book out fast wn
  size : s.size = N
  bb : ∀ k, 0 ≤ book k ∧ book k < 65536
  ob : ∀ k, 0 ≤ out k ∧ out k < 65536
  ops : t.ops.length ≤ i
  made : wn ≤ i
  reads : t.reads ≤ i
  claims : t.claims = 0
variable {i N : Nat} {s : CSt} {t : St} {book out : Int → Int} {fast : Int → Bool} {wn : Nat} {k : Int}
theorem TI.room {i N : Nat} {s : CSt} {t : St} {book out : Int → Int} {fast : Int → Bool} {wn : Nat} (h : TI i N s t book out fast wn) (hi : i ≤ 1048576) : Room t := ⟨by have := h.ops; omega, by have := h.made; rw [h.tr.made]; omega, by have := h.reads; omega, by rw [h.claims]; omega⟩
theorem TI.more (h : TI i N s t book out fast wn) : TI (i + 1) N s t book out fast wn := ⟨h.tr, h.size, h.bb, h.ob, by have := h.ops; omega, by have := h.made; omega, by have := h.reads; omega, h.claims⟩
theorem TI.used (h : TI i N s t book out fast wn) (hk : 0 ≤ k ∧ k < 16) : usedE s t k = if (fastN s.row : Int) = N ∧ fast k = false then 160 else 0 := by
  rw [h.tr.full hk, h.size]
theorem rd_full (h : usedE s t k = 160) : rdB s t k = nought ∧ rdC s t k = s ∧ rdD s t k = t := by
  unfold rdB rdC rdD
  rw [if_neg (by omega), if_neg (by omega), if_neg (by omega)]
  exact ⟨rfl, rfl, rfl⟩
theorem put_full {f : Nat → Int} (h : usedE s t k = 160) : putC s t k f = s := by
  unfold putC
  rw [if_neg (by omega)]
theorem rdD_same (s : CSt) (t : St) (k : Int) : (rdD s t k).ops = t.ops ∧ (rdD s t k).reads ≤ t.reads + 1 ∧ (rdD s t k).claims = t.claims := by
  unfold rdD
  split
  · split
    · exact ⟨rfl, by omega, rfl⟩
    · exact ⟨rfl, Int.le_refl _, rfl⟩
  · exact ⟨rfl, by omega, rfl⟩
theorem TI.readOk (h : TI i N s t book out fast wn) (hk : 0 ≤ k ∧ k < 16) (hu : usedE s t k = 0) (hok : COk (rdC s t k)) : TI (i + 1) N (rdC s t k) (rdD s t k) book out fast wn ∧ (fastN (rdC s t k).row : Int) = fastN s.row ∧ rdB s t k = fillF (book k) := by
  obtain ⟨h1, h2, h3⟩ := h.tr.read hk hu hok
  obtain ⟨q1, q2, q3⟩ := rdD_same s t k
  exact ⟨⟨h1, h3.trans h.size, h.bb, h.ob, by rw [q1]; have := h.ops; omega, by have := h.made; omega, by have := h.reads; omega, q3.trans h.claims⟩, by rw [h2], h.tr.reads hk hu⟩
theorem TI.putOk (h : TI i N s t book out fast wn) (hk : 0 ≤ k ∧ k < 16) (hu : usedE s t k = 0) {x : Int} (hx : 0 ≤ x ∧ x < 65536) (hok : COk (putC s t k (fillF x))) :
    TI (i + 1) N (putC s t k (fillF x)) t (fun j => if j = k then x else book j) out (fun j => if j = k then true else fast j) wn ∧ (fastN (putC s t k (fillF x)).row : Int) = fastN s.row + (if fast k then 0 else 1) := by
  obtain ⟨h1, h2, h3⟩ := h.tr.put hk hu x hok
  refine ⟨⟨h1, h3.trans h.size, fun j => ?_, h.ob, by have := h.ops; omega, by have := h.made; omega, by have := h.reads; omega, h.claims⟩, h2⟩
  show 0 ≤ (if j = k then x else book j) ∧ (if j = k then x else book j) < 65536
  split
  · exact hx
  · exact h.bb j
theorem writeV_same (t : St) (k : Int) (f : Nat → Int) : (writeV t k f).ops.length ≤ t.ops.length + 1 ∧ (writeV t k f).reads = t.reads ∧ (writeV t k f).claims = t.claims := by
  have hl : (letV t).reads = t.reads ∧ (letV t).claims = t.claims := by unfold letV; split <;> exact ⟨rfl, rfl⟩
  unfold writeV
  split
  · split
    · exact ⟨by rw [writeS_ops]; simp, hl.1, hl.2⟩
    · exact ⟨by rw [letV_ops]; omega, hl.1, hl.2⟩
  · exact ⟨by omega, rfl, rfl⟩
theorem flushD_same (s : CSt) (t : St) (k : Int) : (flushD s t k).ops.length ≤ t.ops.length + 1 ∧ (flushD s t k).reads = t.reads ∧ (flushD s t k).claims = t.claims := by
  unfold flushD
  split
  · split
    · split
      · exact writeV_same ..
      · exact ⟨by omega, rfl, rfl⟩
    · exact ⟨by omega, rfl, rfl⟩
  · exact ⟨by omega, rfl, rfl⟩
theorem TI.flush (h : TI i N s t book out fast wn) (hk : 0 ≤ k ∧ k < 16) (hok : COk (flushC s t k)) :
    flushE s t k = 0 ∧ (fast k = true → TI (i + 1) N (flushC s t k) (flushD s t k) book (fun j => if j = k then book k else out j) (fun j => if j = k then false else fast j) (wn + 1) ∧ (fastN (flushC s t k).row : Int) = fastN s.row - 1) ∧
      (fast k = false → TI (i + 1) N (flushC s t k) (flushD s t k) book out (fun j => if j = k then false else fast j) wn ∧ (fastN (flushC s t k).row : Int) = fastN s.row) := by
  obtain ⟨h0, h1, h2, h3⟩ := h.tr.flush hk hok
  obtain ⟨q1, q2, q3⟩ := flushD_same s t k
  refine ⟨h0, fun hf => ?_, fun hf => ?_⟩
  · rw [hf] at h1 h2
    simp only [and_true, if_true] at h1 h2
    refine ⟨⟨h1, h3.trans h.size, h.bb, fun j => ?_, by have := h.ops; omega, by have := h.made; omega, by rw [q2]; have := h.reads; omega, q3.trans h.claims⟩, h2⟩
    show 0 ≤ (if j = k then book k else out j) ∧ (if j = k then book k else out j) < 65536
    split
    · exact h.bb k
    · exact h.ob j
  · rw [hf] at h1 h2
    simp only [Bool.false_eq_true, and_false, if_false, Int.add_zero, Int.sub_zero] at h1 h2
    exact ⟨⟨h1, h3.trans h.size, h.bb, h.ob, by have := h.ops; omega, by have := h.made; omega, by rw [q2]; have := h.reads; omega, q3.trans h.claims⟩, h2⟩
theorem TR.readS (h : TR s t book out fast wn) : TR s (readS t) book out fast wn := ⟨h.n, h.run, h.made, h.ok, h.cur, h.row, h.held, h.same⟩
theorem TI.start {N : Nat} (f : Int → Int) (hf : ∀ i, 0 ≤ f i ∧ f i < 65536) (hN : 1 ≤ N ∧ N ≤ 8) : TI 0 N (newC (N : Int)) (loadV 16 (imgL (fun i => f i) 16)) (fun k => f k.toNat) (fun k => f k.toNat) (fun _ => false) 0 := by
  obtain ⟨h, e⟩ := holdAll_same (imgL (fun i => f i) 16) (newV 16)
  have hL : loadV 16 (imgL (fun i => f i) 16) = { newV 16 with held := h } := e
  exact ⟨TR.start (fun i => f i) (fun i => hf i) (by omega), rfl, fun k => hf _, fun k => hf _, by rw [hL]; exact Nat.le_refl 0, Nat.le_refl _, by rw [hL]; exact Int.le_refl 0, by rw [hL]; rfl⟩
end Go.Proofs.Ytencclpcebpgmaa
