/- What stands behind a commit: the claim, the header, the history; a thing done laid into a new cell; no condition. -/
import Derived.Test.YtahaiciciljijaaLCSt
import Derived.Test.YtahaiciciljijaaLPower
namespace Go.Proofs.Ytahaiciciljijaa
open Go.RowKit Go.Maps
variable {w W1 W W' : World} {g d q8 : Nat} {LA : Array Value} {v10 v11 v18 : Value} {zs : List Int} {fs : List (Nat → Int)} {book : Int → Nat → Int} {x x' : LSt} {t t' : St} {ks : List (Nat × Obj)} {want : List Rec}
theorem LogI.ran (h : LogI w W g d x t book ks) (hs : t.stopped = false) (hf : t.fuse = -1) (hc : t.claims = 1) (hd : t.claimed = true) : claimedV (runV (cmtOps x book) t) 1 = true := by
  obtain ⟨s, _, hI⟩ := h
  obtain ⟨_, _, _, a4⟩ := run_free (cmtOps x book) t hs hf (cmt_in hI hI.c.n)
  obtain ⟨_, _, b3, b4, _⟩ := run_nums (cmtOps x book) t
  exact live_of a4 (b3.trans hc) (b4.trans hd)
theorem rm_fresh (b : Int) (n : Nat) (hn : n ≤ 100) : Rm (freshT b) n := by
  have h0 : (freshT b).ops = [] := rfl
  have h1 : (freshT b).made = 0 := rfl
  have h2 : (freshT b).reads = 1 := rfl
  have h3 : (freshT b).claims = 1 := rfl
  unfold Rm
  rw [h0, h1, h2, h3]
  exact ⟨by show 0 + n < _; omega, by omega, by omega, by omega⟩
theorem LogI.encodes {b l i r : Int} {ord : List Int} (h : LogI w W g d (grpX b l i r ord) t book ks) {p : Option Addr} {cp : Nat} {V : World} (hi : H.IntsAt V p ord) :
    Calls Try.prog 35 #[.agg (layA b l i), .agg #[.slice p ord.length cp]] V fun e W' => e = .returned (.tuple #[.agg (blk (H.headF ord)), .int .i64 0]) ∧ Below V.heap.size V W' := by
  obtain ⟨s, _, hI⟩ := h
  have hf : H.Fine b l i := hI.fine
  have hlen : (ord.length : Int) ≤ l - 1 := hI.len
  have hst : H.standsB b l i 1 (1 + l) (H.nodeB i) (H.bitsAt l i) (H.bitsB b) (H.dataAt b l i) = true := decide_eq_true ⟨hf, rfl, rfl, rfl, rfl, rfl, rfl⟩
  have hP : H.MayP (1 + l) b (l - 1) ord := ⟨hI.len, hI.rng, hI.nd⟩
  have hpos := H.Fine.pos hf
  have h1 := hf.1
  have h2 := hf.2.1
  have h3 := hf.2.2.2.2.1
  exact H.enc_ok b l i 1 (1 + l) (H.nodeB i) (H.bitsAt l i) (H.bitsB b) (H.dataAt b l i) ord p cp V (by unfold H.I64; omega) hst ⟨hf.1, hf.2.1⟩ hi (hP.u (by omega) (by omega)) (by omega) (decide_eq_true hP)
theorem LogI.history (h : LogI w W g d x t book ks) (hol : t.ops.length < 68719476736) :
    Calls Try.prog 37 #[ptr d] W fun e W' => e = .returned (.slice (some ⟨W.heap.size, 0, none⟩) t.ops.length t.ops.length) ∧ OpsAt W' (some ⟨W.heap.size, 0, none⟩) t.ops ∧ Below W.heap.size W W' := by
  obtain ⟨s, h1, _⟩ := h
  obtain ⟨c, mb, v, L, rfl, hS⟩ := h1.toSits
  refine (history_of hS.disk hol).mono fun e W' ⟨h1, h2, h3⟩ => ⟨h1, fun h0 => ⟨W.heap.size, 0, rfl, (Array.getElem?_eq_some_iff.1 h2).1, fun k r hr j v hv => ?_⟩, h3⟩
  have hj : j < 1026 := by have := (List.getElem?_eq_some_iff.1 hv).1; rwa [recCells_len] at this
  rw [cell_of_row W' W.heap.size _ _ 86 _ h2, List.getElem?_toArray, Nat.zero_add, opCells_get _ k j r hr hj]
  exact hv
theorem wpList_store86_new {ops : Array Oper} {rest : List Oper} {o : Oper} {a : Act} {Q : Exit → Act → World → Prop} (hgd : o.guard = none) (y z : Operand) (ho : o.op = .store 86 y z)
    (r : Rec) (c0 : Array Value) (hs0 : c0.size = 1026) (q : Nat) (hq : q = W.heap.size) (hx : a.eval y = .pointer (some ⟨q, 0, none⟩)) (hy : a.eval z = .agg (recCells r).toArray)
    (h : wpList Try.prog ops Q rest (a.put o.dst undef) (W.alloc (.cells (recCells r).toArray 86))) : wpList Try.prog ops Q (o :: rest) a (W.alloc (.cells c0 86)) := by
  subst hq
  refine wpList_plain hgd fun _ hK => ?_
  have hs := rec_size r
  have h1 : (recCells r).toArray.all (·.oneCell') = true := all_oneCell_toArray (recCells_one r)
  generalize (recCells r).toArray = cs at *
  have hz : (Try.prog.info? 86).map (·.size) = some cs.size := by rw [hs]; exact size108
  have e := run_storeVar_row (P := Try.prog) (W.alloc (.cells c0 86)) W.heap.size 86 86 c0 cs (heap_alloc_new _ _) hz (by rw [hs, hs0]) h1
  rw [World.setRow_alloc_new] at e
  unfold Oper.wp execOp
  simp only [ho, hx, hy, Instr.storeAt, Instr.sureAddr, Sem.run_bind, Sem.run_pure, Result.andThen_ok, e]
  exact hK _ _ h
end Go.Proofs.Ytahaiciciljijaa
