/- Steps that the stage's theorem's law takes beside the disk: a write more waited for, blocks told apart; no condition. -/
import Derived.Test.YtembocfghkmieaaLeftRel
import Derived.Test.YtembocfghkmieaaCrashLe
namespace Go.Proofs.Ytembocfghkmieaa
open Go.RowKit

theorem build30 (c : Cel) (u : World) : (Instr.buildSlice 30 1 #[(0, .agg (celRow c).toArray)]).run Try.prog u = .ok (.slice (some ⟨u.heap.size, 0, none⟩) 1 1) (u.alloc (.cells (celRow c).toArray 85)) :=
  build1 30 85 1025 _ _ Try.underlying30 Try.sizeOf85 (by omega) zero85 (cel_size c) u
theorem slice_ofC {w : World} {base e size : Nat} {v : Value} {n : Nat} {xs : List Value} (h : w.ownsRow base e size v n xs) (hn : 0 < n) : ∃ g cap, v = .slice (some ⟨g, 0, none⟩) n cap := by
  rcases h.2 with ⟨_, h⟩ | ⟨g, cap', _, h, _⟩
  · omega
  · exact ⟨g, cap', h⟩
theorem slice_of0 {w : World} {base e size : Nat} {wa : Option Addr} {wc : Nat} {n : Nat} {xs : List Value} (h : w.ownsRow base e size (.slice wa n wc) n xs) : 0 < n → ∃ g, wa = some ⟨g, 0, none⟩ := fun hn => by
  obtain ⟨g, cap, e⟩ := slice_ofC h hn
  injection e with e1
  exact ⟨g, e1⟩
section
variable {w W : World} {g d : Nat} {hs : List (Nat → Int)} {v : Value} {wl : List Cel} {s : St}
theorem Has.gbase (h : Has (Side w g hs v wl) W d s) : g + 1 ≤ W.heap.size := (Array.getElem?_eq_some_iff.1 h.row).1
theorem wpList_pushC {ops : Array Oper} {rest : List Oper} {o : Oper} {a : Act} {Q : Exit → Act → World → Prop} (hgd : o.guard = none) (x y : Operand)
    (ho : o.op = .call { callee := .builtin .append, args := #[x, y], argTypes := #[30, 30] }) (c : Cel) (hx : a.eval x = v)
    (hy : a.eval y = .slice (some ⟨W.heap.size, 0, none⟩) 1 1) (hH : Has (Side w g hs v wl) W d s) (hn : wl.length < 1000)
    (h : ∀ wa wc W', Has (Side w g hs (.slice wa (wl.length + 1) wc) (wl ++ [c])) W' d s → wpList Try.prog ops Q rest (a.put o.dst (.slice wa (wl.length + 1) wc)) W') :
    wpList Try.prog ops Q (o :: rest) a (W.alloc (.cells (celRow c).toArray 85)) := by
  obtain ⟨i0, hi0, hz0, hz1, hz2⟩ := info_parts info85
  have hown1 := World.ownsRow.alloc hH.own (.cells (celRow c).toArray 85)
  have hnews : ∀ j u, (celRow c)[j]? = some u → (W.alloc (.cells (celRow c).toArray 85)).cell? ((⟨W.heap.size, 0, none⟩ : Addr).add j) = some u := fun j u hu => by
    rw [Go.WideShapes.add_plain, Nat.zero_add, cell_of_row _ _ j _ 85 _ (heap_alloc_new W _), List.getElem?_toArray]
    exact hu
  have hbase := hH.gbase
  refine wpList_append_own_at _ hgd x y 30 ho (g + 1) 85 i0 _ 1025 1032 Try.underlying30 hi0 hz0 hz1 hz2 (cel_size _) (by decide) v wl.length (celCells wl) hx hown1 ⟨W.heap.size, 0, none⟩ 1 1 (celRow c) hy (by rw [celRow_len]) hnews (celRow_one c)
    (by unfold maxLen; omega) (by omega) (by simp; omega) ?_
  intro v' W' h1 h2 h3 h4
  obtain ⟨g', cap', rfl⟩ := slice_ofC h1 (by omega)
  exact h _ _ W' (hH.push h1 h2 h4)
end
section
variable {ops : Array Oper} {rest : List Oper} {o : Oper} {a : Act} {w : World} {Q : Exit → Act → World → Prop}
theorem neq58 (f g : Nat → Int) (b : Bool) (hb : sameB f g = b) (u : World) : (binOp .neq 58 (.agg (blk f)) (.agg (blk g))).run Try.prog u = .ok (.bool (!b)) u := by
  have h := eq25 f g u
  rw [hb] at h
  generalize blk f = F at *
  generalize blk g = G at *
  simp only [binOp, Op.equal, Op.maxDepth, Sem.run_bind, h, Result.andThen_ok, Sem.run_pure]
theorem neqg58 (x y : Operand) (F G : Array Value) (u : World) : (eqGuard .neq 58 x y (.agg F) (.agg G)).run Try.prog u = .ok () u := by
  unfold eqGuard
  simp
theorem wpList_neq58 (hw : Region.wanted o (yielded ops a.tmps) = true) (x y : Operand) (ho : o.op = .binOp .neq 58 x y 58) (f : Nat → Int) (hx : a.eval x = .agg (blk f)) (hy : a.eval y = .agg (blk f))
    (h : wpList Try.prog ops Q rest (a.put o.dst (.bool false)) w) : wpList Try.prog ops Q (o :: rest) a w :=
  BigFrame.wpList_want hw fun _ hK => by
    have e := neq58 f f true (sameB_self f) w
    unfold Oper.wp execOp
    simp only [ho, hx, hy, Sem.run_bind, neqg58, e, Result.andThen_ok, Sem.run_pure]
    exact hK _ _ h
end
theorem wpStill_loadW {ops : Array Oper} {Q : Act → Prop} {a : Act} {o : Oper} {rest : List Oper} {w : World} (hw : Region.wanted o (yielded ops a.tmps) = true) (x : Operand) (ho : o.op = .load 58 x)
    (g off : Nat) (hx : a.eval x = .pointer (some ⟨g, off, none⟩)) (f : Nat → Int) (hg : BlkAt w g off f)
    (h : wpStill Try.prog ops w Q rest (a.put o.dst (.agg (blk f)))) : wpStill Try.prog ops w Q (o :: rest) a := by
  unfold wpStill
  rw [if_pos hw]
  unfold Oper.still execOp
  simp only [ho, hx, loadM hg, Sem.run_bind, Result.andThen_ok, Sem.run_pure, Oper.stillUpon]
  exact ⟨trivial, h⟩
theorem wpStill_neqW {ops : Array Oper} {Q : Act → Prop} {a : Act} {o : Oper} {rest : List Oper} {w : World} (hw : Region.wanted o (yielded ops a.tmps) = true) (x y : Operand) (ho : o.op = .binOp .neq 58 x y 58)
    (f : Nat → Int) (hx : a.eval x = .agg (blk f)) (hy : a.eval y = .agg (blk f))
    (h : wpStill Try.prog ops w Q rest (a.put o.dst (.bool false))) : wpStill Try.prog ops w Q (o :: rest) a := by
  have e := neq58 f f true (sameB_self f) w
  unfold wpStill
  rw [if_pos hw]
  unfold Oper.still execOp
  simp only [ho, hx, hy, neqg58, e, Sem.run_bind, Result.andThen_ok, Sem.run_pure, Oper.stillUpon]
  exact ⟨trivial, h⟩
theorem BoolsAt.later {w W : World} {v : Value} {l : List Bool} (h : BoolsAt w v l) (hb : Below w.heap.size w W) : BoolsAt W v l := by
  obtain ⟨p, c, h1, h2⟩ := h
  refine ⟨p, c, h1, fun hl => ?_⟩
  obtain ⟨b, off, h3, h4⟩ := h2 hl
  refine ⟨b, off, h3, fun i x hx => ?_⟩
  have h5 := h4 i x hx
  have hlt : b < w.heap.size := by
    by_cases q : b < w.heap.size
    · exact q
    · unfold World.cell? at h5
      simp only [Array.getElem?_eq_none (show w.heap.size ≤ b by omega)] at h5
      simp at h5
  exact (hb.cell (p := ⟨b, off + i, none⟩) hlt).trans h5
theorem bools_cell {w : World} {ka : Option Addr} {n kc : Nat} {l : List Bool} (h : BoolsAt w (.slice ka n kc) l) {j : Nat} {x : Bool} (hx : l[j]? = some x) : ∃ b off, ka = some ⟨b, off, none⟩ ∧ ∀ W, Below w.heap.size w W → W.cell? ⟨b, off + j, none⟩ = some (.bool x) := by
  obtain ⟨p, c, h1, h2⟩ := h
  injection h1 with e1 e2 e3
  obtain ⟨b, off, h3, h4⟩ := h2 (by have := (List.getElem?_eq_some_iff.1 hx).1; omega)
  refine ⟨b, off, e1.trans h3, fun W hb => ?_⟩
  have h5 := h4 j x hx
  have hlt : b < w.heap.size := by
    by_cases q : b < w.heap.size
    · exact q
    · unfold World.cell? at h5
      simp only [Array.getElem?_eq_none (show w.heap.size ≤ b by omega)] at h5
      simp at h5
  exact (hb.cell (p := ⟨b, off + j, none⟩) hlt).trans h5
theorem has_crash_le {P : World → Loc → Prop} {W : World} {d : Nat} {s : St} (hP : Stays P) (h : Has P W d s) {kv : Value} {kl : List Bool} (hkv : BoolsAt W kv kl) (hwl : s.wait.length < 68719476736) (hkl : kl.length ≤ 9223372036854775807) :
    Calls Try.prog 35 #[.pointer (some ⟨d, 0, none⟩), kv] W fun e W' => e = .returned (.int .i64 0) ∧ Has P W' d (crashS s kl) := by
  obtain ⟨L, rfl, hD, hp⟩ := h
  exact (crash_le hD hkv hwl hkl).mono fun e W' ⟨h1, L', h2, h3⟩ => ⟨h1, Has.goes hP rfl hD hp h2 h3⟩
/-- A disk behind a crash and j reads. -/
structure After (s : St) (n : Int) (j : Nat) : Prop where
  n : s.n = n
  live : s.stopped = false
  wait : s.wait = []
  done : s.done = []
  made : s.made ≤ 300
  reads : s.reads ≤ j
  claims : s.claims = 0
theorem after_crash {s : St} {n f : Int} {i : Nat} (h : Left s n f i) (hi : i ≤ 300) (k : List Bool) : After (crashS s k) n 0 := by
  have := h.made
  have := h.reads
  obtain ⟨hh, he⟩ := holdAll_same (keptL s.wait k) s
  unfold crashS
  rw [he]
  exact ⟨h.n, rfl, rfl, rfl, by show s.made ≤ 300; omega, by show s.reads ≤ (0 : Nat); omega, h.claims⟩
theorem After.room {s : St} {n : Int} {j : Nat} (h : After s n j) (hj : j ≤ 64) : Room s := ⟨by unfold St.ops; rw [h.wait, h.done]; simp, by have := h.made; omega, by have := h.reads; omega, by have := h.claims; omega⟩
theorem After.read {s : St} {n : Int} {j : Nat} (h : After s n j) {k : Int} (hk : 0 ≤ k ∧ k < n) : refV s k = 0 ∧ readB s k = (s.held k).getD nought ∧ readV s k = readS s ∧ After (readS s) n (j + 1) := by
  have hr : refV s k = 0 := by unfold refV; rw [h.live, if_neg (by simp), if_pos (by rw [h.n]; exact hk)]
  refine ⟨hr, ?_, ?_, h.n, h.live, h.wait, h.done, h.made, ?_, h.claims⟩
  · unfold readB
    rw [if_pos hr, curV_held (by rw [h.wait]; rfl)]
  · unfold readV
    rw [if_pos hr]
  · have := h.reads
    show s.reads + 1 ≤ ((j + 1 : Nat) : Int)
    omega
theorem After.ops {s : St} {n : Int} {j : Nat} (h : After s n j) : s.ops.length = 0 := by unfold St.ops; rw [h.wait, h.done]; simp
theorem crashS_n (s : St) (k : List Bool) : (crashS s k).n = s.n := holdAll_n s (keptL s.wait k)
theorem rel_crash {s : St} {hs : List (Nat → Int)} {kl : List Bool} (h : Rel (holdAll s (keptL s.wait kl)) hs) : Rel (crashS s kl) hs := h.same rfl rfl
theorem Rel.keptNext {s : St} {hs : List (Nat → Int)} {kl : List Bool} {j : Nat} {c : Cel} {x : Bool} (h : Rel (holdAll s (keptL (s.wait.take j) (kl.take j))) hs) (hc : s.wait[j]? = some c) (hx : kl[j]? = some x) (hok : Ok s) : Rel (holdAll s (keptL (s.wait.take (j + 1)) (kl.take (j + 1)))) (if x then hs.set c.1.toNat c.2 else hs) := by
  have hj : j < s.wait.length := (List.getElem?_eq_some_iff.1 hc).1
  have hk : j < kl.length := (List.getElem?_eq_some_iff.1 hx).1
  have hks := keptL_snoc c x (s.wait.take j) (kl.take j) (by rw [List.length_take, List.length_take]; omega)
  rw [← take_snoc hc, ← show kl.take (j + 1) = kl.take j ++ [x] by rw [List.take_add_one, hx]; rfl] at hks
  rw [hks]
  cases x
  · simpa using h
  · rw [if_pos rfl, if_pos rfl, holdAll_snoc]
    have hw := hok.wait c (List.mem_of_getElem? hc)
    exact h.hold (by rw [holdAll_n]; exact hw.1) hw.2
end Go.Proofs.Ytembocfghkmieaa
