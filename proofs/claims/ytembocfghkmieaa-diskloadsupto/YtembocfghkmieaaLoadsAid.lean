/- What an image that may be tells when it is loaded; no condition. -/
import Derived.Test.YtembocfghkmieaaCImage
import Derived.Test.YtembocfghkmieaaTrio
import Derived.Test.YtembocfghkmieaaLeftOps
namespace Go.Proofs.Ytembocfghkmieaa
open Go.RowKit Go.Maps
theorem rises_rise {n : Int} : ∀ (l : List Cel) (a : Int), risesB n a l = true → Rise a l
  | [], _, _ => trivial
  | (i, x) :: t, a, h => by
    unfold risesB at h
    simp at h
    exact ⟨by omega, rises_rise t i h.2⟩
theorem rises_sound {n : Int} {l : List Cel} {a : Int} (ha : -1 ≤ a) (h : risesB n a l = true) (hc : ∀ c ∈ l, Can c.2) : Sound l := fun c hm => by
  have h1 := (rises_bounds l a ha h c hm).2.2
  refine ⟨hc c hm, fun q => ?_⟩
  rw [((hc c hm).blank).2 q] at h1
  cases h1
theorem may_rises {n : Int} {l : List Cel} (h : mayB n l = true) : bndB n = true ∧ risesB n (-1) l = true := by
  unfold mayB at h
  simpa using h
theorem load_get {n : Int} {l : List Cel} (h : mayB n l = true) (hc : ∀ c ∈ l, Can c.2) (k : Int) : ((loadV n l).held k).getD nought = atL l k := by
  unfold loadV
  rw [holdAll_get l (newV n) hc]
  exact lastV_at l (-1) (rises_rise l _ (may_rises h).2)
theorem load_one {n : Int} {l lx : List Cel} (h : mayB n l = true) (hc : ∀ c ∈ l, Can c.2) {s : St} (hs : s.held = (loadV n l).held) (hi : IsImage s lx) : lx = l :=
  hi.one (rises_rise l _ (may_rises h).2) (rises_sound (by omega) (may_rises h).2 hc) fun k => by rw [hs]; exact (load_get h hc k).symm
theorem rise_at : ∀ {m : Int} {l : List Cel}, Rise m l → ∀ {i : Nat} {c : Cel}, l[i]? = some c → atL l c.1 = c.2
  | _, [], _, i, c, h => by simp at h
  | m, (i0, x) :: t, hr, 0, c, h => by
    have e : (i0, x) = c := by simpa using h
    subst e
    unfold atL
    rw [if_pos rfl]
  | m, (i0, x) :: t, hr, i + 1, c, h => by
    have h' : t[i]? = some c := by simpa using h
    have h2 := rise_ne t i0 hr.2 c (List.mem_of_getElem? h')
    unfold atL
    rw [if_neg (by omega)]
    exact rise_at hr.2 h'
/-- A disk that was read k times. -/
def rdK (s : St) (k : Nat) : St := { s with reads := s.reads + k }
theorem rdK_zero (s : St) : rdK s 0 = s := by unfold rdK; simp
theorem rdK_succ (s : St) (k : Nat) : readS (rdK s k) = rdK s (k + 1) := by
  have e : s.reads + (k : Int) + 1 = s.reads + ((k + 1 : Nat) : Int) := by omega
  show ({ s with reads := s.reads + (k : Int) + 1 } : St) = { s with reads := s.reads + ((k + 1 : Nat) : Int) }
  rw [e]
theorem loadV_same (n : Int) (l : List Cel) : (loadV n l).n = n ∧ (loadV n l).wait = [] ∧ (loadV n l).stopped = false ∧ (loadV n l).reads = 0 ∧ (loadV n l).made = 0 ∧ (loadV n l).claims = 0 ∧ (loadV n l).ops = [] := by
  obtain ⟨h, e⟩ := holdAll_same l (newV n)
  unfold loadV
  rw [e]
  exact ⟨rfl, rfl, rfl, rfl, rfl, rfl, rfl⟩
theorem sits_load {w : World} (n : Int) (l : List Cel) (p : Option Addr) (cap : Nat) (hl : l.length < 9223372036854775807) (h : ImgAt w p l) (hcan : ∀ c ∈ l, Can c.2) (hm : mayB n l = true) :
    Calls Try.prog 15 #[.agg #[.int .i64 n, .slice p l.length cap]] w fun e w' => ∃ d, e = .returned (.tuple #[.pointer (some ⟨d, 0, none⟩), .int .i64 0]) ∧ Sits w w' d (loadV n l) [] := by
  refine (load_ok n l p cap w hl h hcan hm).mono ?_
  rintro e W' ⟨L, rfl, hD, hL, hb⟩
  exact ⟨L.d, rfl, L, rfl, hD, hL, hb, fun p hp => by simp at hp⟩
theorem sits_image2 {w W : World} {d : Nat} {s : St} {ks : List (Nat × Obj)} (h : Sits w W d s ks) :
    Calls Try.prog 17 #[.pointer (some ⟨d, 0, none⟩)] W fun e W' => ∃ (g : Nat) (l : List Cel), e = .returned (.agg #[.int .i64 s.n, .slice (some ⟨g, 0, none⟩) l.length l.length]) ∧ IsImage s l ∧ W.heap.size ≤ g ∧ Sits w W' d s ((g, .cells (celCells l).toArray 85) :: ks) := by
  obtain ⟨L, rfl, hS⟩ := h
  refine (image_walk hS.disk).mono fun e W' ⟨g, l, h1, h2, h3, h4, h5⟩ => ⟨g, l, h1, h2, h4, L, rfl, ?_⟩
  have h6 := hS.goes (hS.disk.later h5) (Goes.ofBelow L h5)
  refine ⟨h6.disk, h6.new, h6.below, fun p hp => ?_⟩
  rcases List.mem_cons.1 hp with rfl | hp
  · exact ⟨h3, fun q => by have := hS.disk.lt _ q; simp only at this; omega⟩
  · exact h6.keep p hp
/-- The lists beside it turn, it stays. -/
theorem Sits.turn {w W W' : World} {d : Nat} {s : St} {ks ks' : List (Nat × Obj)} (h : Sits w W d s ks) {T : Nat → Prop} (hf : Fr T W W') (hT : ∀ i, T i → ∃ o, (i, o) ∈ ks) (hn : ∀ i, T i → w.heap.size ≤ i) (hk : ∀ p ∈ ks', p ∈ ks ∧ ¬ T p.1) : Sits w W' d s ks' := by
  obtain ⟨L, hd, hS⟩ := h
  refine ⟨L, hd, hS.disk.fr hf (fun k hk' q => ?_), hS.new, hS.below.trans (hf.below hn hS.below.size), fun p hp => ?_⟩
  · obtain ⟨o, ho⟩ := hT k q
    exact (hS.keep _ ho).2 hk'
  · obtain ⟨h1, h2⟩ := hk p hp
    obtain ⟨h3, h4⟩ := hS.keep p h1
    exact ⟨(hf.block p.1 (Array.getElem?_eq_some_iff.1 h3).1 h2).trans h3, h4⟩
theorem celsQ_can {q : Nat → Cel} (h : ∀ r, Can (q r).2) (n : Nat) : ∀ c ∈ celsQ q n, Can c.2 := fun c hc => by
  unfold celsQ at hc
  obtain ⟨i, _, rfl⟩ := List.mem_map.1 hc
  exact h i
theorem celsB_self {l : List Cel} (h : ∀ c ∈ l, Can c.2) : celsB l l = true := (celsB_iff h h).2 rfl
section
variable {o : Oper} {a : Act} {W : World}
theorem exec_load58 {x : Operand} {g : Nat} {f : Nat → Int} (ho : o.op = .load 58 x) (hx : a.eval x = .pointer (some ⟨g, 0, none⟩)) (hg : W.heap[g]? = some (.cells (blk f) 58)) : (execOp a.eval o).run Try.prog W = .ok (.value (.agg (blk f))) W := by
  unfold execOp
  simp only [ho, hx, Instr.loadAt, Instr.sureAddr, Sem.run_bind, Sem.run_pure, Result.andThen_ok, run_loadVar_row W g 58 58 (blk f) (0, 0) _ hg Try.underlying58 rfl (by rw [blk_size]; exact size25)]
theorem exec_neq58 {x y : Operand} {f : Nat → Int} (ho : o.op = .binOp .neq 58 x y 58) (hx : a.eval x = .agg (blk f)) (hy : a.eval y = .agg (blk f)) : (execOp a.eval o).run Try.prog W = .ok (.value (.bool false)) W := by
  have e := neq58 f f true (sameB_self f) W
  unfold execOp
  simp only [ho, hx, hy, Sem.run_bind, neqg58, e, Result.andThen_ok, Sem.run_pure]
  rfl
end
end Go.Proofs.Ytembocfghkmieaa
