/- Steps of the law of images that are loaded again; no condition. -/
import Derived.Test.YtembocfghkmieaaTrio
import Derived.Test.YtembocfghkmieaaLawLeft
namespace Go.Proofs.Ytembocfghkmieaa
open Go.RowKit

/-- A list of puts, each by its index. -/
theorem puts_fn {w : World} {a : Option Addr} {len : Nat} (h : PutsAt w a len) : ∃ (b off : Nat) (q : Nat → Int × (Nat → Int)) (v : Nat → Option Addr × Nat × Nat), (∀ r, Can (q r).2) ∧ ∀ r, r < len → a = some ⟨b, off, none⟩ ∧
    (-9223372036854775808 ≤ (q r).1 ∧ (q r).1 ≤ 9223372036854775807) ∧ ∀ W, Below w.heap.size w W → W.cell? ⟨b, off + r * 2, none⟩ = some (.int .i64 (q r).1) ∧ W.cell? ⟨b, off + r * 2 + 1, none⟩ = some (.slice (v r).1 (v r).2.1 (v r).2.2) ∧
      Calls Try.prog 21 #[.slice (v r).1 (v r).2.1 (v r).2.2] W fun e w' => e = .returned (.agg (blk (q r).2)) ∧ Below W.heap.size W w' := by
  obtain ⟨b, off, hbo⟩ : ∃ b off, 0 < len → a = some ⟨b, off, none⟩ := by
    by_cases h0 : 0 < len
    · obtain ⟨b, off, h1, _⟩ := h.2 0 h0
      exact ⟨b, off, fun _ => h1⟩
    · exact ⟨0, 0, fun q => absurd q h0⟩
  have key : ∀ r, ∃ x : (Int × (Nat → Int)) × (Option Addr × Nat × Nat), Can x.1.2 ∧ (r < len → (-9223372036854775808 ≤ x.1.1 ∧ x.1.1 ≤ 9223372036854775807) ∧ ∀ W, Below w.heap.size w W → W.cell? ⟨b, off + r * 2, none⟩ = some (.int .i64 x.1.1) ∧ W.cell? ⟨b, off + r * 2 + 1, none⟩ = some (.slice x.2.1 x.2.2.1 x.2.2.2) ∧
      Calls Try.prog 21 #[.slice x.2.1 x.2.2.1 x.2.2.2] W fun e w' => e = .returned (.agg (blk x.1.2)) ∧ Below W.heap.size W w') := fun r => by
    by_cases hr : r < len
    · obtain ⟨b', off', h1, ⟨A⟩⟩ := h.2 r hr
      have h2 := (hbo (by omega)).symm.trans h1
      injection h2 with h2
      injection h2 with h3 h4
      subst h3 h4
      exact ⟨((A.pos, canB A.pf A.pl), (A.pa, A.pl, A.pc)), canB_can A.byte A.pl, fun _ => ⟨A.hp, fun W hb => ⟨(hb.cell (p := ⟨b, off + r * 2, none⟩) A.hb).trans A.c0, (hb.cell (p := ⟨b, off + r * 2 + 1, none⟩) A.hb).trans A.c1, block_can (A.lies.later hb)⟩⟩⟩
    · exact ⟨((0, nought), (none, 0, 0)), can_nought, fun q => absurd q hr⟩
  obtain ⟨f, hf⟩ := Classical.skolem.1 key
  exact ⟨b, off, fun r => (f r).1, fun r => (f r).2, fun r => (hf r).1, fun r hr => ⟨hbo (by omega), (hf r).2 hr⟩⟩
/-- A block that stays beside it. -/
def Keep (P : World → Loc → Prop) (g : Nat) (o : Obj) (W : World) (L : Loc) : Prop := P W L ∧ W.heap[g]? = some o ∧ ¬ L.has g
theorem keep_stays {P : World → Loc → Prop} (hP : Stays P) (g : Nat) (o : Obj) : Stays (Keep P g o) := fun W W' L L' hlt ⟨h1, h2, h3⟩ hG => by
  have hg : g < W.heap.size := (Array.getElem?_eq_some_iff.1 h2).1
  refine ⟨hP W W' L L' hlt h1 hG, (hG.fr.block g hg h3).trans h2, fun q => ?_⟩
  rcases hG.own g q with r | r
  · exact h3 r
  · omega
variable {P : World → Loc → Prop} {w W : World} {d : Nat} {s : St}
theorem Has.keep (hP : Stays P) (h : Has P W d s) (o : Obj) : Has (Keep P W.heap.size o) (W.alloc o) d s := by
  obtain ⟨L, hd, hD, hp⟩ := h
  exact ⟨L, hd, hD.later (below_new W o), hP _ _ L L hD.lt hp (Goes.ofBelow L (below_new W o)), heap_alloc_new W o, fun q => by have := hD.lt _ q; omega⟩
theorem Has.unkeep {g : Nat} {o : Obj} (h : Has (Keep P g o) W d s) : Has P W d s ∧ W.heap[g]? = some o := by
  obtain ⟨L, hd, hD, h1, h2, _⟩ := h
  exact ⟨⟨L, hd, hD, h1⟩, h2⟩
theorem Has.drewG (hP : Stays P) (h : Has P W d s) : Has P W.drew d s := by
  obtain ⟨L, hd, hD, hp⟩ := h
  exact ⟨L, hd, hD.fr (Fr.drew (T := fun _ => False) W) fun _ _ q => q, hP W W.drew L L hD.lt hp ⟨rfl, fun _ q => .inl q, Fr.drew W⟩⟩
theorem has_image' (hP : Stays P) (h : Has P W d s) {n : Int} (hn : s.n = n) : Calls Try.prog 17 #[.pointer (some ⟨d, 0, none⟩)] W fun e W' => ∃ (g : Nat) (l : List Cel), e = .returned (.agg #[.int .i64 n, .slice (some ⟨g, 0, none⟩) l.length l.length]) ∧ IsImage s l ∧ ImgAt W' (some ⟨g, 0, none⟩) l ∧ Has P W' d s := by
  subst hn
  exact has_image hP h
theorem load_image' {s : St} {l : List Cel} (h : IsImage s l) (hok : Ok s) {n : Int} (hn : s.n = n) (p : Option Addr) (cap : Nat) (hi : ImgAt W p l) :
    Calls Try.prog 15 #[.agg #[.int .i64 n, .slice p l.length cap]] W fun e w' => ∃ L : Loc, e = .returned (.tuple #[.pointer (some ⟨L.d, 0, none⟩), .int .i64 0]) ∧ DiskAt w' L (loadV n l) ∧ L.from W.heap.size ∧ Below W.heap.size W w' := by
  subst hn
  exact load_image h hok p cap hi
theorem lastI_lt (q : Nat → Int × (Nat → Int)) (m : Nat) : -1 ≤ lastI q m ∧ lastI q m < m := by
  induction m with
  | zero => exact ⟨Int.le_refl _, by show (-1 : Int) < 0; omega⟩
  | succ m ih =>
    rw [lastI_succ]
    split <;> omega
theorem bar_made {s : St} {b f : Int} {i : Nat} (h : Left s b f i) (hg : goesB s f i = true) : (barS s).made = s.made + 1 := by
  obtain ⟨hh, he⟩ := holdAll_same s.wait (letV s)
  have e1 : (barS s).made = (holdAll (letV s) s.wait).made := rfl
  rw [e1, he]
  exact (letV_live (goes_live h hg).2).2.1
/-- A disk behind a barrier and its image loaded read the same. -/
theorem bar_load {s : St} {l : List Cel} (h : IsImage (barS s) l) {n : Int} (hn : (barS s).n = n) (k : Int) : curV (barS s) k = curV (loadV n l) k := by
  subst hn
  rw [curV_last, curV_last, show (loadV (barS s).n l).wait = [] from holdAll_wait _ _, show (barS s).wait = [] from rfl]
  exact (image_load h k).symm
end Go.Proofs.Ytembocfghkmieaa
