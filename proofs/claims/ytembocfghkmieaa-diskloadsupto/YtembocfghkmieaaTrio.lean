/- Several disks in one world: one that turns, others beside it; any of them may be the one that turns; no condition. -/
import Derived.Test.YtembocfghkmieaaAgain
namespace Go.Proofs.Ytembocfghkmieaa
open Go.RowKit

/-- New since w. -/
structure Solo (w : World) (W : World) (L : Loc) : Prop where
  new : L.from w.heap.size
  below : Below w.heap.size w W
/-- Another disk beside it. -/
structure By (w : World) (d1 : Nat) (s1 : St) (W : World) (L : Loc) (L1 : Loc) : Prop where
  at_ : L1.d = d1
  disk : DiskAt W L1 s1
  new : L1.from w.heap.size
  apart : ∀ k, L.has k → ¬ L1.has k
def Two (w : World) (d1 : Nat) (s1 : St) (W : World) (L : Loc) : Prop := Solo w W L ∧ ∃ L1, By w d1 s1 W L L1
def Tri (w : World) (d1 : Nat) (s1 : St) (d2 : Nat) (s2 : St) (W : World) (L : Loc) : Prop := Solo w W L ∧ ∃ L1 L2, By w d1 s1 W L L1 ∧ By w d2 s2 W L L2 ∧ ∀ k, L1.has k → ¬ L2.has k
variable {w W W' : World} {d d1 d2 : Nat} {s s1 s2 : St} {L L' L1 : Loc}
theorem solo_goes (h : Solo w W L) (hG : Goes W W' L L') : Solo w W' L' := by
  refine ⟨fun k hk => ?_, h.below.trans (hG.fr.below h.new h.below.size)⟩
  rcases hG.own k hk with q | q
  · exact h.new k q
  · have := h.below.size
    omega
theorem by_goes (h : By w d1 s1 W L L1) (hG : Goes W W' L L') : By w d1 s1 W' L' L1 := by
  refine ⟨h.at_, h.disk.fr hG.fr fun k hk q => h.apart k q hk, h.new, fun k hk q => ?_⟩
  rcases hG.own k hk with r | r
  · exact h.apart k r q
  · have := h.disk.lt k q
    omega
theorem solo_stays (w : World) : Stays (Solo w) := fun _ _ _ _ _ h hG => solo_goes h hG
theorem two_stays (w : World) (d1 : Nat) (s1 : St) : Stays (Two w d1 s1) := fun _ _ _ _ _ ⟨h, L1, h1⟩ hG => ⟨solo_goes h hG, L1, by_goes h1 hG⟩
theorem tri_stays (w : World) (d1 : Nat) (s1 : St) (d2 : Nat) (s2 : St) : Stays (Tri w d1 s1 d2 s2) := fun _ _ _ _ _ ⟨h, L1, L2, h1, h2, h3⟩ hG => ⟨solo_goes h hG, L1, L2, by_goes h1 hG, by_goes h2 hG, h3⟩
theorem Has.belowS (h : Has (Solo w) W d s) : Below w.heap.size w W := by
  obtain ⟨L, _, _, h⟩ := h
  exact h.below
theorem Has.below2 (h : Has (Two w d1 s1) W d s) : Below w.heap.size w W := by
  obtain ⟨L, _, _, h, _⟩ := h
  exact h.below
theorem Has.below3 (h : Has (Tri w d1 s1 d2 s2) W d s) : Below w.heap.size w W := by
  obtain ⟨L, _, _, h, _⟩ := h
  exact h.below
theorem Has.swap (h : Has (Two w d1 s1) W d s) : Has (Two w d s) W d1 s1 := by
  obtain ⟨L, hd, hD, h0, L1, h1⟩ := h
  exact ⟨L1, h1.at_, h1.disk, ⟨h1.new, h0.below⟩, L, hd, hD, h0.new, fun k q r => h1.apart k r q⟩
theorem Has.swap3 (h : Has (Tri w d1 s1 d2 s2) W d s) : Has (Tri w d s d2 s2) W d1 s1 := by
  obtain ⟨L, hd, hD, h0, L1, L2, h1, h2, h3⟩ := h
  exact ⟨L1, h1.at_, h1.disk, ⟨h1.new, h0.below⟩, L, L2, ⟨hd, hD, h0.new, fun k q r => h1.apart k r q⟩, ⟨h2.at_, h2.disk, h2.new, h3⟩, h2.apart⟩
theorem Has.drop3 (h : Has (Tri w d1 s1 d2 s2) W d s) : Has (Two w d s) W d2 s2 := by
  obtain ⟨L, hd, hD, h0, L1, L2, h1, h2, h3⟩ := h
  exact ⟨L2, h2.at_, h2.disk, ⟨h2.new, h0.below⟩, L, hd, hD, h0.new, fun k q r => h2.apart k r q⟩
/-- A disk that was made just now beside it. -/
theorem Has.add (h : Has (Solo w) W d s) (hb : Below W.heap.size W W') (hD1 : DiskAt W' L1 s1) (hL : L1.from W.heap.size) : Has (Two w L1.d s1) W' d s := by
  obtain ⟨L, hd, hD, h0⟩ := h
  exact ⟨L, hd, hD.later hb, solo_goes h0 (Goes.ofBelow L hb), L1, rfl, hD1, fun k hk => by have := hL k hk; have := h0.below.size; omega, fun k hk q => by have := hL k q; have := hD.lt k hk; omega⟩
theorem Has.add2 (h : Has (Two w d2 s2) W d s) (hb : Below W.heap.size W W') (hD1 : DiskAt W' L1 s1) (hL : L1.from W.heap.size) : Has (Tri w L1.d s1 d2 s2) W' d s := by
  obtain ⟨L, hd, hD, h0, L2, h2⟩ := h
  exact ⟨L, hd, hD.later hb, solo_goes h0 (Goes.ofBelow L hb), L1, L2, ⟨rfl, hD1, fun k hk => by have := hL k hk; have := h0.below.size; omega, fun k hk q => by have := hL k q; have := hD.lt k hk; omega⟩,
    by_goes h2 (Goes.ofBelow L hb), fun k hk q => by have := hL k hk; have := h2.disk.lt k q; omega⟩
/-- The image of a disk, loaded. -/
theorem img_cells {W : World} {g : Nat} {l : List Cel} (h : W.heap[g]? = some (.cells (celCells l).toArray 85)) : ImgAt W (some ⟨g, 0, none⟩) l := fun _ => by
  refine ⟨g, 0, rfl, (Array.getElem?_eq_some_iff.1 h).1, fun k c hc => ?_⟩
  obtain ⟨K, hK⟩ : ∃ K, K = k * 1025 := ⟨_, rfl⟩
  have key : ∀ j, j < 1025 → ∀ v, (celRow c)[j]? = some v → W.cell? ⟨g, K + j, none⟩ = some v := fun j hj v hv => by
    have q0 := (fm_get celRow 1025 celRow_len l k j c hc hj).trans hv
    rw [← hK] at q0
    rw [cell_of_row W g _ _ 85 _ h, List.getElem?_toArray]
    exact q0
  rw [Nat.zero_add, ← hK]
  clear hK hc h
  refine ⟨key 0 (by omega) _ rfl, fun j v hv => ?_⟩
  have hj : j < 1024 := by have := (List.getElem?_eq_some_iff.1 hv).1; rwa [blk_list_len] at this
  rw [Nat.add_assoc, Nat.add_comm 1 j]
  refine key (j + 1) (by omega) v ?_
  rw [show (celRow c)[j + 1]? = (blk c.2).toList[j]? by simp only [celRow, List.getElem?_cons_succ]]
  exact hv
theorem has_image {P : World → Loc → Prop} (hP : Stays P) (h : Has P W d s) : Calls Try.prog 17 #[.pointer (some ⟨d, 0, none⟩)] W fun e W' => ∃ (g : Nat) (l : List Cel), e = .returned (.agg #[.int .i64 s.n, .slice (some ⟨g, 0, none⟩) l.length l.length]) ∧ IsImage s l ∧ ImgAt W' (some ⟨g, 0, none⟩) l ∧ Has P W' d s := by
  have h' := h
  obtain ⟨L, rfl, hD, hp⟩ := h
  exact (image_walk hD).mono fun e W' ⟨g, l, h1, h2, h3, _, h5⟩ => ⟨g, l, h1, h2, img_cells h3, h'.later hP h5⟩
theorem load_image {s : St} {l : List Cel} (h : IsImage s l) (hok : Ok s) (p : Option Addr) (cap : Nat) (hi : ImgAt W p l) :
    Calls Try.prog 15 #[.agg #[.int .i64 s.n, .slice p l.length cap]] W fun e w' => ∃ L : Loc, e = .returned (.tuple #[.pointer (some ⟨L.d, 0, none⟩), .int .i64 0]) ∧ DiskAt w' L (loadV s.n l) ∧ L.from W.heap.size ∧ Below W.heap.size W w' :=
  load_ok s.n l p cap W (image_len h hok) hi (fun c hc => (h.sound c hc).1) (image_may h hok)
/-- A live disk that has been read j times. -/
structure Live (s : St) (n : Int) (j : Nat) : Prop where
  n : s.n = n
  live : s.stopped = false
  ops : s.ops.length ≤ 1000
  made : s.made ≤ 1000
  reads : s.reads ≤ j
  claims : s.claims = 0
theorem Live.room {s : St} {n : Int} {j : Nat} (h : Live s n j) (hj : j ≤ 1000) : Room s := ⟨by have := h.ops; omega, by have := h.made; omega, by have := h.reads; omega, by have := h.claims; omega⟩
theorem Live.read {s : St} {n : Int} {j : Nat} (h : Live s n j) {k : Int} (hk : 0 ≤ k ∧ k < n) : refV s k = 0 ∧ readB s k = curV s k ∧ readV s k = readS s ∧ Live (readS s) n (j + 1) ∧ ∀ i, curV (readS s) i = curV s i := by
  have hr : refV s k = 0 := by unfold refV; rw [h.live, if_neg (by simp), if_pos (by rw [h.n]; exact hk)]
  refine ⟨hr, ?_, ?_, ⟨h.n, h.live, h.ops, h.made, ?_, h.claims⟩, fun _ => rfl⟩
  · unfold readB
    rw [if_pos hr]
  · unfold readV
    rw [if_pos hr]
  · have := h.reads
    show s.reads + 1 ≤ ((j + 1 : Nat) : Int)
    omega
theorem Left.toLive {s : St} {n f : Int} {i : Nat} (h : Left s n f i) (hs : s.stopped = false) (hi : i ≤ 1000) : Live s n 0 := ⟨h.n, hs, by have := h.ops; omega, by have := h.made; omega, by have := h.reads; omega, h.claims⟩
theorem load_live (n : Int) (l : List Cel) : Live (loadV n l) n 0 := by
  obtain ⟨hh, he⟩ := holdAll_same l (newV n)
  unfold loadV
  rw [he]
  exact ⟨rfl, rfl, Nat.zero_le _, by show (0 : Int) ≤ 1000; omega, Int.le_refl _, rfl⟩
end Go.Proofs.Ytembocfghkmieaa
