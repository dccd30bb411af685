/- Several texts joined, each with its own remark; no condition. -/
import Derived.Test.YtkcgbhagjkhcmaaGreatK25
/- The empty file system of the document's examples: nothing of it is wrong. -/
namespace Go.Proofs.YtkcgbhagjkhcmaaGreat
open Go.RowKit Go.Maps
theorem esR_in : ∀ e ∈ esR, 0 ≤ e.1 ∧ e.1 < 65536 := fun e he => by
  unfold esR at he
  simp only [List.mem_cons, List.not_mem_nil, or_false] at he
  rcases he with rfl | rfl <;> (constructor <;> decide)
theorem n0_byt : Byt N0 := overN_byt nought_byt (encN_byt _ _ _ _ _) _ _
theorem d0_byt : Byt D0 := dirP_byt esR_in _
theorem b0_byt : Byt B0 := by unfold B0; exact bitsR_byt nought_byt _ _
theorem imE_byt : ∀ c ∈ imE, ∀ i, 0 ≤ c.2 i ∧ c.2 i ≤ 255 := fun c hc => by
  unfold imE at hc
  simp only [List.mem_cons, List.not_mem_nil, or_false] at hc
  rcases hc with rfl | rfl | rfl | rfl
  · exact supP_byt _
  · exact n0_byt
  · exact b0_byt
  · exact d0_byt
theorem imE_at : ∀ (i : Nat) c, imE[i]? = some c → (i = 0 ∧ c = (0, supP y0)) ∨ (i = 1 ∧ c = (33, N0)) ∨ (i = 2 ∧ c = (37, B0)) ∨ (i = 3 ∧ c = (38, D0))
  | 0, c, h => .inl ⟨rfl, by unfold imE at h; simpa using h.symm⟩
  | 1, c, h => .inr (.inl ⟨rfl, by unfold imE at h; simpa using h.symm⟩)
  | 2, c, h => .inr (.inr (.inl ⟨rfl, by unfold imE at h; simpa using h.symm⟩))
  | 3, c, h => .inr (.inr (.inr ⟨rfl, by unfold imE at h; simpa using h.symm⟩))
  | n + 4, c, h => by unfold imE at h; simp at h
theorem imE_whole : WholeOk ((400 : Nat) : Int) imE := by
  refine ⟨by decide, by decide, by show (4 : Nat) ≤ 1048576; decide, fun i c h => ?_, fun i c h => ?_, fun i c h => ?_⟩
  · rcases imE_at i c h with ⟨rfl, rfl⟩ | ⟨rfl, rfl⟩ | ⟨rfl, rfl⟩ | ⟨rfl, rfl⟩
    · show (-1 : Int) < 0; decide
    · show (0 : Int) < 33; decide
    · show (33 : Int) < 37; decide
    · show (37 : Int) < 38; decide
  · rcases imE_at i c h with ⟨rfl, rfl⟩ | ⟨rfl, rfl⟩ | ⟨rfl, rfl⟩ | ⟨rfl, rfl⟩
    · show (0 : Int) < 400; decide
    · show (33 : Int) < 400; decide
    · show (37 : Int) < 400; decide
    · show (38 : Int) < 400; decide
  · rcases imE_at i c h with ⟨rfl, rfl⟩ | ⟨rfl, rfl⟩ | ⟨rfl, rfl⟩ | ⟨rfl, rfl⟩
    · exact same_no 0 (by decide) (by decide +kernel)
    · exact same_no 64 (by decide) (by decide +kernel)
    · exact same_no 0 (by decide) b0_zero
    · exact same_no 0 (by decide) (by decide +kernel)
theorem geoE : GeoOk 400 32 60 := ⟨by decide, by decide, by decide, by decide, by decide, by decide, by decide⟩
theorem at_0 : atL imE 0 = supP y0 := by unfold imE atL; rw [if_pos rfl]
theorem at_33 : atL imE 33 = N0 := by unfold imE; rw [atL, if_neg (by decide), atL, if_pos rfl]
theorem at_37 : atL imE 37 = B0 := by unfold imE; rw [atL, if_neg (by decide), atL, if_neg (by decide), atL, if_pos rfl]
theorem at_38 : atL imE 38 = D0 := by unfold imE; rw [atL, if_neg (by decide), atL, if_neg (by decide), atL, if_neg (by decide), atL, if_pos rfl]
theorem at_no (k : Int) (h0 : ¬ k = 0) (h1 : ¬ k = 33) (h2 : ¬ k = 37) (h3 : ¬ k = 38) : atL imE k = nought := by
  unfold imE
  rw [atL, if_neg (by omega), atL, if_neg (by omega), atL, if_neg (by omega), atL, if_neg (by omega), atL]
theorem imE_sup : SupOk 400 32 60 imE := ⟨geoE, fun j _ => by rw [at_0]; rfl, fun j _ => by rw [at_no 1 (by decide) (by decide) (by decide) (by decide)]; rfl⟩
theorem raw_no (i : Nat) (h1 : ¬ i = 1) (hi : i < 64) (j : Nat) (hj : j < 64) : rawP y0 imE i j = 0 := by
  show atL imE (33 + ((i / 16 : Nat) : Int)) (64 * (i % 16) + j) = 0
  by_cases h : i < 16
  · rw [show (33 : Int) + ((i / 16 : Nat) : Int) = 33 by omega, at_33]
    unfold N0 overN
    rw [if_neg (by omega)]
    rfl
  · rw [at_no _ (by omega) (by omega) (by omega) (by omega)]
    rfl
theorem raw_1 (j : Nat) (hj : j < 64) : rawP y0 imE 1 j = encN 2 2 32 1 (updN nought 0 38) j := by
  show atL imE 33 (64 + j) = _
  rw [at_33]
  unfold N0 overN
  rw [if_pos (by omega), show 64 + j - 64 = j by omega]
theorem num_congr {f g : Nat → Int} : ∀ (m k : Nat), (∀ j, k ≤ j → j < k + m → f j = g j) → numN f k m = numN g k m
  | 0, _, _ => rfl
  | m + 1, k, h => by rw [numN, numN, h k (by omega) (by omega), num_congr m (k + 1) fun j h1 h2 => h j (by omega) (by omega)]
theorem r1_k : numN (rawP y0 imE 1) 0 2 = 2 := (num_congr 2 0 fun j _ h => raw_1 j (by omega)).trans (by decide +kernel)
theorem r1_l : numN (rawP y0 imE 1) 2 2 = 2 := (num_congr 2 2 fun j _ h => raw_1 j (by omega)).trans (by decide +kernel)
theorem r1_s : numN (rawP y0 imE 1) 4 4 = 32 := (num_congr 4 4 fun j _ h => raw_1 j (by omega)).trans (by decide +kernel)
theorem r1_b : numN (rawP y0 imE 1) 8 4 = 1 := (num_congr 4 8 fun j _ h => raw_1 j (by omega)).trans (by decide +kernel)
theorem r1_d (i : Nat) (hi : i < 12) : decD (rawP y0 imE 1) i = if i = 0 then 38 else 0 := by
  unfold decD
  rw [num_congr 4 (12 + 4 * i) fun j _ h => raw_1 j (by omega)]
  have : ∀ i : Fin 12, numN (encN 2 2 32 1 (updN nought 0 38)) (12 + 4 * i.val) 4 = if i.val = 0 then 38 else 0 := by decide +kernel
  exact this ⟨i, hi⟩
theorem spD_skip {d : Nat → Int} {a : Nat} : ∀ m, (∀ k, a ≤ k → k < a + m → d k = 0) → spD d (a + m) = spD d a
  | 0, _ => rfl
  | m + 1, h => by
    rw [show a + (m + 1) = (a + m) + 1 by omega, spD_zero (h (a + m) (by omega) (by omega))]
    exact spD_skip m fun k h1 h2 => h k h1 (by omega)
theorem r1_sp : spotsP y0 imE (decD (rawP y0 imE 1)) = [(0, 38)] := by
  unfold spotsP
  rw [r1_d 10 (by decide), r1_d 11 (by decide), if_neg (by decide), if_neg (by decide)]
  rw [show (10 : Nat) = 1 + 9 from rfl, spD_skip 9 fun k h1 h2 => by rw [r1_d k (by omega), if_neg (by omega)]]
  rw [spD_some (k := 0) (by rw [r1_d 0 (by decide)]; decide), r1_d 0 (by decide)]
  rfl
def FcE : FC := ⟨1, 2, 2, 32, 1, decD (rawP y0 imE 1), [(0, 38)]⟩
theorem filesE : filesK y0 imE 60 = [FcE] := by
  have hz : ∀ k, ¬ k = 1 → k < 64 → numN (rawP y0 imE k) 0 2 = 0 := fun k h1 h2 => by
    rw [num_congr (g := nought) 2 0 fun j _ h => raw_no k h1 h2 j (by omega)]
    rfl
  rw [show (60 : Nat) = 1 + 59 from rfl, filesK_skip 59 fun k h1 h2 => hz (k + 1) (by omega) (by omega)]
  rw [filesK_some (k := 0) (by rw [show 0 + 1 = 1 from rfl, r1_k]; decide), show 0 + 1 = 1 from rfl]
  unfold flP FcE
  rw [r1_k, r1_l, r1_s, r1_b, r1_sp]
  rfl
end Go.Proofs.YtkcgbhagjkhcmaaGreat
/- The empty file system of the document's examples is sound. -/
namespace Go.Proofs.YtkcgbhagjkhcmaaGreat
open Go.RowKit Go.Maps
def entE : Fl → List (Int × ByteArray) := fun _ => esR
theorem nodesE : NodesOk y0 imE 60 4 := by
  refine ⟨rfl, by decide, rfl, by decide, by decide, fun i hi => ?_, fun i h1 h2 j hj => raw_no i (by omega) (by omega) j hj⟩
  by_cases h : i = 1
  · subst h
    refine .inr ⟨by decide, by rw [r1_k]; decide, ?_, fun _ => ⟨r1_k, by rw [r1_l]; decide⟩⟩
    rw [r1_k, r1_l, r1_s]
    refine ⟨fun j h1 h2 => ?_, by decide, by decide, by decide, fun _ => by decide⟩
    rw [raw_1 j h2]
    have : ∀ q : Fin 4, encN 2 2 32 1 (updN nought 0 38) (60 + q.val) = 0 := by decide +kernel
    have := this ⟨j - 60, by omega⟩
    rwa [show 60 + (j - 60) = j by omega] at this
  · exact .inl ⟨h, fun j hj => raw_no i h (by omega) j hj⟩
theorem nm_dot : NmOk bDot := ⟨by decide, by decide, fun i h => by
  have : i = 0 := by have : bDot.size = 1 := rfl; omega
  subst this
  exact ⟨by show ¬ ((46 : Nat) : Int) = 0; decide, by show ¬ ((46 : Nat) : Int) = 47; decide⟩⟩
theorem nm_dots : NmOk bDots := ⟨by decide, by decide, fun i h => by
  have h2 : i = 0 ∨ i = 1 := by have : bDots.size = 2 := rfl; omega
  rcases h2 with rfl | rfl <;> exact ⟨by show ¬ ((46 : Nat) : Int) = 0; decide, by show ¬ ((46 : Nat) : Int) = 47; decide⟩⟩
theorem esR_at : ∀ (i : Nat) e, esR[i]? = some e → (i = 0 ∧ e = (1, bDot)) ∨ (i = 1 ∧ e = (1, bDots))
  | 0, e, h => .inl ⟨rfl, by unfold esR at h; simpa using h.symm⟩
  | 1, e, h => .inr ⟨rfl, by unfold esR at h; simpa using h.symm⟩
  | n + 2, e, h => by unfold esR at h; simp at h
theorem esR_ok : ∀ e ∈ esR, EntOk e := fun e he => by
  unfold esR at he
  simp only [List.mem_cons, List.not_mem_nil, or_false] at he
  rcases he with rfl | rfl
  · exact .inr ⟨by constructor <;> decide, nm_dot⟩
  · exact .inr ⟨by constructor <;> decide, nm_dots⟩
theorem dot_ne : ¬ bDot = bDots := fun h => absurd (congrArg ByteArray.size h) (by decide)
theorem sloE (k : Nat) (e : Int × ByteArray) (h : esR[k]? = some e) : EntB (sloP imE [(0, 38)] k) e := by
  have hs : ∀ q j, q < 2 → j < 16 → sloP imE [(0, 38)] q j = encE (esR.getD q (0, ⟨#[]⟩)) j := fun q j hq hj => by
    unfold sloP
    rw [show ((q * 16 / 1024 : Nat) : Int) = 0 by omega, show mapP [(0, 38)] 0 = 38 from rfl, at_38]
    unfold D0 dirP
    rw [if_pos (by omega), show (q * 16 % 1024 + j) / 16 = q by omega, show (q * 16 % 1024 + j) % 16 = j by omega]
  rcases esR_at k e h with ⟨rfl, rfl⟩ | ⟨rfl, rfl⟩
  · exact .inr ⟨by constructor <;> decide, nm_dot, fun j hj => hs 0 j (by decide) hj⟩
  · exact .inr ⟨by constructor <;> decide, nm_dots, fun j hj => hs 1 j (by decide) hj⟩
/-- A list of one inode, by its contents. -/
theorem oneE {L : List Fl} (h : L.map Fl.core = filesK y0 imE 60) : ∃ p c, L = [⟨1, 2, 2, 32, 1, decD (rawP y0 imE 1), p, c, [(0, 38)]⟩] := by
  rw [filesE] at h
  match L, h with
  | [x], h =>
    obtain ⟨inum, k, lk, s, b, d, p, c, sp⟩ := x
    unfold FcE Fl.core at h
    simp only [List.map_cons, List.map_nil, List.cons.injEq, and_true, FC.mk.injEq] at h
    obtain ⟨rfl, rfl, rfl, rfl, rfl, rfl, rfl⟩ := h
    exact ⟨p, c, rfl⟩
  | [], h => simp at h
  | _ :: _ :: _, h => simp at h
theorem fineE : FineA y0 imE 60 4 400 1 entE := by
  refine ⟨nodesE, by decide, rfl, by decide, rfl, by decide, by decide, fun L hL => ?_⟩
  obtain ⟨p, c, rfl⟩ := oneE hL
  generalize decD (rawP y0 imE 1) = d at *
  have h1 : ∀ {P : Fl → Prop}, P ⟨1, 2, 2, 32, 1, d, p, c, [(0, 38)]⟩ → ∀ x ∈ [(⟨1, 2, 2, 32, 1, d, p, c, [(0, 38)]⟩ : Fl)], P x := fun h x hx => by rw [List.mem_singleton.1 hx]; exact h
  have hs1 : ∀ {P : Int × Int → Prop}, P (0, 38) → ∀ s ∈ [((0 : Int), (38 : Int))], P s := fun h s hs => by rw [List.mem_singleton.1 hs]; exact h
  have hall : allS [(⟨1, 2, 2, 32, 1, d, p, c, [(0, 38)]⟩ : Fl)] = [(0, 38)] := rfl
  have hnm : namesP entE [(⟨1, 2, 2, 32, 1, d, p, c, [(0, 38)]⟩ : Fl)] = [] := rfl
  refine ⟨h1 (by show (1 : Nat) ≤ 1000000; decide), h1 ⟨by show (0 : Int) ≤ 32 ∧ (32 : Int) ≤ 4294967295; decide, by show (0 : Int) ≤ 1 ∧ (1 : Int) ≤ 4294967295; decide⟩, h1 (by show (0 : Int) ≤ 2 ∧ (2 : Int) < 65536; decide), h1 (hs1 (by decide)), h1 (hs1 (by show (0 : Int) ≤ 38 ∧ (38 : Int) < 400; decide)), by rw [hall]; decide, fun b hb => ?_, h1 ⟨?_, ?_, ?_, ?_, ?_⟩, fun k i hk hi => ?_, h1 fun _ => ⟨by show (1 : Nat) ≤ 65535; decide, ⟨rfl, by show (2 : Nat) ≤ 100000; decide, fun k e h => sloE k e h⟩, fun _ => ⟨rfl, ⟨1, rfl⟩, fun i e h _ => ?_, fun i e h hi _ => ?_, fun i k e f he hf hk _ => ?_⟩⟩, by rw [hnm]; decide, (by rw [hnm]; intro s hs; cases hs), h1 fun _ _ => ⟨by show (1 : Nat) ≤ 60; decide, fun _ => ⟨by rw [hnm]; rfl, _, rfl⟩, fun q => absurd rfl q⟩, h1 ?_⟩
  · rw [hall]
    unfold cntS
    have := List.length_filter_le (fun s : Int × Int => s.2 == (b : Int)) [(0, 38)]
    simp only [List.length_cons, List.length_nil] at this
    omega
  · exact .inr (.inr (.inr (.inr ⟨rfl, hs1 fun q => absurd q (by decide)⟩)))
  · exact .inr (.inr (.inr (.inl ⟨rfl, hs1 (by show (0 : Int) < (32 + 1023) / 1024; decide)⟩)))
  · refine .inr (.inr (.inl ⟨rfl, .inr (.inr fun j h1 h2 => ?_)⟩))
    show atL imE (mapP [(0, 38)] (32 / 1024)) j = 0
    have h1' : (32 : Int) % 1024 ≤ j := h1
    rw [show mapP [(0, 38)] (32 / 1024) = 38 from rfl, at_38]
    unfold D0 dirP
    rw [if_neg (by omega)]
  · exact .inl ⟨rfl, rfl⟩
  · refine .inr (.inl ⟨rfl, fun _ i hi => ?_⟩)
    have hi' : (i : Int) < (32 + 1023) / 1024 := hi
    rw [show (i : Int) = 0 by omega]
    show ¬ (38 : Int) = 0
    decide
  · rw [hall, show k = 0 by omega, show y0.bitsAt + ((0 : Nat) : Int) = 37 from rfl, at_37, b0_has, show 8192 * 0 + i = i by omega]
    unfold wantB cntS
    rw [show y0.dataAt = 38 from rfl]
    by_cases h : i = 38
    · subst h; decide
    · have e1 : (List.filter (fun s : Int × Int => s.2 == (i : Int)) [(0, 38)]) = [] := by
        simp; omega
      rw [e1]
      by_cases h2 : i < 38
      · rw [decide_eq_true (show i < 39 by omega), decide_eq_true (show (i : Int) < 38 by omega)]; rfl
      · rw [decide_eq_false (show ¬ i < 39 by omega), decide_eq_false (show ¬ (i : Int) < 38 by omega)]; simp
  · rcases esR_at i e h with ⟨rfl, rfl⟩ | ⟨rfl, rfl⟩ <;> rfl
  · rcases esR_at i e h with ⟨rfl, rfl⟩ | ⟨rfl, rfl⟩ <;> omega
  · rcases esR_at i e he with ⟨rfl, rfl⟩ | ⟨rfl, rfl⟩
    · omega
    · rcases esR_at k f hf with ⟨rfl, rfl⟩ | ⟨rfl, rfl⟩
      · exact dot_ne
      · omega
  · rw [hnm]; rfl
end Go.Proofs.YtkcgbhagjkhcmaaGreat
/- The empty file system of the document's examples may be. -/
namespace Go.Proofs.YtkcgbhagjkhcmaaGreat
open Go.RowKit Go.Maps
def tE (pe : Option Addr) (ce : Nat) : It := ⟨1, 2, 2, 32, 1, none, 0, 0, pe, 2, ce⟩
/-- The root and its entries in memory. -/
structure ExAt (w : World) (pi pe : Option Addr) (ce : Nat) : Prop where
  its : LieG itCells 7 w pi [tE pe ce]
  ent : LieG enE 2 w pe esR
theorem ExAt.later {w W : World} {pi pe : Option Addr} {ce : Nat} (h : ExAt w pi pe ce) (hb : Below w.heap.size w W) : ExAt W pi pe ce := ⟨h.its.later hb, h.ent.later hb⟩
def FkE : Nat → Nat → Nat → Int
  | 0 => noF
  | _ + 1 => FR
def UkE : Nat → Nat → Bool
  | 0 => allNo
  | _ + 1 => UR
def nkE : Nat → Nat
  | 0 => 0
  | _ + 1 => 1
theorem stepsE {w : World} {pi pe : Option Addr} {ce : Nat} (h : ExAt w pi pe ce) : Steps w 400 y0 [tE pe ce] FkE UkE nkE := by
  refine ⟨rfl, rfl, rfl, fun k t ht W gp gl gu hW h1 h2 h3 hP => ?_⟩
  match k, ht with
  | 0, ht =>
    have ht' : tE pe ce = t := by simpa using ht
    subst ht'
    have hpn : ∀ g, pe = some ⟨g, 0, none⟩ → g ≠ gp ∧ g ≠ gl ∧ g ≠ gu := fun g hg => by
      obtain ⟨g', h4, h5, _⟩ := h.ent (by decide)
      rw [h4] at hg
      injection hg with hg
      injection hg with hg
      omega
    have hd := item_dir (w := W) (gp := gp) (gl := gl) (gu := gu) (n := 400) (y := y0) (F := noF) (U := allNo) (turn := 1) (next := 0) (da := 38) (m := 362) (na := 33) (nI := 60) (inum := 1) hP rfl rfl (by decide) (by decide) (by decide) rfl rfl rfl (by decide) (by decide) (by decide) 2 32 (by decide) (by decide) 1 none 0 ce (h.ent.later hW) hpn (by decide) esR_ok
    refine hd.mono ?_
    rintro e w' ⟨rfl, hp, hf⟩
    exact ⟨rfl, hp, hf⟩
  | k + 1, ht => simp at ht
/-- The entries of what is told. -/
def RE (W : World) (_ : Fl) (t : It) : Prop := t.m = 0 ∧ t.n = 2 ∧ OwnE W 0 (.slice t.q t.n t.d) esR
theorem tellsE {g : Nat} {A : World} {L : List Fl} (hL : L.map Fl.core = filesK y0 imE 60) (ha : Aud A g ((400 : Nat) : Int) imE y0) (hf : ∀ x ∈ L, FlOk A x) : Tells RE g A L := by
  refine ⟨fun W W' x t hk h => ⟨h.1, h.2.1, own_keep h.2.2 hk (by decide) (by decide)⟩, fun W x hx hb => ?_⟩
  have hfl := hf x hx
  obtain ⟨p, c, rfl⟩ := oneE hL
  have hx' := List.mem_singleton.1 hx
  subst hx'
  generalize decD (rawP y0 imE 1) = d at *
  have hfW : FlOk W ⟨1, 2, 2, 32, 1, d, p, c, [(0, 38)]⟩ := ⟨hfl.lie.later hb, hfl.len, hfl.s, hfl.b⟩
  refine (item29_dir (ha.later hb) _ hfW rfl (by show (0 : Int) ≤ 2 ∧ (2 : Int) < 65536; decide) esR rfl (by decide) sloE).mono ?_
  rintro r w' ⟨v, rfl, hs⟩
  obtain ⟨q, dd, rfl, _⟩ := OwnG.lie enE_len hs.own
  exact ⟨⟨1, 2, 2, 32, 1, none, 0, 0, q, 2, dd⟩, rfl, ⟨rfl, rfl, rfl, rfl, rfl⟩, ⟨rfl, rfl, OwnG.mono hs.own (Nat.zero_le _)⟩, hs.bel⟩
theorem sameE {w W : World} {pi pe : Option Addr} {ce B : Nat} {L : List Fl} {v : Value} {us : List It} (h : ExAt w pi pe ce) (hL : L.map Fl.core = filesK y0 imE 60) (hk : LkR W B RE L v us) (hb : Below w.heap.size w W) :
    freeK y0 L L.length = 361 ∧ ((60 : Nat) : Int) - (L.length : Int) = 59 ∧ ∃ pv cv E, v = .slice pv us.length cv ∧ SameSt W pv pi us [tE pe ce] E ∧ us.length = [tE pe ce].length := by
  obtain ⟨p, c, rfl⟩ := oneE hL
  obtain ⟨pv, cv, rfl, hl⟩ := OwnG.lie itCells_len hk.own
  have hlen : us.length = 1 := hk.len
  refine ⟨rfl, rfl, pv, cv, fun _ => esR, rfl, ⟨hlen.symm, by omega, hl, h.its.later hb, fun j t u ht hu => ?_⟩, hlen⟩
  match j, hu with
  | 0, hu =>
    have hu' : tE pe ce = u := by simpa using hu
    subst hu'
    obtain ⟨x, h1, h2, h3⟩ := hk.its 0 t ht
    have hx := (Option.some.inj h1).symm
    subst hx
    obtain ⟨q1, q2, q3, q4, q5⟩ := h2
    obtain ⟨r1, r2, r3⟩ := h3
    obtain ⟨p', c', h4, h5⟩ := OwnG.lie enE_len r3
    injection h4 with h4
    exact ⟨q1, q2, q3, q4, q5, r1, rfl, r2, rfl, by rw [h4]; exact h5, h.ent.later hb, by decide⟩
  | j + 1, hu => simp at hu
theorem bytE : Byt (supF FR y0 37) := nought_byt
theorem mayE {w : World} {pi pe : Option Addr} {ce : Nat} (ci : Nat) (h : ExAt w pi pe ce) :
    Calls Tryz.prog 15 #[.agg (geoRow 400 32 60), .agg (stRow (.slice pi 1 ci) 361 59)] w fun e w' => e = .returned (.bool true) ∧ Below w.heap.size w w' :=
  may_ok (w := w) (b := 400) (l := 32) (i := 60) geoE (by decide) (by decide) (ts := [tE pe ce]) ci h.its (show (1 : Nat) ≤ 1000000 by decide) 361 59 (stepsE h) bytE im_eq imE_whole imE_sup imE_byt fineE RE (fun g A L h1 h2 h3 => tellsE h1 h2 h3) (fun W B L v us h1 h2 h3 => sameE h h1 h2 h3)
theorem laidE {w : World} {pi pe : Option Addr} {ce : Nat} (ci : Nat) (h : ExAt w pi pe ce) :
    Calls Tryz.prog 16 #[.agg (geoRow 400 32 60), .agg (stRow (.slice pi 1 ci) 361 59), .int .i64 0] w fun e w' => ∃ v, e = .returned (.agg (imRow 400 v)) ∧ OwnH w' w.heap.size v imE ∧ Below w.heap.size w w' := by
  have := laid_zero (w := w) (b := 400) (l := 32) (i := 60) geoE (by decide) (by decide) (ts := [tE pe ce]) ci h.its (show (1 : Nat) ≤ 1000000 by decide) 361 59 (stepsE h) bytE
  rw [show imgL (finF (FkE [tE pe ce].length) (UkE [tE pe ce].length) (layOf 400 32 60) (daOf 400 32 60) (baOf 32 60) 400) 400 = imE from im_eq] at this
  exact this
end Go.Proofs.YtkcgbhagjkhcmaaGreat
/- The empty file system of the document's examples, made. -/
namespace Go.Proofs.YtkcgbhagjkhcmaaGreat
open Go.RowKit Go.Maps
theorem LieG.frame {α : Type} {en : α → List Value} {sz : Nat} {w W : World} {p : Option Addr} {l : List α} {T : Nat → Prop} (h : LieG en sz w p l) (hF : Fr T w W) (hp : ∀ g, p = some ⟨g, 0, none⟩ → ¬ T g) : LieG en sz W p l := fun h0 => by
  obtain ⟨g, h1, h2, h3⟩ := h h0
  exact ⟨g, h1, Nat.lt_of_lt_of_le h2 hF.size, fun i x hx j u hu => (World.cell?_of_block (w := w) (a := ⟨g, i * sz + j, none⟩) (hF.block g h2 (hp g h1))).trans (h3 i x hx j u hu)⟩
theorem ExAt.frame {w W : World} {pi pe : Option Addr} {ce : Nat} {T : Nat → Prop} (h : ExAt w pi pe ce) (hF : Fr T w W) (h1 : ∀ g, pi = some ⟨g, 0, none⟩ → ¬ T g) (h2 : ∀ g, pe = some ⟨g, 0, none⟩ → ¬ T g) : ExAt W pi pe ce := ⟨h.its.frame hF h1, h.ent.frame hF h2⟩
def wdRow (b l i : Int) (v : Value) (fr sp sd : Int) : Array Value := #[.int .i64 b, .int .i64 l, .int .i64 i, v, .int .i64 fr, .int .i64 sp, .int .i64 sd]
theorem zeroWd : ∀ w, (zeroValue 31).run Tryz.prog w = .ok (.agg (wdRow 0 0 0 (.slice none 0 0) 0 0 0)) w := (zero_of_info (show (Tryz.prog.info? 31).map (fun i => (i.zero, i.size)) = some (some (.agg (wdRow 0 0 0 (.slice none 0 0) 0 0 0)), 7) by kernel_rfl)).1
theorem wd_info (b l i : Int) (v : Value) (fr sp sd : Int) : (Tryz.prog.info? 31).map (·.size) = some (wdRow b l i v fr sp sd).size := by show _ = some 7; kernel_rfl
theorem wd_one (b l i : Int) (p : Option Addr) (n c : Nat) (fr sp sd : Int) : (wdRow b l i (.slice p n c) fr sp sd).all (·.oneCell') = true := by simp [wdRow, Value.oneCell']
section
variable {ops : Array Oper} {rest : List Oper} {a : Act} {w : World} {Q : Exit → Act → World → Prop} {dst : Option Tmp} {ty : TypeId} {pos : String} {aft : Array Edge} {gd : Option (Nat × Bool)}
theorem isSlR (t : TypeId) {n : Nat} {ps : Array (Nat × Operand)} (h : wpList Tryz.prog ops Q (⟨dst, .buildSlice t n ps, ty, pos, aft, gd⟩ :: rest) a w) : wpList Tryz.prog ops Q (⟨dst, .buildSlice t n ps, ty, pos, aft, gd⟩ :: rest) a w := h
end
theorem wpList_ex {ops : Array Oper} {rest : List Oper} {o : Oper} {a : Act} {w w' : World} {v : Value} {Q : Exit → Act → World → Prop} (hw : Region.wanted o (yielded ops a.tmps) = true) (hr : (execOp a.eval o).run Tryz.prog w = .ok (.value v) w') (h : wpList Tryz.prog ops Q rest (a.put o.dst v) w') : wpList Tryz.prog ops Q (o :: rest) a w := by
  unfold wpList
  rw [if_pos hw]
  refine .inl ?_
  unfold Oper.wp
  rw [hr]
  exact h
theorem zeroGeo : ∀ w, (zeroValue 26).run Tryz.prog w = .ok (.agg (geoRow 0 0 0)) w := (zero_of_info (show (Tryz.prog.info? 26).map (fun i => (i.zero, i.size)) = some (some (.agg (geoRow 0 0 0)), 3) by kernel_rfl)).1
section
variable {o : Oper} {a : Act} {W : World}
theorem exec_buildGeo (ho : o.op = .build 26 #[(0, .const (.int .i64 400)), (1, .const (.int .i64 32)), (2, .const (.int .i64 60))]) : (execOp a.eval o).run Tryz.prog W = .ok (.value (.agg (geoRow 400 32 60))) W := by
  have z := zeroGeo W
  unfold geoRow at *
  have hc : ∀ v, a.eval (.const v) = v := fun _ => rfl
  generalize a.eval = E at *
  unfold execOp
  simp only [ho]
  simp [go_sem, hc, z]
theorem exec_buildItE {x : Operand} {q : Option Addr} {n d : Nat} (ho : o.op = .build 105 #[(0, .const (.int .i64 1)), (1, .const (.int .u16 2)), (2, .const (.int .i64 2)), (3, .const (.int .i64 32)), (4, .const (.int .i64 1)), (6, x)]) (hx : a.eval x = .slice q n d) : (execOp a.eval o).run Tryz.prog W = .ok (.value (.agg (itCells ⟨1, 2, 2, 32, 1, none, 0, 0, q, n, d⟩).toArray)) W := by
  have z := zeroIt W
  unfold itRow at z
  have hc : ∀ v, a.eval (.const v) = v := fun _ => rfl
  generalize a.eval = E at *
  unfold execOp
  simp only [ho]
  simp [go_sem, hx, hc, z, itCells]
theorem exec_buildSt3 {x y t : Operand} {p : Option Addr} {n c : Nat} {fr sp : Int} (ho : o.op = .build 29 #[(0, t), (1, x), (2, y)]) (ht : a.eval t = .slice p n c) (hx : a.eval x = .int .i64 fr) (hy : a.eval y = .int .i64 sp) : (execOp a.eval o).run Tryz.prog W = .ok (.value (.agg (stRow (.slice p n c) fr sp))) W := by
  have z := zeroSt W
  unfold stRow at *
  generalize a.eval = E at *
  unfold execOp
  simp only [ho]
  simp [go_sem, ht, hx, hy, z]
theorem exec_buildWd {x y : Operand} {v : Value} {b l i fr sp : Int} (ho : o.op = .build 31 #[(0, x), (1, y)]) (hx : a.eval x = .agg (geoRow b l i)) (hy : a.eval y = .agg (stRow v fr sp)) : (execOp a.eval o).run Tryz.prog W = .ok (.value (.agg (wdRow b l i v fr sp 0))) W := by
  have z := zeroWd W
  unfold stRow geoRow wdRow at *
  generalize a.eval = E at *
  unfold execOp
  simp only [ho]
  simp [go_sem, hx, hy, z]
end
theorem itC_one (t : It) : (itCells t).toArray.all (·.oneCell') = true := by simp [itCells, Value.oneCell']
set_option maxRecDepth 40000 in
set_option maxHeartbeats 4000000 in
theorem fresh_ok (w : World) : Calls Tryz.prog 22 #[.agg (geoRow 400 32 60)] w fun e w' => ∃ pi pe ce ci, e = .returned (.agg (wdRow 400 32 60 (.slice pi 1 ci) 361 59 0)) ∧ ExAt w' pi pe ce ∧ (∀ g, pi = some ⟨g, 0, none⟩ → w.heap.size ≤ g) ∧ (∀ g, pe = some ⟨g, 0, none⟩ → w.heap.size ≤ g) ∧ Below w.heap.size w w' := by
  have zl := zeroLay
  have zw := zeroWd
  have ze := zero132
  have zi := zeroIt
  have zs := zeroSt
  obtain ⟨A, hA⟩ : ∃ A, A = (w.alloc (.cells (geoRow 400 32 60) 26)).alloc (.cells (wdRow 0 0 0 (.slice none 0 0) 0 0 0) 31) := ⟨_, rfl⟩
  have HgA : Hid (A.heap[w.heap.size]? = some (.cells (geoRow 400 32 60) 26)) := by rw [hA]; exact heap_kept (heap_alloc_new _ _) (below_new _ _)
  have HsA : Hid (A.heap[w.heap.size + 1]? = some (.cells (wdRow 0 0 0 (.slice none 0 0) 0 0 0) 31)) := by rw [hA]; exact heap_two _ _ _
  have HbA : Hid (Below w.heap.size w A) := by rw [hA]; exact below_next (below_new _ _) (below_new _ _)
  have hof := of03_ok geoE A
  have HA : Hid (A = _) := hA
  clear hA
  have HyD : Hid ((layOf 400 32 60).dataAt = 38) := rfl
  generalize layOf 400 32 60 = y at *
  go_enter Tryz.func22, Tryz.ntmps22
  go_upto_region 1 with fail
  rw [← HA.out]
  clear HA
  go_wp2_with (first | (with_reducible refine isLoadR 26 ?_; refine wpList_ldR 26 Tryz.underlying26 rfl rfl (.tmp 1) rfl w.heap.size rfl (geoRow 400 32 60) 26 (0, 0) (geo_info _ _ _) HgA.out ?_) | (go_at_call 17; fail))
  refine hof.mono ?_
  rintro e X ⟨rfl, hbX⟩
  have HgX : Hid _ := heap_kept (heap_kept HgA.out hbX) (below_new X (.cells (layRow y) 49))
  have HsX : Hid _ := heap_kept (heap_kept HsA.out hbX) (below_new X (.cells (layRow y) 49))
  have HbX : Hid (Below w.heap.size w (X.alloc (.cells (layRow y) 49))) := below_next (below_next HbA.out hbX) (below_new _ _)
  have HlX : Hid ((X.alloc (.cells (layRow y) 49)).heap[X.heap.size]? = some (.cells (layRow y) 49)) := heap_alloc_new _ _
  clear hof hbX HgA HsA HbA
  go_upto_region 2 with (first | (with_reducible refine isStoreR 49 ?_; refine wpList_stNew 49 rfl (.tmp 3) (.tmp 9) rfl X.heap.size (layRow y) (layRow lay0) 49 (lay_info _) (lay_two _ _) (lay_one _) rfl rfl rfl ?_))
  generalize X.alloc (.cells (layRow y) 49) = V at *
  generalize X.heap.size = gw at *
  go_upto_region 3 with (first | (with_reducible refine isBuildR 105 ?_; refine wpList_ex rfl (exec_buildItE rfl rfl) ?_) | (with_reducible refine isStoreR 105 ?_; refine wpList_stR 105 rfl (.tmp 5) (.tmp 14) rfl (V.heap.size + 1) (itCells (tE (some ⟨V.heap.size, 0, none⟩) 2)).toArray (itRow 0 0 0 0 0 (.slice none 0 0) (.slice none 0 0)) 105 (itC_info _) rfl (itC_one _) rfl rfl (heap_two _ _ _) ?_))
  obtain ⟨ES, hES⟩ : ∃ ES : Array Value, ES = #[.int .u16 1, .string ⟨#[46]⟩, .int .u16 1, .string ⟨#[46, 46]⟩] := ⟨_, rfl⟩
  rw [← hES]
  have hV1 := below_new V (.cells ES 133)
  have hV2 := below_new (V.alloc (.cells ES 133)) (.cells (itRow 0 0 0 0 0 (.slice none 0 0) (.slice none 0 0)) 105)
  have hF := Fr.setRow ((V.alloc (.cells ES 133)).alloc (.cells (itRow 0 0 0 0 0 (.slice none 0 0) (.slice none 0 0)) 105)) (V.heap.size + 1) (itCells (tE (some ⟨V.heap.size, 0, none⟩) 2)).toArray
  have hV3 : Below V.heap.size V _ := (below_next hV1 hV2).trans (hF.below (fun j q => by omega) (below_next hV1 hV2).size)
  have HeZ : Hid _ := (hF.block _ (Array.getElem?_eq_some_iff.1 (heap_kept (heap_alloc_new V (.cells ES 133)) hV2)).1 (by omega)).trans (heap_kept (heap_alloc_new V (.cells ES 133)) hV2)
  have HiZ : Hid _ := setRow_heap ((V.alloc (.cells ES 133)).alloc (.cells (itRow 0 0 0 0 0 (.slice none 0 0) (.slice none 0 0)) 105)) (V.heap.size + 1) _ (itCells (tE (some ⟨V.heap.size, 0, none⟩) 2)).toArray _ _ (heap_two _ _ _)
  have HgZ : Hid _ := heap_kept HgX.out hV3
  have HsZ : Hid _ := heap_kept HsX.out hV3
  have HlZ : Hid _ := heap_kept HlX.out hV3
  have HbZ : Hid _ := below_next HbX.out hV3
  have hge0 : w.heap.size ≤ V.heap.size := HbX.out.size
  clear hF hV1 hV2 hV3 HgX HsX HlX HbX
  generalize ((V.alloc (.cells ES 133)).alloc (.cells (itRow 0 0 0 0 0 (.slice none 0 0) (.slice none 0 0)) 105)).setRow (V.heap.size + 1) (itCells (tE (some ⟨V.heap.size, 0, none⟩) 2)).toArray = Z at *
  generalize V.heap.size = ge at *
  have HES : Hid _ := hES
  clear hES
  have cg0 : Z.cell? ⟨w.heap.size, 0, none⟩ = some (.int .i64 400) := Joins.cell_of_block HgZ.out 0
  have cg2 : Z.cell? ⟨w.heap.size, 2, none⟩ = some (.int .i64 60) := Joins.cell_of_block HgZ.out 2
  have cl8 : Z.cell? ⟨gw, 8, none⟩ = some (.int .i64 38) := by rw [← HyD.out]; exact Joins.cell_of_block HlZ.out 8
  go_wp2_with (first | (with_reducible refine isLoadR 26 ?_; refine wpList_ldR 26 Tryz.underlying26 rfl rfl (.tmp 1) rfl w.heap.size rfl (geoRow 400 32 60) 26 (0, 0) (geo_info _ _ _) HgZ.out ?_) | (with_reducible refine isLoadR 105 ?_; refine wpList_ldR 105 Tryz.underlying105 rfl rfl (.tmp 5) rfl (ge + 1) rfl (itCells (tE (some ⟨ge, 0, none⟩) 2)).toArray 105 (0, 0) (itC_info _) HiZ.out ?_) | (with_reducible refine isSlR 27 ?_; refine wpList_ex rfl (exec_sliceIt rfl rfl) ?_; refine Hid.out ?_))
  unfold Hid
  have hY := below_new Z (.cells (itCells (tE (some ⟨ge, 0, none⟩) 2)).toArray 105)
  have HsY : Hid _ := heap_kept HsZ.out hY
  have HeY : Hid _ := heap_kept HeZ.out hY
  have HnY : Hid ((Z.alloc (.cells (itCells (tE (some ⟨ge, 0, none⟩) 2)).toArray 105)).heap[Z.heap.size]? = some (.cells (itCells (tE (some ⟨ge, 0, none⟩) 2)).toArray 105)) := heap_alloc_new _ _
  have HbY : Hid _ := below_next HbZ.out hY
  have dg0 := (hY.cell (p := ⟨w.heap.size, 0, none⟩) (Array.getElem?_eq_some_iff.1 HgZ.out).1).trans cg0
  have dg2 := (hY.cell (p := ⟨w.heap.size, 2, none⟩) (Array.getElem?_eq_some_iff.1 HgZ.out).1).trans cg2
  have dl8 := (hY.cell (p := ⟨gw, 8, none⟩) (Array.getElem?_eq_some_iff.1 HlZ.out).1).trans cl8
  have hgeZ : ge < Z.heap.size := (Array.getElem?_eq_some_iff.1 HeZ.out).1
  have hwZ : w.heap.size ≤ Z.heap.size := HbZ.out.size
  have hge : ¬ ge = w.heap.size + 1 := fun q => by
    have h1 := HeZ.out
    rw [q, HsZ.out] at h1
    injection h1 with h1
    injection h1 with _ h2
    exact absurd h2 (by decide)
  have hzz : w.heap.size + 1 < Z.heap.size := (Array.getElem?_eq_some_iff.1 HsZ.out).1
  clear hY HgZ HsZ HlZ HbZ HeZ HiZ cg0 cg2 cl8
  generalize Z.alloc (.cells (itCells (tE (some ⟨ge, 0, none⟩) 2)).toArray 105) = Y at *
  generalize Z.heap.size = gi at *
  go_wp2_with (first | (with_reducible refine isBuildR 29 ?_; refine wpList_ex rfl (exec_buildSt3 (fr := 361) (sp := 59) rfl rfl rfl rfl) ?_) | (with_reducible refine isBuildR 31 ?_; refine wpList_ex rfl (exec_buildWd (v := .slice (some ⟨gi, 0, none⟩) 1 1) (b := 400) (l := 32) (i := 60) (fr := 361) (sp := 59) rfl rfl rfl) ?_) | (with_reducible refine isStoreR 31 ?_; refine wpList_stR 31 rfl (.tmp 2) (.tmp 28) rfl (w.heap.size + 1) (wdRow 400 32 60 (.slice (some ⟨gi, 0, none⟩) 1 1) 361 59 0) (wdRow 0 0 0 (.slice none 0 0) 0 0 0) 31 (wd_info _ _ _ _ _ _ _) rfl (wd_one _ _ _ _ _ _ _ _ _) rfl rfl HsY.out ?_))
  have hF := Fr.setRow Y (w.heap.size + 1) (wdRow 400 32 60 (.slice (some ⟨gi, 0, none⟩) 1 1) 361 59 0)
  have hn2 : (Y.setRow (w.heap.size + 1) (wdRow 400 32 60 (.slice (some ⟨gi, 0, none⟩) 1 1) 361 59 0)).heap[gi]? = some (.cells (itCells (tE (some ⟨ge, 0, none⟩) 2)).toArray 105) := (hF.block _ (Array.getElem?_eq_some_iff.1 HnY.out).1 (by omega)).trans HnY.out
  have he2 : (Y.setRow (w.heap.size + 1) (wdRow 400 32 60 (.slice (some ⟨gi, 0, none⟩) 1 1) 361 59 0)).heap[ge]? = some (.cells ES 133) := (hF.block _ (Array.getElem?_eq_some_iff.1 HeY.out).1 hge).trans HeY.out
  rw [HES.out] at he2
  refine retR Tryz.underlying31 rfl rfl (w.heap.size + 1) _ 31 (wd_info _ _ _ _ _ _ _) rfl (setRow_heap _ _ _ _ _ _ HsY.out) rfl ⟨some ⟨gi, 0, none⟩, some ⟨ge, 0, none⟩, 2, 1, rfl, ⟨fun _ => ⟨gi, rfl, (Array.getElem?_eq_some_iff.1 hn2).1, ?_⟩, fun _ => ⟨ge, rfl, (Array.getElem?_eq_some_iff.1 he2).1, ?_⟩⟩, fun g hg => by injection hg with hg; injection hg with hg; omega, fun g hg => by injection hg with hg; injection hg with hg; omega, HbY.out.trans (hF.below (fun j q => by omega) HbY.out.size)⟩
  · intro i x hx j u hu
    match i, hx with
    | 0, hx =>
      have hx' : tE (some ⟨ge, 0, none⟩) 2 = x := by simpa using hx
      subst hx'
      have := Joins.cell_of_block hn2 j
      rw [Nat.zero_mul, Nat.zero_add, this, List.getElem?_toArray]
      exact hu
    | i + 1, hx => simp at hx
  · intro i x hx j u hu
    rw [Joins.cell_of_block he2]
    rcases esR_at i x hx with ⟨rfl, rfl⟩ | ⟨rfl, rfl⟩
    · match j, hu with
      | 0, hu => exact hu
      | 1, hu => exact hu
      | j + 2, hu => simp [enE] at hu
    · match j, hu with
      | 0, hu => exact hu
      | 1, hu => exact hu
      | j + 2, hu => simp [enE] at hu
set_option maxRecDepth 40000 in
set_option maxHeartbeats 4000000 in
theorem example_ok (w : World) : Calls Tryz.prog 6 #[] w fun e w' => ∃ pi pe ce ci, e = .returned (.agg (wdRow 400 32 60 (.slice pi 1 ci) 361 59 0)) ∧ ExAt w' pi pe ce ∧ (∀ g, pi = some ⟨g, 0, none⟩ → w.heap.size ≤ g) ∧ (∀ g, pe = some ⟨g, 0, none⟩ → w.heap.size ≤ g) ∧ Below w.heap.size w w' := by
  have zw := zeroWd
  have zg := zeroGeo
  have hX := heap_alloc_new w (.cells (wdRow 0 0 0 (.slice none 0 0) 0 0 0) 31)
  have HbX : Hid _ := below_new w (.cells (wdRow 0 0 0 (.slice none 0 0) 0 0 0) 31)
  have HX : Hid _ := hX
  clear hX
  go_enter Tryz.func6, Tryz.ntmps6
  go_upto_region 1 with fail
  generalize w.alloc (.cells (wdRow 0 0 0 (.slice none 0 0) 0 0 0) 31) = V at *
  have hfr := fresh_ok V
  go_wp2_with (first | (with_reducible refine isBuildR 26 ?_; refine wpList_ex rfl (exec_buildGeo rfl) ?_) | (go_at_call 22; fail))
  refine hfr.mono ?_
  rintro e Y ⟨pi, pe, ce, ci, rfl, hE, hpi, hpe, hb⟩
  have hVs : w.heap.size < V.heap.size := (Array.getElem?_eq_some_iff.1 HX.out).1
  have HPi : Hid _ := hpi
  have HPe : Hid _ := hpe
  have hsY := heap_kept HX.out hb
  have HbY : Hid _ := below_next HbX.out hb
  have HE : Hid _ := hE
  clear hfr hE hb HX HbX hpi hpe
  go_wp2_with (first | (with_reducible refine isStoreR 31 ?_; refine wpList_stR 31 rfl (.tmp 0) (.tmp 2) rfl w.heap.size (wdRow 400 32 60 (.slice pi 1 ci) 361 59 0) (wdRow 0 0 0 (.slice none 0 0) 0 0 0) 31 (wd_info _ _ _ _ _ _ _) rfl (wd_one _ _ _ _ _ _ _ _ _) rfl rfl hsY ?_))
  have hF := Fr.setRow Y w.heap.size (wdRow 400 32 60 (.slice pi 1 ci) 361 59 0)
  exact retR Tryz.underlying31 rfl rfl w.heap.size _ 31 (wd_info _ _ _ _ _ _ _) rfl (setRow_heap _ _ _ _ _ _ hsY) rfl ⟨pi, pe, ce, ci, rfl, HE.out.frame hF (fun g hg q => by have := HPi.out g hg; omega) (fun g hg q => by have := HPe.out g hg; omega), fun g hg => by have := HPi.out g hg; omega, fun g hg => by have := HPe.out g hg; omega, HbY.out.trans (hF.below (fun j q => by omega) HbY.out.size)⟩
end Go.Proofs.YtkcgbhagjkhcmaaGreat
/- The document's disk made of an image: Blank, May, CopyHeld. -/
namespace Go.Proofs.YtkcgbhagjkhcmaaGreat
open Go.RowKit Go.Maps
set_option maxRecDepth 20000 in
set_option maxHeartbeats 1000000 in
theorem blank01_no (f : Nat → Int) (w : World) (h : sameN 1024 f nought = false) : Calls Tryz.prog 92 #[.agg (blk f)] w fun e w' => e = .returned (.bool false) ∧ Below w.heap.size w w' := by
  have HX : Hid (∀ i, i < 1024 → (w.alloc (.cells (blk f) 76)).cell? ⟨w.heap.size, i, none⟩ = some (.int .u8 (f i))) := fun i hi => cell_rowN (heap_alloc_new w (.cells (blk f) 76)) hi
  have HB : Hid _ := below_new w (.cells (blk f) 76)
  have HN : Hid (¬ ∀ i, i < 1024 → f i = 0) := fun q => by
    have := (sameN_iff 1024 f nought).2 q
    rw [h] at this
    cases this
  clear h
  go_enter Tryz.func92, Tryz.ntmps92
  go_wp2
  generalize w.alloc (.cells (blk f) 76) = V at *
  go_loopw [3] (fun s3 wx => ∃ i : Nat, i ≤ 1024 ∧ s3 = .int .i64 i ∧ wx = V ∧ Hid (∀ j, j < i → f j = 0)) (fun s3 _ => 1024 - (intOf s3).toNat)
  case atStart => exact ⟨0, by omega, rfl, rfl, fun j hj => by omega⟩
  case round =>
    obtain ⟨i, hi, rfl, rfl, HZ⟩ := hrel
    by_cases hi2 : (i : Int) < 1024
    · have hi3 : i < 1024 := by omega
      have hc := HX.out i hi3
      by_cases hz : f i = 0
      · have HZ2 : Hid (∀ j, j < i + 1 → f j = 0) := fun j hj => by
          rcases Nat.lt_or_ge j i with q | q
          · exact HZ.out j q
          · rw [show j = i by omega]; exact hz
        rw [hz] at hc
        clear HZ hz
        go_wp2
        exact ⟨⟨i + 1, by omega, by go_num, trivial, HZ2.out⟩, by simp [intOf]; omega⟩
      · generalize f i = fi at *
        go_wp2
        go_ret
        exact ⟨rfl, HB.out⟩
    · exact absurd (fun j hj => HZ.out j (by omega)) HN.out
theorem WholeOk.pos {n : Int} {l : List Cel} (h : WholeOk n l) : ∀ (i : Nat) c, l[i]? = some c → 0 ≤ c.1
  | 0, c, hc => by have : (-1 : Int) < c.1 := h.rise 0 c hc; omega
  | i + 1, c, hc => by
    have h1 := h.rise (i + 1) c hc
    have hlt : i + 1 < l.length := (List.getElem?_eq_some_iff.1 hc).1
    have hq : l[i]? = some l[i] := List.getElem?_eq_getElem (by omega)
    have h2 := h.pos i _ hq
    have h3 : ((l[i]?).map (·.1)).getD 0 < c.1 := h1
    rw [hq] at h3
    simp only [Option.map_some, Option.getD_some] at h3
    omega
set_option maxRecDepth 20000 in
set_option maxHeartbeats 4000000 in
theorem may04_ok (n : Int) (l : List Cel) (p : Option Addr) (cap : Nat) (w : World) (hi : ImgAt w p l) (h : WholeOk n l) :
    Calls Tryz.prog 54 #[.agg #[.int .i64 n, .slice p l.length cap]] w fun e w' => e = .returned (.bool true) ∧ Below w.heap.size w w' := by
  have HI : Hid (ImgAt w p l) := hi
  have HP : Hid _ := h.pos
  obtain ⟨n1, n2, hl, hr, ht, hf⟩ := h
  have HR : Hid _ := hr
  have HT : Hid _ := ht
  have HF : Hid _ := hf
  clear hi hr ht hf
  generalize hN : l.length = N at *
  have hX0 := heap_alloc_new w (.cells #[.int .i64 n, .slice p N cap] 62)
  have t1 : decide (n < 1) = false := decide_eq_false (by omega)
  have t2 : decide (1048576 < n) = false := decide_eq_false (by omega)
  have HB : Hid _ := below_new w (.cells #[.int .i64 n, .slice p N cap] 62)
  have HX1 : Hid _ := hX0
  have c0 : (w.alloc (.cells #[.int .i64 n, .slice p N cap] 62)).cell? ⟨w.heap.size, 0, none⟩ = some (.int .i64 n) := Joins.cell_of_block hX0 0
  clear hX0
  go_enter Tryz.func54, Tryz.ntmps54
  go_wp2
  generalize w.alloc (.cells #[.int .i64 n, .slice p N cap] 62) = V at *
  clear c0 t1 t2
  go_loopw [3, 4] (fun s3 _ wx => ∃ i : Nat, i ≤ N ∧ s3 = .int .i64 i ∧ Hid (Below V.heap.size V wx)) (fun s3 _ _ => N - (intOf s3).toNat)
  case atStart => exact ⟨0, by omega, rfl, Below.refl _ _⟩
  case round =>
    obtain ⟨i, hi, rfl, HW⟩ := hrel
    have hx1 := heap_kept HX1.out HW.out
    have c0 : wr.cell? ⟨w.heap.size, 0, none⟩ = some (.int .i64 n) := Joins.cell_of_block hx1 0
    have c1 : wr.cell? ⟨w.heap.size, 1, none⟩ = some (.slice p N cap) := Joins.cell_of_block hx1 1
    by_cases hi2 : (i : Int) < (N : Int)
    · have hc : l[i]? = some l[i] := List.getElem?_eq_getElem (by omega)
      obtain ⟨b, off, rfl, hlt, hC⟩ := HI.out (by omega)
      obtain ⟨a0, a1⟩ := hC i _ hc
      have hr := HR.out i _ hc
      have ht := HT.out i _ hc
      have hp := HP.out i _ hc
      have hbw := below_next HB.out HW.out
      have hbl := blank01_no (l[i]).2 wr (HF.out i _ hc)
      have q0 : wr.cell? ⟨b, off + i * 1025, none⟩ = some (.int .i64 (l[i]).1) := (hbw.cell (p := ⟨b, off + i * 1025, none⟩) hlt).trans a0
      have q1 : NumsAt wr .u8 b (off + i * 1025 + 1) (l[i]).2 1024 := a1.later hbw hlt
      have hiN : i < N := by omega
      generalize hcl : l[i] = cl at *
      clear hcl a0 a1
      have g0 : decide (cl.1 < 0) = false := decide_eq_false (by omega)
      have g2 : decide (n ≤ cl.1) = false := decide_eq_false (by omega)
      rcases Nat.eq_zero_or_pos i with rfl | hpos
      · clear hr HR HT HF HP hC hc hlt hbw hx1 HX1
        rw [Nat.zero_mul, Nat.add_zero] at q0 q1
        generalize cl.2 = f at *
        generalize cl.1 = q at *
        go_wp2_with (first | (with_reducible refine isLoadR 76 ?_; refine wpList_ldB rfl (.tmp 54) rfl b (off + 1) f rfl q1 ?_) | (go_at_call 92; fail))
        refine hbl.mono ?_
        rintro e X ⟨rfl, hbX⟩
        have HX : Hid _ := below_next HW.out hbX
        clear hbl hbX
        go_wp2
        exact ⟨⟨1, by omega, by go_num, HX.out⟩, by simp [intOf]; omega⟩
      · obtain ⟨k, rfl⟩ : ∃ k, i = k + 1 := ⟨i - 1, by omega⟩
        have hk : l[k]? = some l[k] := List.getElem?_eq_getElem (by omega)
        obtain ⟨b0, _⟩ := hC k _ hk
        have s0 : wr.cell? ⟨b, off + k * 1025, none⟩ = some (.int .i64 (l[k]).1) := (hbw.cell (p := ⟨b, off + k * 1025, none⟩) hlt).trans b0
        have hr' : (l[k]).1 < cl.1 := by have h3 : ((l[k]?).map (·.1)).getD 0 < cl.1 := hr; rw [hk] at h3; simpa using h3
        have g1 : decide (cl.1 ≤ (l[k]).1) = false := decide_eq_false (by omega)
        generalize (l[k]).1 = pr at *
        clear hr HR HT HF HP hC hc hlt hbw hx1 HX1 hk b0 hr'
        generalize cl.2 = f at *
        generalize cl.1 = q at *
        have e1 : IntKind.i64.wrap (((k + 1 : Nat) : Int) - 1) = (k : Int) := by rw [IntKind.wrap_i64]; omega
        have e2 : (0 : Int) < ((k + 1 : Nat) : Int) := by omega
        have e3 : ((k + 1 : Nat) : Int) - 1 = (k : Int) := by omega
        have e4 : (k : Int) < (N : Int) := by omega
        have e5 : k < N := by omega
        go_wp2_with (first | (with_reducible refine isLoadR 76 ?_; refine wpList_ldB rfl (.tmp 54) rfl b (off + (k + 1) * 1025 + 1) f rfl q1 ?_) | (go_at_call 92; fail))
        refine hbl.mono ?_
        rintro e X ⟨rfl, hbX⟩
        have HX : Hid _ := below_next HW.out hbX
        clear hbl hbX
        go_wp2
        exact ⟨⟨k + 1 + 1, by omega, by go_num, HX.out⟩, by simp [intOf]; omega⟩
    · have HR2 : Hid (Below w.heap.size w wr) := below_next HB.out HW.out
      clear hx1 HW
      go_wp2
      go_ret
      exact ⟨rfl, HR2.out⟩
end Go.Proofs.YtkcgbhagjkhcmaaGreat
/- The document's disk made of an image: CopyHeld, Load. -/
namespace Go.Proofs.YtkcgbhagjkhcmaaGreat
open Go.RowKit Go.Maps
set_option maxRecDepth 20000 in
set_option maxHeartbeats 2000000 in
theorem copyHeld_ok (l : List Cel) (p : Option Addr) (cap : Nat) (w : World) (hi : ImgAt w p l) (hl : l.length ≤ 1048576) :
    Calls Tryz.prog 55 #[.slice p l.length cap] w fun e w' => ∃ v, e = .returned v ∧ OwnH w' w.heap.size v l ∧ Below w.heap.size w w' := by
  have HI : Hid (ImgAt w p l) := hi
  clear hi
  have HT : Hid (l.take l.length = l) := List.take_length
  generalize hN : l.length = N at *
  go_enter Tryz.func55, Tryz.ntmps55
  go_wp2
  go_loopw [3, 4] (fun s3 s4 wx => ∃ k : Nat, k ≤ N ∧ s4 = .int .i64 k ∧ Hid (OwnH wx w.heap.size s3 (l.take k)) ∧ Hid (Below w.heap.size w wx)) (fun _ s4 _ => N - (intOf s4).toNat)
  case atStart => exact ⟨0, by omega, rfl, OwnG.nil _ _, Below.refl _ _⟩
  case round =>
    obtain ⟨k, hk, rfl, HO, HW⟩ := hrel
    by_cases hk2 : (k : Int) < (N : Int)
    · have hkN : k < N := by omega
      have hc : l[k]? = some l[k] := List.getElem?_eq_getElem (by omega)
      obtain ⟨b, off, rfl, hlt, hC⟩ := HI.out (by omega)
      obtain ⟨a0, a1⟩ := hC k _ hc
      have q0 : wr.cell? ⟨b, off + k * 1025, none⟩ = some (.int .i64 (l[k]).1) := (HW.out.cell (p := ⟨b, off + k * 1025, none⟩) hlt).trans a0
      have q1 : NumsAt wr .u8 b (off + k * 1025 + 1) (l[k]).2 1024 := a1.later HW.out hlt
      have HTk : Hid (l.take (k + 1) = l.take k ++ [l[k]]) := by rw [List.take_add_one, hc]; rfl
      have hlen : (l.take k).length ≤ 10000000 := by rw [List.length_take]; omega
      generalize hcl : l[k] = cl at *
      clear hcl a0 a1 hC hc hlt
      obtain ⟨i0, hi0, hz0, hz1, hz2⟩ := info_parts infoHeld
      obtain ⟨v', W3, R1, ho3, hb3, _⟩ := own_pushF celRow_len celRow_one Tryz.underlying60 hi0 hz0 hz1 hz2 (cel_size _) (by omega) (by omega) HO.out HW.out.size hlen cl 60
      have HO3 : Hid (OwnH W3 w.heap.size v' (l.take (k + 1))) := by rw [HTk.out]; exact ho3
      have HW3 : Hid (Below w.heap.size w W3) := HW.out.trans hb3
      clear HO HW ho3 hb3 hi0 hz0 hz1 hz2 HTk
      go_wp2_with (first | (with_reducible refine isLoadR 115 ?_; refine wpList_ldH rfl (.tmp 14) rfl b (off + k * 1025) cl rfl q0 q1 ?_) | (with_reducible refine isSlR 60 ?_; refine wpList_ex rfl (exec_sliceHeld (c := cl) rfl rfl) ?_) | (at_builtin; refine wpList_app rfl (.tmp 11) (.tmp 16) rfl rfl rfl R1 ?_))
      exact ⟨⟨k + 1, by omega, by go_num, HO3.out, HW3.out⟩, by simp [intOf]; omega⟩
    · obtain rfl : k = N := by omega
      rw [HT.out] at HO
      go_wp2
      go_ret
      exact ⟨_, rfl, HO.out, HW.out⟩
def d4Row (n : Int) (v : Value) (seen claims owner : Int) : Array Value := #[.int .i64 n, v, .slice none 0 0, .bool false, .int .i64 0, .bool false, .slice none 0 0, .int .i64 0, .int .i64 seen, .int .i64 claims, .int .i64 owner]
theorem zeroD4 : ∀ w, (zeroValue 124).run Tryz.prog w = .ok (.agg (d4Row 0 (.slice none 0 0) 0 0 0)) w := (zero_of_info (show (Tryz.prog.info? 124).map (fun i => (i.zero, i.size)) = some (some (.agg (d4Row 0 (.slice none 0 0) 0 0 0)), 11) by kernel_rfl)).1
theorem exec_buildD4 {o : Oper} {a : Act} {W : World} {x y : Operand} {n : Int} {p : Option Addr} {m c : Nat} (ho : o.op = .build 124 #[(0, x), (1, y)]) (hx : a.eval x = .int .i64 n) (hy : a.eval y = .slice p m c) : (execOp a.eval o).run Tryz.prog W = .ok (.value (.agg (d4Row n (.slice p m c) 0 0 0))) W := by
  have z := zeroD4 W
  unfold d4Row at *
  generalize a.eval = E at *
  unfold execOp
  simp only [ho]
  simp [go_sem, hx, hy, z]
/-- The document's disk at g: an image, nothing waiting. -/
structure D4At (w : World) (B g : Nat) (n : Int) (l : List Cel) (seen claims owner : Int) : Prop where
  row : ∃ v, w.heap[g]? = some (.cells (d4Row n v seen claims owner) 124) ∧ OwnH w B v l
set_option maxRecDepth 20000 in
set_option maxHeartbeats 2000000 in
theorem load04_ok (n : Int) (l : List Cel) (p : Option Addr) (cap : Nat) (w : World) (hi : ImgAt w p l) (h : WholeOk n l) :
    Calls Tryz.prog 20 #[.agg #[.int .i64 n, .slice p l.length cap]] w fun e w' => ∃ g, e = .returned (.tuple #[.pointer (some ⟨g, 0, none⟩), .int .i64 0]) ∧ D4At w' w.heap.size g n l 0 0 0 ∧ w.heap.size ≤ g ∧ Below w.heap.size w w' := by
  have hX := heap_alloc_new w (.cells #[.int .i64 n, .slice p l.length cap] 62)
  have HB : Hid _ := below_new w (.cells #[.int .i64 n, .slice p l.length cap] 62)
  have hmay := may04_ok n l p cap _ (hi.later HB.out) h
  have hll := h.len
  have HI : Hid (ImgAt (w.alloc (.cells #[.int .i64 n, .slice p l.length cap] 62)) p l) := hi.later HB.out
  have HX : Hid _ := hX
  clear hi h hX
  have HCp : Hid (∀ W, ImgAt W p l → Calls Tryz.prog 55 #[.slice p l.length cap] W fun e w' => ∃ v, e = .returned v ∧ OwnH w' W.heap.size v l ∧ Below W.heap.size W w') := fun W hW => copyHeld_ok l p cap W hW hll
  generalize hN : l.length = N at *
  have him : (Tryz.prog.info? 62).map (·.size) = some (#[Value.int .i64 n, .slice p N cap]).size := imr_info _ _
  go_enter Tryz.func20, Tryz.ntmps20
  go_upto_region 1 with fail
  generalize w.alloc (.cells #[.int .i64 n, .slice p N cap] 62) = V at *
  go_wp2_with (first | (with_reducible refine isLoadR 62 ?_; refine wpList_ldR 62 Tryz.underlying62 rfl rfl (.tmp 1) rfl w.heap.size rfl #[.int .i64 n, .slice p N cap] 62 (0, 0) him HX.out ?_) | (go_at_call 54; fail))
  refine hmay.mono ?_
  rintro e X ⟨rfl, hbX⟩
  have HXX : Hid _ := heap_kept HX.out hbX
  have HIX : Hid (ImgAt X p l) := ImgAt.later HI.out hbX
  have HBX : Hid _ := below_next HB.out hbX
  clear hmay hbX HX HI HB
  go_upto_region 3 with fail
  have HXd : Hid (X.drew.heap[w.heap.size]? = _) := HXX.out
  have hcp := HCp.out X.drew (ImgAt.later HIX.out (Below.refl _ _).drew)
  have HBd : Hid (Below w.heap.size w X.drew) := HBX.out.drew
  have hS : X.drew.cell? ⟨w.heap.size, 0, none⟩ = some (.int .i64 n) ∧ X.drew.cell? ⟨w.heap.size, 1, none⟩ = some (.slice p N cap) := ⟨Joins.cell_of_block HXd.out 0, Joins.cell_of_block HXd.out 1⟩
  clear HXX HIX HBX HCp
  refine wp_region_ord (S := fun u => u.cell? ⟨w.heap.size, 0, none⟩ = some (.int .i64 n) ∧ u.cell? ⟨w.heap.size, 1, none⟩ = some (.slice p N cap)) [(0, true), (1, true), (2, true), (3, true), (4, false), (5, true), (6, false), (7, true), (8, true)] (by kernel_rfl) rfl (by kernel_rfl) (fun d _ _ _ _ h => by cases d <;> exact h) hS ?_
  simp only [inOrd, List.getElem?_cons_zero, List.getElem?_cons_succ]
  refine wpOrd_yield (v := .pointer (some ⟨w.heap.size, 0, none⟩)) rfl (fun u _ => by go_simp) ?_
  simp only [Act.put, List.setIfInBounds_toArray, List.set_cons_succ, List.set_cons_zero]
  refine wpOrd_yield (v := .int .i64 n) rfl (fun u hu => by have := hu.1; go_simp) ?_
  simp only [Act.put, List.setIfInBounds_toArray, List.set_cons_succ, List.set_cons_zero]
  refine wpOrd_yield (v := .pointer (some ⟨w.heap.size, 1, none⟩)) rfl (fun u _ => by go_simp) ?_
  simp only [Act.put, List.setIfInBounds_toArray, List.set_cons_succ, List.set_cons_zero]
  refine wpOrd_yield (v := .slice p N cap) rfl (fun u hu => by have := hu.2; go_simp) ?_
  simp only [Act.put, List.setIfInBounds_toArray, List.set_cons_succ, List.set_cons_zero]
  refine wpOrd_call rfl 55 _ _ rfl Tryz.call55 [.slice p N cap] rfl ?_
  refine hcp.mono ?_
  rintro e Y ⟨v, rfl, hown, hbY⟩
  obtain ⟨pv, cv, rfl, _⟩ := OwnG.lie celRow_len hown
  have hxY := heap_kept HXd.out hbY
  refine ⟨_, rfl, ⟨Joins.cell_of_block hxY 0, Joins.cell_of_block hxY 1⟩, ?_⟩
  simp only [Act.put, List.setIfInBounds_toArray, List.set_cons_succ, List.set_cons_zero]
  refine wpOrd_yield (v := .agg (d4Row n (.slice pv l.length cv) 0 0 0)) rfl (fun u _ => exec_buildD4 rfl rfl rfl) ?_
  simp only [Act.put, List.setIfInBounds_toArray, List.set_cons_succ, List.set_cons_zero]
  have hxZ := heap_kept hxY (below_new Y (.cells (d4Row n (.slice pv l.length cv) 0 0 0) 124))
  refine wpOrd_act (v := .pointer (some ⟨Y.heap.size, 0, none⟩)) rfl (exec_box rfl rfl) ⟨Joins.cell_of_block hxZ 0, Joins.cell_of_block hxZ 1⟩ ?_
  simp only [Act.put, List.setIfInBounds_toArray, List.set_cons_succ, List.set_cons_zero]
  refine wpOrd_yield (v := .pointer (some ⟨Y.heap.size, 0, none⟩)) rfl (fun u _ => by go_simp) ?_
  simp only [Act.put, List.setIfInBounds_toArray, List.set_cons_succ, List.set_cons_zero]
  refine wpOrd_yield (v := .int .i64 0) rfl (fun u _ => by go_simp) ?_
  simp only [Act.put, List.setIfInBounds_toArray, List.set_cons_succ, List.set_cons_zero]
  refine wpOrd_nil ?_
  have HD : Hid (D4At (Y.alloc (.cells (d4Row n (.slice pv l.length cv) 0 0 0) 124)) w.heap.size Y.heap.size n l 0 0 0) := ⟨⟨_, heap_alloc_new _ _, (OwnG.mono hown HBd.out.size).later (below_new _ _)⟩⟩
  have HZ : Hid (Below w.heap.size w (Y.alloc (.cells (d4Row n (.slice pv l.length cv) 0 0 0) 124))) := below_next (below_next HBd.out hbY) (below_new _ _)
  have hYs : w.heap.size ≤ Y.heap.size := Nat.le_trans HBd.out.size hbY.size
  clear hxZ hxY hown hbY hcp hS HXd HBd
  generalize Y.alloc (.cells (d4Row n (.slice pv l.length cv) 0 0 0) 124) = Z at *
  generalize Y.heap.size = g at *
  go_wp2
  exact bodyPost_ret (results_tmp2 rfl _ _ _) rfl ⟨g, rfl, HD.out, hYs, HZ.out⟩
end Go.Proofs.YtkcgbhagjkhcmaaGreat
