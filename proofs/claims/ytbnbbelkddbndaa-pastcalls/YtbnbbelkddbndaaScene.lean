/- What images, lists of ops, bits and scenes that came in tell a walk; for all that can be read. -/
import Derived.Test.YtbnbbelkddbndaaRecs
import Derived.Deep.Slices
import Derived.ProofKit
import Derived.OpenShut
namespace Go.Proofs.Ytbnbbelkddbndaa
open Go.RowKit Go.ChangeShapes Go.WideShapes
section
variable {H : Type} {enc : TypeId × Value → H} {w : World} {base : Nat} {sp : Nat → Bool} {held : Bool} {v : Value} {x : DataW H × List MemPlace} {fuel : Nat}
theorem cellLt {b off : Nat} {v : Value} (h : w.cell? ⟨b, off, none⟩ = some v) : b < w.heap.size := by
  by_cases q : b < w.heap.size
  · exact q
  · unfold World.cell? at h
    simp only [Array.getElem?_eq_none (show w.heap.size ≤ b by omega)] at h
    simp at h
theorem plain_addr {a : Addr} {v : Value} (h : w.cell? (a.add 0) = some v) : ∃ b off, a = ⟨b, off, none⟩ ∧ b < w.heap.size := by
  obtain ⟨b, off, spot⟩ := a
  have hs : spot = none := by simpa [Addr.add] using World.cell?_spot h
  subst hs
  rw [Go.WideShapes.add_plain] at h
  exact ⟨b, off, rfl, cellLt h⟩
theorem bools_of_trod (h : DataW.trod enc Try.prog w base sp held fuel 26 [v] = some x) : ∃ a cap l, v = .slice a (List.length l) cap ∧ BoolsAt w v l ∧ l.length ≤ maxLen := by
  rcases Go.Deep.open_slice1 Try.underlying26 (by kernel_rfl) h with ⟨h0, _⟩ | ⟨a, len, cap, m, n, V, D, Pl, hv, _, hl, hm, hmm, _, hc⟩
  · have hv : v = .slice none 0 0 := by simpa using h0
    subst hv
    exact ⟨none, 0, [], rfl, bools_nil w, by unfold maxLen; simp⟩
  · have hv' : v = .slice (some a) len cap := by simpa using hv
    subst hv'
    have hlm : len ≤ m := by rw [hmm]; split <;> omega
    have key : ∀ i, ∃ z : Bool, (i < len → w.cell? (a.add i) = some (.bool z)) := fun i => by
      by_cases hi : i < len
      · obtain ⟨h1, h2⟩ := hc i (by omega)
        obtain ⟨z, hz, _⟩ := DataW.trod_bool Try.underlying4 h2
        have hz' : V i = .bool z := by simpa using hz
        exact ⟨z, fun _ => by rw [h1, hz']⟩
      · exact ⟨false, fun q => absurd q hi⟩
    obtain ⟨f, hf⟩ := Classical.skolem.1 key
    have hll : ((List.range len).map f).length = len := by simp
    refine ⟨some a, cap, (List.range len).map f, by rw [hll], ⟨some a, cap, by rw [hll], fun h0 => ?_⟩, by rw [hll]; omega⟩
    rw [hll] at h0
    obtain ⟨b, off, rfl, hb⟩ := plain_addr (hf 0 (by omega))
    refine ⟨b, off, rfl, fun i x hx => ?_⟩
    have hi : i < len := by have := (List.getElem?_eq_some_iff.1 hx).1; rwa [hll] at this
    have q := hf i hi
    rw [Go.WideShapes.add_plain] at q
    rw [q]
    rw [List.getElem?_map, List.getElem?_range hi] at hx
    exact congrArg some (congrArg Value.bool (by simpa using hx))
theorem int_of_trod {c : List Value} {n : Nat} {y : Option (DataW H × List MemPlace)} {z : DataW H × List MemPlace} (h : DataW.trod enc Try.prog w base sp held n 3 c = y) (hy : y = some z) : ∃ k, c = [.int .i64 k] ∧ -9223372036854775808 ≤ k ∧ k ≤ 9223372036854775807 := by
  rw [hy] at h
  obtain ⟨k, hk, _, hw⟩ := DataW.trod_int Try.underlying3 h
  have := bounds_i64 hw
  exact ⟨k, hk, this.1, this.2⟩
theorem kind_of_trod {c : List Value} {n : Nat} {y : Option (DataW H × List MemPlace)} {z : DataW H × List MemPlace} (h : DataW.trod enc Try.prog w base sp held n 38 c = y) (hy : y = some z) : ∃ k, c = [.int .u8 k] := by
  rw [hy] at h
  obtain ⟨k, hk, _, hw⟩ := DataW.trod_int Try.underlying38 h
  exact ⟨k, hk⟩
theorem blk_of_trod {cs : List Value} {n : Nat} {y : Option (DataW H × List MemPlace)} {z : DataW H × List MemPlace} (h : DataW.trod enc Try.prog w base sp held n 40 cs = y) (hy : y = some z) (hsz : cs.length = 1024) : ∃ f, Can f ∧ cs = (blk f).toList := by
  rw [hy] at h
  obtain ⟨xs, m, rfl, _, _, hl, hx⟩ := DataW.trod_array Try.underlying40 h
  have hc : ∀ i, i < 1024 → ∃ z : Int, (0 ≤ z ∧ z ≤ 255) ∧ cs[i]? = some (.int .u8 z) := by
    intro i hi
    have h1 := hx i hi
    rw [cells5, Nat.mul_one] at h1
    have hi' : i < xs.length := by omega
    rw [List.getElem?_eq_getElem hi'] at h1
    obtain ⟨z, hz, _, hw⟩ := DataW.trod_int Try.underlying5 h1
    refine ⟨z, bounds_u8 hw, ?_⟩
    have := congrArg (·[0]?) hz
    simpa [List.getElem?_take, List.getElem?_drop, Value.cells] using this
  have key : ∃ f : Nat → Int, ∀ i, i < 1024 → (0 ≤ f i ∧ f i ≤ 255) ∧ cs[i]? = some (.int .u8 (f i)) :=
    ⟨fun i => if h : i < 1024 then (hc i h).choose else 0, fun i hi => by
      simp only [hi, dif_pos]
      exact (hc i hi).choose_spec⟩
  obtain ⟨f, hf⟩ := key
  refine ⟨firsts f 1024, ⟨fun i => ?_, fun i hi => by unfold firsts; rw [if_neg (by omega)]⟩, ?_⟩
  · unfold firsts
    by_cases hi : i < 1024
    · rw [if_pos hi]; exact (hf i hi).1
    · rw [if_neg hi]; omega
  · apply List.ext_getElem?
    intro i
    by_cases hi : i < 1024
    · rw [(hf i hi).2, Array.getElem?_toList, blk_get _ _ hi]
      unfold firsts
      rw [if_pos hi]
    · rw [List.getElem?_eq_none (by omega), List.getElem?_eq_none (by rw [blk_list_len]; omega)]
theorem list2 {α : Type} {l : List α} (h : l.length = 2) : ∃ a b, l = [a, b] := by
  match l, h with
  | [a, b], _ => exact ⟨a, b, rfl⟩
theorem list3 {α : Type} {l : List α} (h : l.length = 3) : ∃ a b c, l = [a, b, c] := by
  match l, h with
  | [a, b, c], _ => exact ⟨a, b, c, rfl⟩
theorem list5 {α : Type} {l : List α} (h : l.length = 5) : ∃ a b c d e, l = [a, b, c, d, e] := by
  match l, h with
  | [a, b, c, d, e], _ => exact ⟨a, b, c, d, e, rfl⟩
theorem add_at {b off i j : Nat} : ((⟨b, off, none⟩ : Addr).add i).add j = ⟨b, off + i + j, none⟩ := by
  rw [Go.WideShapes.add_plain, Go.WideShapes.add_plain]
theorem plain_rows {a : Addr} {k : Nat} {cs : List Value} (h : w.cells? base (a.add (0 * k)) k = some cs) (hk : 0 < k) : ∃ b off, a = ⟨b, off, none⟩ ∧ b < w.heap.size := by
  obtain ⟨_, hlen, hcell⟩ := World.cells?_some h
  have h0 := hcell 0 hk
  rw [Nat.zero_mul, Go.Deep.add_add, Nat.add_zero, List.getElem?_eq_getElem (by omega)] at h0
  exact plain_addr h0
theorem cells42 : Try.prog.cellsOf 42 = 1026 := by kernel_rfl
theorem cells38 : Try.prog.cellsOf 38 = 1 := by kernel_rfl
/-- One element of an image. -/
theorem cel_of_trod {cs : List Value} {n : Nat} (h : DataW.trod enc Try.prog w base sp held n 44 cs = some x) (hl : cs.length = 1025) : ∃ c : Cel, Can c.2 ∧ cs = celRow c := by
  obtain ⟨xs, q, _, _, _, hxl, hf⟩ := DataW.trod_struct Try.underlying44 h
  obtain ⟨y0, y1, rfl⟩ := list2 (show xs.length = 2 from hxl)
  have g0 : DataW.trod enc Try.prog w base sp held q 3 ((cs.drop 0).take (Try.prog.cellsOf 3)) = some y0 := hf 0 _ rfl
  have g1 : DataW.trod enc Try.prog w base sp held q 40 ((cs.drop 1).take (Try.prog.cellsOf 40)) = some y1 := hf 1 _ rfl
  rw [cells3, List.drop_zero] at g0
  rw [cells40] at g1
  obtain ⟨k, hk, _⟩ := int_of_trod g0 rfl
  obtain ⟨f, hcan, hfe⟩ := blk_of_trod g1 rfl (by rw [List.length_take, List.length_drop, hl]; omega)
  refine ⟨(k, f), hcan, ?_⟩
  have e1 : (cs.drop 1).take 1024 = cs.drop 1 := List.take_of_length_le (by rw [List.length_drop, hl]; omega)
  rw [e1] at hfe
  rw [← List.take_append_drop 1 cs, hk, hfe]
  rfl
theorem rec_of_trod {cs : List Value} {n : Nat} (h : DataW.trod enc Try.prog w base sp held n 42 cs = some x) (hl : cs.length = 1026) : ∃ r : Rec, Can r.dat ∧ cs = recCells r := by
  obtain ⟨xs, q, _, _, _, hxl, hf⟩ := DataW.trod_struct Try.underlying42 h
  obtain ⟨y0, y1, y2, rfl⟩ := list3 (show xs.length = 3 from hxl)
  have g0 : DataW.trod enc Try.prog w base sp held q 38 ((cs.drop 0).take (Try.prog.cellsOf 38)) = some y0 := hf 0 _ rfl
  have g1 : DataW.trod enc Try.prog w base sp held q 3 ((cs.drop 1).take (Try.prog.cellsOf 3)) = some y1 := hf 1 _ rfl
  have g2 : DataW.trod enc Try.prog w base sp held q 40 ((cs.drop 2).take (Try.prog.cellsOf 40)) = some y2 := hf 2 _ rfl
  rw [cells38, List.drop_zero] at g0
  rw [cells3] at g1
  rw [cells40] at g2
  obtain ⟨kd, hkd⟩ := kind_of_trod g0 rfl
  obtain ⟨k, hk, _⟩ := int_of_trod g1 rfl
  obtain ⟨f, hcan, hfe⟩ := blk_of_trod g2 rfl (by rw [List.length_take, List.length_drop, hl]; omega)
  refine ⟨⟨kd, k, f⟩, hcan, ?_⟩
  have e1 : (cs.drop 2).take 1024 = cs.drop 2 := List.take_of_length_le (by rw [List.length_drop, hl]; omega)
  rw [e1] at hfe
  have e2 : cs.drop 1 = (cs.drop 1).take 1 ++ (cs.drop 1).drop 1 := (List.take_append_drop 1 _).symm
  rw [hk, List.drop_drop] at e2
  rw [← List.take_append_drop 1 cs, hkd, e2, hfe]
  rfl
theorem helds_of_trod (h : DataW.trod enc Try.prog w base sp held fuel 22 [v] = some x) : ∃ a cap l, v = .slice a (List.length l) cap ∧ ImgAt w a l ∧ l.length ≤ maxLen ∧ l.length ≤ cap ∧ ∀ c ∈ l, Can c.2 := by
  rcases Go.Deep.open_slice Try.underlying22 h with ⟨h0, _⟩ | ⟨a, len, cap, m, n, D, Pl, hv, _, hl, hm, hmm, _, hc⟩
  · have hv : v = .slice none 0 0 := by simpa using h0
    subst hv
    exact ⟨none, 0, [], rfl, fun q => by simp at q, by simp, by simp, fun c hc => by simp at hc⟩
  · have hv' : v = .slice (some a) len cap := by simpa using hv
    subst hv'
    have hlm : len ≤ m := by rw [hmm]; split <;> omega
    have key : ∀ i, ∃ c : Cel, Can c.2 ∧ (i < len → w.cells? base (a.add (i * 1025)) 1025 = some (celRow c)) := fun i => by
      by_cases hi : i < len
      · obtain ⟨cs, h1, h2⟩ := hc i (by omega)
        rw [cells44] at h1
        obtain ⟨_, hlen, _⟩ := World.cells?_some h1
        obtain ⟨c, hcan, rfl⟩ := cel_of_trod h2 hlen
        exact ⟨c, hcan, fun _ => h1⟩
      · exact ⟨(0, nought), can_nought, fun q => absurd q hi⟩
    obtain ⟨f, hf⟩ := Classical.skolem.1 key
    have hll : ((List.range len).map f).length = len := by simp
    refine ⟨some a, cap, (List.range len).map f, by rw [hll], fun h0 => ?_, by rw [hll]; omega, by rw [hll]; exact hl, fun c hc => ?_⟩
    · rw [hll] at h0
      obtain ⟨b, off, rfl, hb⟩ := plain_rows ((hf 0).2 (by omega)) (by omega)
      refine ⟨b, off, rfl, hb, fun k c hk => ?_⟩
      have hi : k < len := by have := (List.getElem?_eq_some_iff.1 hk).1; rwa [hll] at this
      rw [List.getElem?_map, List.getElem?_range hi] at hk
      have ec : f k = c := by simpa using hk
      obtain ⟨_, _, hcell⟩ := World.cells?_some ((hf k).2 hi)
      rw [ec] at hcell
      refine ⟨?_, fun j u hu => ?_⟩
      · have := hcell 0 (by omega)
        rw [add_at] at this
        rw [Nat.add_zero] at this
        rw [this]
        rfl
      · have hj : j < 1024 := by have := (List.getElem?_eq_some_iff.1 hu).1; rwa [blk_list_len] at this
        have := hcell (j + 1) (by omega)
        rw [add_at, show off + k * 1025 + (j + 1) = off + k * 1025 + 1 + j by omega] at this
        rw [this]
        unfold celRow
        rw [List.getElem?_cons_succ]
        exact hu
    · obtain ⟨i, _, rfl⟩ := List.mem_map.1 hc
      exact (hf i).1
theorem ops_of_trod (h : DataW.trod enc Try.prog w base sp held fuel 25 [v] = some x) : ∃ a cap l, v = .slice a (List.length l) cap ∧ OpsAt w a l ∧ l.length ≤ maxLen ∧ l.length ≤ cap ∧ ∀ r ∈ l, Can r.dat := by
  rcases Go.Deep.open_slice Try.underlying25 h with ⟨h0, _⟩ | ⟨a, len, cap, m, n, D, Pl, hv, _, hl, hm, hmm, _, hc⟩
  · have hv : v = .slice none 0 0 := by simpa using h0
    subst hv
    exact ⟨none, 0, [], rfl, fun q => by simp at q, by simp, by simp, fun c hc => by simp at hc⟩
  · have hv' : v = .slice (some a) len cap := by simpa using hv
    subst hv'
    have hlm : len ≤ m := by rw [hmm]; split <;> omega
    have key : ∀ i, ∃ c : Rec, Can c.dat ∧ (i < len → w.cells? base (a.add (i * 1026)) 1026 = some (recCells c)) := fun i => by
      by_cases hi : i < len
      · obtain ⟨cs, h1, h2⟩ := hc i (by omega)
        rw [cells42] at h1
        obtain ⟨_, hlen, _⟩ := World.cells?_some h1
        obtain ⟨c, hcan, rfl⟩ := rec_of_trod h2 hlen
        exact ⟨c, hcan, fun _ => h1⟩
      · exact ⟨⟨0, 0, nought⟩, can_nought, fun q => absurd q hi⟩
    obtain ⟨f, hf⟩ := Classical.skolem.1 key
    have hll : ((List.range len).map f).length = len := by simp
    refine ⟨some a, cap, (List.range len).map f, by rw [hll], fun h0 => ?_, by rw [hll]; omega, by rw [hll]; exact hl, fun c hc => ?_⟩
    · rw [hll] at h0
      obtain ⟨b, off, rfl, hb⟩ := plain_rows ((hf 0).2 (by omega)) (by omega)
      refine ⟨b, off, rfl, hb, fun k c hk => ?_⟩
      have hi : k < len := by have := (List.getElem?_eq_some_iff.1 hk).1; rwa [hll] at this
      rw [List.getElem?_map, List.getElem?_range hi] at hk
      have ec : f k = c := by simpa using hk
      obtain ⟨_, _, hcell⟩ := World.cells?_some ((hf k).2 hi)
      rw [ec] at hcell
      refine ⟨?_, ?_, fun j u hu => ?_⟩
      · have := hcell 0 (by omega)
        rw [add_at, Nat.add_zero] at this
        rw [this]
        rfl
      · have := hcell 1 (by omega)
        rw [add_at] at this
        rw [this]
        rfl
      · have hj : j < 1024 := by have := (List.getElem?_eq_some_iff.1 hu).1; rwa [blk_list_len] at this
        have := hcell (j + 2) (by omega)
        rw [add_at, show off + k * 1026 + (j + 2) = off + k * 1026 + 2 + j by omega] at this
        rw [this]
        simp only [recCells, List.getElem?_cons_succ]
        exact hu
    · obtain ⟨i, _, rfl⟩ := List.mem_map.1 hc
      exact (hf i).1
theorem cells24 : Try.prog.cellsOf 24 = 2 := by kernel_rfl
theorem cells22 : Try.prog.cellsOf 22 = 1 := by kernel_rfl
theorem cells25 : Try.prog.cellsOf 25 = 1 := by kernel_rfl
theorem cells26 : Try.prog.cellsOf 26 = 1 := by kernel_rfl
theorem cells28 : Try.prog.cellsOf 28 = 6 := by kernel_rfl
/-- An image that came in. -/
structure ImgIs (w : World) (v0 v1 : Value) : Prop where
  is : ∃ n p l cp, v0 = .int .i64 n ∧ v1 = .slice p (List.length l) cp ∧ ImgAt w p l ∧ l.length ≤ maxLen ∧ l.length ≤ cp ∧ (∀ c ∈ l, Can c.2) ∧ -9223372036854775808 ≤ n ∧ n ≤ 9223372036854775807
theorem image_of_trod {v0 v1 : Value} (h : DataW.trod enc Try.prog w base sp held fuel 24 [v0, v1] = some x) : ImgIs w v0 v1 := by
  obtain ⟨xs, q, _, _, _, hxl, hf⟩ := DataW.trod_struct Try.underlying24 h
  obtain ⟨y0, y1, rfl⟩ := list2 (show xs.length = 2 from hxl)
  have g0 := hf 0 _ rfl
  have g1 := hf 1 _ rfl
  simp [cells3, cells22] at g0 g1
  obtain ⟨n, hn, hn1⟩ := int_of_trod g0 rfl
  obtain ⟨a, cap, l, rfl, h2, h3, h4, h5⟩ := helds_of_trod g1
  have e0 : v0 = .int .i64 n := by simpa using hn
  exact ⟨n, a, l, cap, e0, rfl, h2, h3, h4, h5, hn1⟩
theorem list6 {α : Type} {l : List α} (h : l.length = 6) : ∃ a b c d e f, l = [a, b, c, d, e, f] := by
  match l, h with
  | [a, b, c, d, e, f], _ => exact ⟨a, b, c, d, e, f, rfl⟩
/-- A scene that came in. -/
theorem scene_of_trod {cs : List Value} (h : DataW.trod enc Try.prog w base sp held fuel 28 cs = some x) (hl : cs.length = 6) : ∃ n p l cp po ops co k ka keep kc q, cs = (sceneV n p (List.length l) cp po (List.length ops) co k ka (List.length keep) kc q).toList ∧
    ImgAt w p l ∧ l.length ≤ maxLen ∧ l.length ≤ cp ∧ (∀ c ∈ l, Can c.2) ∧ OpsAt w po ops ∧ ops.length ≤ maxLen ∧ ops.length ≤ co ∧ (∀ r ∈ ops, Can r.dat) ∧ BoolsAt w (.slice ka keep.length kc) keep ∧ keep.length ≤ maxLen ∧ (-9223372036854775808 ≤ n ∧ n ≤ 9223372036854775807) ∧ (-9223372036854775808 ≤ k ∧ k ≤ 9223372036854775807) ∧ (-9223372036854775808 ≤ q ∧ q ≤ 9223372036854775807) := by
  obtain ⟨v0, v1, v2, v3, v4, v5, rfl⟩ := list6 hl
  obtain ⟨xs, m, _, _, _, hxl, hf⟩ := DataW.trod_struct Try.underlying28 h
  obtain ⟨y0, y1, y2, y3, y4, rfl⟩ := list5 (show xs.length = 5 from hxl)
  have g0 := hf 0 _ rfl
  have g1 := hf 1 _ rfl
  have g2 := hf 2 _ rfl
  have g3 := hf 3 _ rfl
  have g4 := hf 4 _ rfl
  simp [cells3, cells24, cells25, cells26] at g0 g1 g2 g3 g4
  obtain ⟨n, p, l, cp, rfl, rfl, i1, i2, i3, i4, i5⟩ := (image_of_trod g0).is
  obtain ⟨po, co, ops, rfl, o1, o2, o3, o4⟩ := ops_of_trod g1
  obtain ⟨k, hk, hk1⟩ := int_of_trod g2 rfl
  obtain ⟨ka, kc, keep, rfl, b1, b2⟩ := bools_of_trod g3
  obtain ⟨q, hq, hq1⟩ := int_of_trod g4 rfl
  have e3 : v3 = .int .i64 k := by simpa using hk
  have e5 : v5 = .int .i64 q := by simpa using hq
  subst e3 e5
  exact ⟨n, p, l, cp, po, ops, co, k, ka, keep, kc, q, rfl, i1, i2, i3, i4, o1, o2, o3, o4, b1, b2, i5, hk1, hq1⟩
end
end Go.Proofs.Ytbnbbelkddbndaa
