import Derived.Test.YtbnbbelkddbndaaHList
import Derived.Deep.DeepAppendWide
import Derived.Deep.Onto
/- Lists of anything in memory of their own: written over, gone on with, told apart; what holds of them along the way. -/
namespace Go.Proofs.Ytbnbbelkddbndaa
open Go.RowKit Go.Maps
section
variable {α : Type} {en : α → List Value} {sz : Nat}
theorem fml (hr : ∀ x, (en x).length = sz) : ∀ l : List α, (l.flatMap en).length = l.length * sz
  | [] => by simp
  | x :: t => by rw [List.flatMap_cons, List.length_append, hr, fml hr t, List.length_cons, Nat.add_mul, Nat.one_mul, Nat.add_comm]
/-- A row with some cells written over. -/
def putE (cur : Array Value) (off : Nat) (r : List Value) : Array Value := (cur.toList.take off ++ r ++ cur.toList.drop (off + r.length)).toArray
theorem own_set (hr : ∀ x, (en x).length = sz) {B e g n c i : Nat} {w : World} {l : List α} {x : α} (h : w.ownsRow B e sz (.slice (some ⟨g, 0, none⟩) n c) n (l.flatMap en)) (hl : l.length = n) (hi : i < n) :
    ∃ cur, w.heap[g]? = some (.cells cur e) ∧ i * sz + sz ≤ cur.size ∧ (w.setRow g (putE cur (i * sz) (en x))).ownsRow B e sz (.slice (some ⟨g, 0, none⟩) n c) n ((l.set i x).flatMap en) := by
  obtain ⟨_, h2⟩ := h
  rcases h2 with ⟨q, _⟩ | ⟨g', cap, cur, hv, hB, hg, hnc, hcm, hcs, ht⟩
  · simp at q
  · injection hv with q1 q2 q3
    injection q1 with q1
    injection q1 with q1
    subst q1; subst q3
    have el : l = l.take i ++ l[i] :: l.drop (i + 1) := by rw [← List.drop_eq_getElem_cons (by omega), List.take_append_drop]
    have es : l.set i x = l.take i ++ x :: l.drop (i + 1) := List.set_eq_take_append_cons_drop.trans (if_pos (by omega))
    have hA : ((l.take i).flatMap en).length = i * sz := by rw [fml hr, List.length_take, Nat.min_eq_left (by omega)]
    have hC : ((l.drop (i + 1)).flatMap en).length = (n - (i + 1)) * sz := by rw [fml hr, List.length_drop, hl]
    have hF : l.flatMap en = (l.take i).flatMap en ++ (en l[i] ++ (l.drop (i + 1)).flatMap en) := by
      conv => lhs; rw [el]
      rw [List.flatMap_append, List.flatMap_cons]
    have hcur : cur.toList = (l.take i).flatMap en ++ (en l[i] ++ ((l.drop (i + 1)).flatMap en ++ cur.toList.drop (n * sz))) := by
      conv => lhs; rw [← List.take_append_drop (n * sz) cur.toList]
      rw [ht, hF, List.append_assoc, List.append_assoc]
    have hmul : i * sz + (sz + (n - (i + 1)) * sz) = n * sz := by
      rw [← Nat.add_assoc, show i * sz + sz = (i + 1) * sz by rw [Nat.add_mul, Nat.one_mul], ← Nat.add_mul]
      congr 1
      omega
    have hle : n * sz ≤ cur.size := by rw [hcs]; exact Nat.mul_le_mul_right _ hnc
    have hne : (l.set i x).flatMap en = (l.take i).flatMap en ++ (en x ++ (l.drop (i + 1)).flatMap en) := by rw [es, List.flatMap_append, List.flatMap_cons]
    generalize (l.take i).flatMap en = A at *
    generalize (l.drop (i + 1)).flatMap en = C at *
    generalize cur.toList.drop (n * sz) = R at *
    have hp : putE cur (i * sz) (en x) = (A ++ (en x ++ (C ++ R))).toArray := by
      unfold putE
      rw [hr, hcur, ← hA, List.take_left, show A.length + sz = (A ++ en l[i]).length by rw [List.length_append, hr], ← List.append_assoc, List.drop_left, List.append_assoc]
    have hcl : cur.size = A.length + (sz + (C.length + R.length)) := by
      rw [← Array.length_toList, hcur, List.length_append, List.length_append, List.length_append, hr]
    refine ⟨cur, hg, by omega, ?_⟩
    rw [hp, hne]
    refine ⟨by rw [List.length_append, List.length_append, hr, hA, hC]; exact hmul, .inr ⟨g, c, _, rfl, hB, setRow_heap _ _ _ _ _ _ hg, hnc, hcm, ?_, ?_⟩⟩
    · rw [List.size_toArray, List.length_append, List.length_append, List.length_append, hr, ← hcl, hcs]
    · rw [List.toList_toArray, show n * sz = (A ++ (en x ++ C)).length by rw [List.length_append, List.length_append, hr, hA, hC]; exact hmul.symm, ← List.append_assoc, ← List.append_assoc, ← List.append_assoc, List.take_left]
theorem own_other {B e n g : Nat} {w : World} {v : Value} {xs : List Value} (h : w.ownsRow B e sz v n xs) (hg : v.ownBlock ≠ some g) (cs : Array Value) : (w.setRow g cs).ownsRow B e sz v n xs := by
  obtain ⟨h1, h2⟩ := h
  refine ⟨h1, ?_⟩
  rcases h2 with h2 | ⟨g', cap, cur, rfl, hB, hh, r⟩
  · exact .inl h2
  · refine .inr ⟨g', cap, cur, rfl, hB, ?_, r⟩
    rw [setRow_other w g g' cs fun q => hg (by rw [q]; rfl)]
    exact hh
theorem own_later {w w' : World} {base e size : Nat} {v : Value} {n : Nat} {xs : List Value} (h : w.ownsRow base e size v n xs) (hb : Below w.heap.size w w') : w'.ownsRow base e size v n xs := by
  obtain ⟨h1, h2⟩ := h
  refine ⟨h1, ?_⟩
  rcases h2 with h2 | ⟨g, cap, cur, hv, hg, hh, r⟩
  · exact .inl h2
  · exact .inr ⟨g, cap, cur, hv, hg, (hb.block g (Array.getElem?_eq_some_iff.1 hh).1).trans hh, r⟩
theorem own_frame {w w' : World} {base e size : Nat} {v : Value} {n : Nat} {xs : List Value} {T : Nat → Prop} (h : w.ownsRow base e size v n xs) (hf : Fr T w w') (hT : ∀ i, v.ownBlock = some i → ¬ T i) : w'.ownsRow base e size v n xs := by
  obtain ⟨h1, h2⟩ := h
  refine ⟨h1, ?_⟩
  rcases h2 with h2 | ⟨g, cap, cur, rfl, hg, hh, r⟩
  · exact .inl h2
  · exact .inr ⟨g, cap, cur, rfl, hg, (hf.block g (Array.getElem?_eq_some_iff.1 hh).1 (hT g rfl)).trans hh, r⟩
theorem own_get (hr : ∀ x, (en x).length = sz) {B e g n c i : Nat} {w : World} {l : List α} {x : α} (h : w.ownsRow B e sz (.slice (some ⟨g, 0, none⟩) n c) n (l.flatMap en)) (hx : l[i]? = some x) : ∀ j v, (en x)[j]? = some v → w.cell? ⟨g, i * sz + j, none⟩ = some v := fun j v hv => by
  have hj : j < sz := by have := (List.getElem?_eq_some_iff.1 hv).1; rwa [hr] at this
  have hln := h.1
  rw [fml hr] at hln
  have hi : i < l.length := (List.getElem?_eq_some_iff.1 hx).1
  have hlt : i * sz + j < n * sz := by
    rw [← hln]
    have : (i + 1) * sz ≤ l.length * sz := Nat.mul_le_mul_right _ hi
    rw [Nat.add_mul, Nat.one_mul] at this
    omega
  rw [World.ownsRow.cellAt h _ hlt, fm_get (row := en) (n := sz) hr l i j x hx hj]
  exact hv
theorem own_form {w : World} {B e n : Nat} {v : Value} {xs : List Value} (h : w.ownsRow B e sz v n xs) : (v = .slice none 0 0 ∧ n = 0) ∨ ∃ g c, v = .slice (some ⟨g, 0, none⟩) n c ∧ g < w.heap.size := by
  rcases h.2 with q | ⟨g, c, cur, hv, _, hh, _⟩
  · exact .inl q
  · exact .inr ⟨g, c, hv, (Array.getElem?_eq_some_iff.1 hh).1⟩
/-- Append onto a list: the longer one, what stays, and that the shorter one is as it was. -/
theorem append_keep {st e : TypeId} {i : TypeInfo} {z : Value} {bytes : Nat} (ht : Try.prog.underlying st = some (.slice e)) (hi : Try.prog.info? e = some i) (hz : i.zero = some z) (hsize : i.size = sz) (hby : i.bytes = bytes) (hzs : z.cells.size = sz) (hsz : 0 < sz)
    {W : World} {v : Value} {B : Nat} {n : Nat} {xs : List Value} (hown : W.ownsRow B e sz v n xs) {ad : Addr} {m c : Nat} {news : List Value} (hm : 0 < m) (hl : news.length = m * sz)
    (hnews : ∀ j u, news[j]? = some u → W.cell? (ad.add j) = some u) (h1 : ∀ u ∈ news, u.oneCell' = true) (h63 : n + m ≤ maxLen) (hbytes : ((n + m) + (n + m) / 4 + 192) * bytes ≤ 281474976710656) (hB : B ≤ W.heap.size) (ty : TypeId) :
    ∃ v' w', (Builtin.append_ #[st, st] ty #[v, .slice (some ad) m c]).run Try.prog W = .ok v' w' ∧ w'.ownsRow B e sz v' (n + m) (xs ++ news) ∧ w'.ownsRow B e sz v n xs ∧ Fr (fun k => v.ownBlock = some k) W w' ∧ ∀ k, v'.ownBlock = some k → v.ownBlock = some k ∨ W.heap.size ≤ k := by
  obtain ⟨v', w', hr, h2, hg, h4⟩ := append_gen (W := W) (v := v) ht hi hz hsize hby hzs hsz hown (ad := ad) (m := m) (c := c) hm hl hnews h1 h63 hbytes hB ty
  refine ⟨v', w', hr, h2, ?_, hg, h4⟩
  have hmx : n + m ≤ 9223372036854775807 := by simp only [maxLen] at h63; omega
  subst hsize
  subst hby
  have hown' := hown
  rcases hown.2 with ⟨rfl, rfl⟩ | ⟨g, cap, cur, rfl, hBg, hg', hnc, hcm, hcs, htake⟩
  · exact ⟨hown.1, .inl ⟨rfl, rfl⟩⟩
  · by_cases hroom : n + m ≤ cap
    · have hfit : n * i.size + news.length ≤ cur.size := by rw [hl, hcs, ← Nat.add_mul]; exact Nat.mul_le_mul_right _ hroom
      rw [run_append_room (P := Try.prog) W st ty e i ht hi g n cap cur hg' ad m c news hl hnews h1 hroom hfit] at hr
      injection hr with q1 q2
      subst q1
      rcases h2.2 with ⟨q, _⟩ | ⟨g2, cap2, cur2, q, _, hh2, _, _, hcs2, ht2⟩
      · simp at q
      · injection q with q1 q2' q3
        injection q1 with q1
        injection q1 with q1
        subst q1; subst q3
        refine ⟨hown.1, .inr ⟨g, cap, cur2, rfl, hBg, hh2, hnc, hcm, hcs2, ?_⟩⟩
        have hx := hown.1
        rw [show cur2.toList.take (n * i.size) = (cur2.toList.take ((n + m) * i.size)).take (n * i.size) by rw [List.take_take, Nat.min_eq_left (Nat.mul_le_mul_right _ (by omega))], ht2, ← hx, List.take_left]
    · rw [run_append_grow (P := Try.prog) W st ty e i _ ht hi hz ⟨g, 0, none⟩ n cap xs hown.1 (hown.cells (g := g) rfl) ad m c news hl hnews (by omega) (by omega) (growslice_fits_wide (by omega) hbytes)] at hr
      injection hr with q1 q2
      rw [← q2]
      exact World.ownsRow.alloc (show W.drew.ownsRow B e i.size _ n xs from hown') _
/-- Marks in a list. -/
def mks (mk : Nat → α) (n : Nat) : List α := (List.range n).map mk
theorem mks_len (mk : Nat → α) (n : Nat) : (mks mk n).length = n := by simp [mks]
theorem mks_succ (mk : Nat → α) (n : Nat) : mks mk (n + 1) = mks mk n ++ [mk n] := by simp [mks, List.range_succ]
theorem mks_get (mk : Nat → α) (n i : Nat) (h : i < n) : (mks mk n)[i]? = some (mk i) := by simp [mks, h]
/-- l, its first i as marks. -/
def asM (mk : Nat → α) (l : List α) (i : Nat) : List α := mks mk i ++ l.drop i
theorem asM_len (mk : Nat → α) (l : List α) (i : Nat) (h : i ≤ l.length) : (asM mk l i).length = l.length := by
  unfold asM
  rw [List.length_append, mks_len, List.length_drop]
  omega
theorem asM_set (mk : Nat → α) (l : List α) (i : Nat) (h : i < l.length) : (asM mk l i).set i (mk i) = asM mk l (i + 1) := by
  unfold asM
  rw [mks_succ, List.set_append_right _ _ (by rw [mks_len]; omega), mks_len, Nat.sub_self, List.drop_eq_getElem_cons h, List.set_cons_zero, List.append_assoc]
  rfl
theorem asM_full (mk : Nat → α) (l : List α) : asM mk l l.length = mks mk l.length := by unfold asM; rw [List.drop_length, List.append_nil]
theorem asM_zero (mk : Nat → α) (l : List α) : asM mk l 0 = l := by unfold asM mks; simp
/-- Some are written full, one as far as i. -/
def fillU (mk : Nat → Nat → α) (fs : Nat → List α) (k i : Nat) : Nat → List α := fun j => if j < k then mks (mk j) (fs j).length else if j = k then asM (mk j) (fs j) i else fs j
theorem fillU_at (mk : Nat → Nat → α) (fs : Nat → List α) (k i : Nat) : fillU mk fs k i k = asM (mk k) (fs k) i := by unfold fillU; rw [if_neg (by omega), if_pos rfl]
theorem fillU_len (mk : Nat → Nat → α) (fs : Nat → List α) (k i : Nat) (h : i ≤ (fs k).length) (j : Nat) : (fillU mk fs k i j).length = (fs j).length := by
  unfold fillU
  split
  · rw [mks_len]
  · split
    · rename_i e
      subst e
      exact asM_len _ _ _ h
    · rfl
theorem fillU_zero (mk : Nat → Nat → α) (fs : Nat → List α) (j : Nat) : fillU mk fs 0 0 j = fs j := by
  unfold fillU
  rw [if_neg (by omega)]
  split
  · rw [asM_zero]
  · rfl
theorem fillU_next (mk : Nat → Nat → α) (fs : Nat → List α) (k j : Nat) : fillU mk fs k (fs k).length j = fillU mk fs (k + 1) 0 j := by
  unfold fillU
  by_cases h1 : j < k
  · rw [if_pos h1, if_pos (by omega)]
  · by_cases h2 : j = k
    · subst h2
      rw [if_neg h1, if_pos rfl, if_pos (by omega), asM_full]
    · rw [if_neg h1, if_neg h2, if_neg (by omega)]
      by_cases h3 : j = k + 1
      · rw [if_pos h3, asM_zero]
      · rw [if_neg h3]
theorem fillU_step (mk : Nat → Nat → α) (fs : Nat → List α) (k i j : Nat) (h : j ≠ k) : fillU mk fs k i j = fillU mk fs k (i + 1) j := by unfold fillU; simp [h]
/-- The lists' blocks. -/
def TV (K : Nat) (vs : Nat → Value) (i : Nat) : Prop := ∃ k, k < K ∧ (vs k).ownBlock = some i
/-- No two of the lists lie in one block, and none lies in their row's. -/
structure Apt (K gl : Nat) (vs : Nat → Value) : Prop where
  row : ∀ k, k < K → (vs k).ownBlock ≠ some gl
  two : ∀ j k, j < K → k < K → j ≠ k → ∀ b, (vs j).ownBlock = some b → (vs k).ownBlock ≠ some b
/-- The lists' row, the lists; nothing else has turned. -/
structure Lsts (en : α → List Value) (e sz : Nat) (K gl : Nat) (vs : Nat → Value) (w0 : World) (fs : Nat → List α) (w : World) : Prop where
  fr : Fr (TV K vs) w0 w
  head : ∀ k, k < K → w.cell? ⟨gl, k, none⟩ = some (vs k)
  own : ∀ k, k < K → w.ownsRow 0 e sz (vs k) (fs k).length ((fs k).flatMap en)
theorem Lsts.later {e K gl : Nat} {vs : Nat → Value} {w0 w w' : World} {fs : Nat → List α} (h : Lsts en e sz K gl vs w0 fs w) (hb : Below w.heap.size w w') : Lsts en e sz K gl vs w0 fs w' :=
  ⟨h.fr.trans (Fr.ofBelow (T := TV K vs) hb) (fun _ _ q => q), fun k hk => (hb.cell (p := ⟨gl, k, none⟩) (block_lt_of_cell (h.head k hk))).trans (h.head k hk), fun k hk => own_later (h.own k hk) hb⟩
theorem Lsts.next {e K gl : Nat} {mk : Nat → Nat → α} {vs : Nat → Value} {w0 w : World} {fs : Nat → List α} {k : Nat} (h : Lsts en e sz K gl vs w0 (fillU mk fs k (fs k).length) w) : Lsts en e sz K gl vs w0 (fillU mk fs (k + 1) 0) w :=
  ⟨h.fr, h.head, fun j hj => by rw [← fillU_next]; exact h.own j hj⟩
theorem Lsts.store (hr : ∀ x, (en x).length = sz) {e K gl : Nat} {mk : Nat → Nat → α} {vs : Nat → Value} {w0 w : World} {fs : Nat → List α} {k i g n c : Nat} (h : Lsts en e sz K gl vs w0 (fillU mk fs k i) w) (hap : Apt K gl vs) (hk : k < K)
    (hv : vs k = .slice (some ⟨g, 0, none⟩) n c) (hn : (fs k).length = n) (hi : i < n) :
    ∃ cur, w.heap[g]? = some (.cells cur e) ∧ i * sz + sz ≤ cur.size ∧ Lsts en e sz K gl vs w0 (fillU mk fs k (i + 1)) (w.setRow g (putE cur (i * sz) (en (mk k i)))) := by
  have ho := h.own k hk
  rw [fillU_len _ _ _ _ (by omega), hv, hn, fillU_at] at ho
  obtain ⟨cur, hg, hfit, hnew⟩ := own_set hr (x := mk k i) ho (by rw [asM_len _ _ _ (by omega)]; exact hn) hi
  rw [asM_set _ _ _ (by omega)] at hnew
  have hgl : gl ≠ g := fun q => hap.row k hk (by rw [hv, q]; rfl)
  refine ⟨cur, hg, hfit, ⟨h.fr.trans (Fr.setRow w g _) (fun j _ q => ⟨k, hk, by rw [hv, q]; rfl⟩), fun j hj => ?_, fun j hj => ?_⟩⟩
  · exact (World.cell?_of_block (a := ⟨gl, j, none⟩) (setRow_other w g gl _ hgl)).trans (h.head j hj)
  · by_cases q : j = k
    · subst q
      rw [fillU_len _ _ _ _ (by omega), hv, hn, fillU_at]
      exact hnew
    · have hj2 := own_other (h.own j hj) (g := g) (fun q2 => hap.two j k hj hk q g q2 (by rw [hv]; rfl)) (putE cur (i * sz) (en (mk k i)))
      rw [← fillU_step _ _ _ _ _ q]
      exact hj2
/-- What the lists hold still: marks. -/
def KeepC (en : α → List Value) (sz : Nat) (mk : Nat → α) (v : Value) (n : Nat) (w : World) : Prop := 0 < n → ∃ g c, v = .slice (some ⟨g, 0, none⟩) n c ∧ g < w.heap.size ∧ ∀ i, i < n → ∀ j u, (en (mk i))[j]? = some u → w.cell? ⟨g, i * sz + j, none⟩ = some u
theorem KeepC.of (hr : ∀ x, (en x).length = sz) {B e n : Nat} {mk : Nat → α} {v : Value} {w : World} (h : w.ownsRow B e sz v n ((mks mk n).flatMap en)) : KeepC en sz mk v n w := fun h0 => by
  rcases own_form h with ⟨_, q⟩ | ⟨g, c, rfl, hlt⟩
  · omega
  · exact ⟨g, c, rfl, hlt, fun i hi => own_get hr h (mks_get mk n i hi)⟩
theorem KeepC.frame {n : Nat} {mk : Nat → α} {v : Value} {w w' : World} {T : Nat → Prop} (h : KeepC en sz mk v n w) (hf : Fr T w w') (hT : ∀ i, v.ownBlock = some i → ¬ T i) : KeepC en sz mk v n w' := fun h0 => by
  obtain ⟨g, c, rfl, hlt, hc⟩ := h h0
  exact ⟨g, c, rfl, Nat.lt_of_lt_of_le hlt hf.size, fun i hi j u hu => (World.cell?_of_block (a := ⟨g, i * sz + j, none⟩) (hf.block g hlt (hT g rfl))).trans (hc i hi j u hu)⟩
/-- A longer list in the same block holds what the shorter one holds. -/
theorem KeepC.under (hr : ∀ x, (en x).length = sz) {B e n m : Nat} {mk : Nat → α} {v u : Value} {w : World} (h0 : KeepC en sz mk v n w ∨ ∃ g c, v = .slice (some ⟨g, 0, none⟩) n c) (hu : w.ownsRow B e sz u m ((mks mk m).flatMap en)) (hb : u.ownBlock = v.ownBlock) (hnm : n ≤ m) : KeepC en sz mk v n w := fun hn => by
  rcases own_form hu with ⟨_, q⟩ | ⟨g, c, rfl, hlt⟩
  · omega
  · have hv : ∃ g' c', v = .slice (some ⟨g', 0, none⟩) n c' := by
      rcases h0 with q | q
      · obtain ⟨g', c', q, _⟩ := q hn
        exact ⟨g', c', q⟩
      · exact q
    obtain ⟨g', c', rfl⟩ := hv
    have e1 : g = g' := by simpa [Value.ownBlock] using hb
    subst e1
    exact ⟨g, c', rfl, hlt, fun i hi => own_get hr hu (mks_get mk m i (by omega))⟩
/-- gv, but at k. -/
def updV (gv : Nat → Value) (k : Nat) (x : Value) : Nat → Value := fun j => if j = k then x else gv j
theorem range_updV (gv : Nat → Value) (k : Nat) (x : Value) : (List.range k).map gv ++ [x] = (List.range (k + 1)).map (updV gv k x) := by
  rw [List.range_succ, List.map_append]
  congr 1
  · apply List.map_congr_left
    intro j hj
    have := List.mem_range.1 hj
    unfold updV
    rw [if_neg (by omega)]
  · simp [updV]
end
end Go.Proofs.Ytbnbbelkddbndaa
/- Lists that are gone on with, one behind the other: what holds of all of them. -/
namespace Go.Proofs.Ytbnbbelkddbndaa
open Go.RowKit Go.Maps
section
variable {α : Type} {en : α → List Value} {e sl sz K gl : Nat} {mk : Nat → Nat → α} {vs : Nat → Value} {ns : Nat → Nat}
/-- The first k lists have been gone on with (gv), their row is v. -/
structure Grn (en : α → List Value) (e sl sz K gl : Nat) (mk : Nat → Nat → α) (vs : Nat → Value) (ns : Nat → Nat) (W2 : World) (k : Nat) (gv : Nat → Value) (v : Value) (w : World) : Prop where
  row : w.ownsRow W2.heap.size sl 1 v k ((List.range k).map gv)
  each : ∀ j, j < k → w.ownsRow 0 e sz (gv j) (ns j + 6) ((mks (mk j) (ns j + 6)).flatMap en) ∧ ((gv j).ownBlock = (vs j).ownBlock ∨ ∀ b, (gv j).ownBlock = some b → W2.heap.size ≤ b)
  keep : ∀ j, j < K → KeepC en sz (mk j) (vs j) (ns j) w
  own : ∀ j, k ≤ j → j < K → w.ownsRow 0 e sz (vs j) (ns j) ((mks (mk j) (ns j)).flatMap en)
  head : ∀ j, j < K → w.cell? ⟨gl, j, none⟩ = some (vs j)
  fr : Fr (TV K vs) W2 w
  glt : gl < W2.heap.size
  vlt : ∀ j, j < K → ∀ b, (vs j).ownBlock = some b → b < W2.heap.size
/-- List k is being gone on with: i marks more. -/
structure Inn (en : α → List Value) (e sz : Nat) (mk : Nat → α) (vk : Value) (nk : Nat) (W3 : World) (i : Nat) (u : Value) (w : World) : Prop where
  own : w.ownsRow 0 e sz u (nk + i) ((mks mk (nk + i)).flatMap en)
  blk : u.ownBlock = vk.ownBlock ∨ ∀ b, u.ownBlock = some b → W3.heap.size ≤ b
  keep : KeepC en sz mk vk nk w
  fr : Fr (fun b => vk.ownBlock = some b) W3 w
  vlt : ∀ b, vk.ownBlock = some b → b < W3.heap.size
theorem Inn.later {mk : Nat → α} {vk u : Value} {nk i : Nat} {W3 w w' : World} (h : Inn en e sz mk vk nk W3 i u w) (hb : Below w.heap.size w w') : Inn en e sz mk vk nk W3 i u w' :=
  ⟨own_later h.own hb, h.blk, h.keep.frame (Fr.ofBelow (T := fun _ => False) hb) (fun _ _ q => q), h.fr.trans (Fr.ofBelow (T := fun _ => False) hb) (fun _ _ q => q.elim), h.vlt⟩
theorem Inn.push (hr : ∀ x, (en x).length = sz) (h1 : ∀ x, ∀ u ∈ en x, u.oneCell' = true) {st : TypeId} {ti : TypeInfo} {z : Value} {bytes : Nat} (ht : Try.prog.underlying st = some (.slice e)) (hi : Try.prog.info? e = some ti) (hz : ti.zero = some z) (hsize : ti.size = sz) (hby : ti.bytes = bytes) (hzs : z.cells.size = sz) (hsz : 0 < sz)
    {mk : Nat → α} {vk u : Value} {nk i : Nat} {W3 w : World} (h : Inn en e sz mk vk nk W3 i u w) (hn : nk + i + 1 ≤ 100000000) (hbb : bytes ≤ 2000) (ty : TypeId) :
    ∃ u' w', (Builtin.append_ #[st, st] ty #[u, .slice (some ⟨w.heap.size, 0, none⟩) 1 1]).run Try.prog (w.alloc (.cells (en (mk (nk + i))).toArray e)) = .ok u' w' ∧ Inn en e sz mk vk nk W3 (i + 1) u' w' := by
  have hnews : ∀ j v, (en (mk (nk + i)))[j]? = some v → (w.alloc (.cells (en (mk (nk + i))).toArray e)).cell? ((⟨w.heap.size, 0, none⟩ : Addr).add j) = some v := fun j v hv => by
    rw [Go.WideShapes.add_plain, Nat.zero_add, cell_of_row _ _ j _ e _ (heap_alloc_new w _), List.getElem?_toArray]
    exact hv
  have hbt : ((nk + i + 1) + (nk + i + 1) / 4 + 192) * bytes ≤ 281474976710656 := by
    have : ((nk + i + 1) + (nk + i + 1) / 4 + 192) * bytes ≤ 125000192 * 2000 := Nat.mul_le_mul (by omega) hbb
    omega
  obtain ⟨u', w', hrun, ho', hou, hf, hnew⟩ := append_keep ht hi hz hsize hby hzs hsz (World.ownsRow.alloc h.own (.cells (en (mk (nk + i))).toArray e)) (ad := ⟨w.heap.size, 0, none⟩) (m := 1) (c := 1) (news := en (mk (nk + i))) (by omega) (by rw [hr, Nat.one_mul]) hnews (h1 _) (by unfold maxLen; omega) hbt (Nat.zero_le _) ty
  have hF : Fr (fun b => u.ownBlock = some b) w w' := (Fr.alloc _ w (.cells (en (mk (nk + i))).toArray e)).trans hf fun _ _ q => q
  have hsz3 : W3.heap.size ≤ w.heap.size := h.fr.size
  refine ⟨u', w', hrun, ⟨?_, ?_, ?_, h.fr.trans hF fun j hj q => ?_, h.vlt⟩⟩
  · rw [show nk + (i + 1) = nk + i + 1 by omega, mks_succ, List.flatMap_append]
    simpa using ho'
  · cases hb : u'.ownBlock with
    | none => exact .inr fun b q => by cases q
    | some b =>
      rcases hnew b hb with q | q
      · rcases h.blk with r | r
        · left
          rw [← r, q]
        · right
          intro b' hb'
          injection hb' with hb'
          rw [← hb']
          exact r b q
      · right
        intro b' hb'
        injection hb' with hb'
        rw [← hb']
        simp only [World.alloc, Array.size_push] at q
        omega
  · rcases h.blk with r | r
    · exact KeepC.under hr (.inl (show KeepC en sz mk vk nk w' from fun h0 => by
        obtain ⟨g, c, hv, hlt, _⟩ := h.keep h0
        exact (KeepC.under (n := nk) (v := vk) hr (.inr ⟨g, c, hv⟩) hou r (by omega)) h0)) hou r (by omega)
    · exact h.keep.frame hF fun b hb q => by
        have := h.vlt b hb
        have := r b q
        omega
  · rcases h.blk with r | r
    · rw [← r]; exact q
    · have := r j q
      omega
theorem Inn.start {vk : Value} {nk : Nat} {mk : Nat → α} {W3 : World} (hr : ∀ x, (en x).length = sz) (h : W3.ownsRow 0 e sz vk nk ((mks mk nk).flatMap en)) : Inn en e sz mk vk nk W3 0 vk W3 :=
  ⟨h, .inl rfl, KeepC.of hr h, Fr.refl _ _, fun b hb => (h.lt b hb).2⟩
/-- The row of the longer lists grows by one. -/
theorem Grn.next {ss : TypeId} {ti : TypeInfo} (ht : Try.prog.underlying ss = some (.slice sl)) (hi : Try.prog.info? sl = some ti) (hz : ti.zero = some (.slice none 0 0)) (hsize : ti.size = 1) (hby : ti.bytes = 24) (hne : sl ≠ e)
    {W2 W3 w : World} {k : Nat} {gv : Nat → Value} {v u : Value} (hap : Apt K gl vs) (h : Grn en e sl sz K gl mk vs ns W2 k gv v W3) (hk : k < K) (hK : K ≤ 90) (hu : Inn en e sz (mk k) (vs k) (ns k) W3 6 u w) (hu1 : u.oneCell' = true) (ty : TypeId) :
    ∃ v' w', (Builtin.append_ #[ss, ss] ty #[v, .slice (some ⟨w.heap.size, 0, none⟩) 1 1]).run Try.prog (w.alloc (.cells #[u] sl)) = .ok v' w' ∧ Grn en e sl sz K gl mk vs ns W2 (k + 1) (updV gv k u) v' w' := by
  have hs23 : W2.heap.size ≤ W3.heap.size := h.fr.size
  have hs3 : W3.heap.size ≤ w.heap.size := hu.fr.size
  have hrow3 : w.ownsRow W2.heap.size sl 1 v k ((List.range k).map gv) := own_frame h.row hu.fr fun b hb q => by
    have h1 := (h.row.lt b hb).1
    have h2 := h.vlt k hk b q
    omega
  have hnews : ∀ j x, [u][j]? = some x → (w.alloc (.cells #[u] sl)).cell? ((⟨w.heap.size, 0, none⟩ : Addr).add j) = some x := fun j x hx => by
    rw [Go.WideShapes.add_plain, Nat.zero_add, cell_of_row _ _ j _ sl _ (heap_alloc_new w _)]
    simpa using hx
  obtain ⟨v', w', hrun, ho', hf, hnew⟩ := append_gen (W := w.alloc (.cells #[u] sl)) (v := v) ht hi hz hsize hby rfl (by omega) (World.ownsRow.alloc hrow3 (.cells #[u] sl)) (ad := ⟨w.heap.size, 0, none⟩) (m := 1) (c := 1) (news := [u]) (by omega) rfl hnews (fun x hx => by simp at hx; subst hx; exact hu1) (by unfold maxLen; omega) (by omega) (by simp only [World.alloc, Array.size_push]; omega) ty
  have hF : Fr (fun b => v.ownBlock = some b) w w' := (Fr.alloc _ w (.cells #[u] sl)).trans hf fun _ _ q => q
  have hvB : ∀ b, v.ownBlock = some b → W2.heap.size ≤ b := fun b hb => (h.row.lt b hb).1
  have hF2 : Fr (fun b => v.ownBlock = some b ∨ (vs k).ownBlock = some b) W3 w' := (hu.fr.mono (T' := fun b => v.ownBlock = some b ∨ (vs k).ownBlock = some b) fun _ _ q => .inr q).trans hF fun _ _ q => .inl q
  have typ : ∀ {W : World} {x : Value} {n : Nat} {xs : List Value} {b : Nat}, W.ownsRow 0 e sz x n xs → x.ownBlock = some b → W.ownsRow W2.heap.size sl 1 v k ((List.range k).map gv) → v.ownBlock ≠ some b := fun {W x n xs b} hx hb hv q => by
    obtain ⟨_, hx⟩ := hx
    obtain ⟨_, hv⟩ := hv
    rcases hx with ⟨rfl, _⟩ | ⟨g1, c1, r1, rfl, _, hg1, _⟩
    · cases hb
    · rcases hv with ⟨rfl, _⟩ | ⟨g2, c2, r2, rfl, _, hg2, _⟩
      · cases q
      · injection hb with hb
        injection q with q
        have e1 : g1 = g2 := by rw [show g1 = b from hb, show g2 = b from q]
        subst e1
        rw [hg1] at hg2
        injection hg2 with hg2
        injection hg2 with _ hg2
        exact hne hg2.symm
  refine ⟨v', w', hrun, ⟨?_, fun j hj => ?_, fun j hj => ?_, fun j hj1 hj2 => ?_, fun j hj => ?_, ?_, h.glt, h.vlt⟩⟩
  · rw [← range_updV]
    exact ho'
  · by_cases q : j = k
    · subst q
      have eu : updV gv j u j = u := by unfold updV; rw [if_pos rfl]
      rw [eu]
      refine ⟨own_frame hu.own hF fun b hb => typ hu.own hb hrow3, ?_⟩
      rcases hu.blk with r | r
      · exact .inl r
      · exact .inr fun b hb => Nat.le_trans hs23 (r b hb)
    · have eu : updV gv k u j = gv j := by unfold updV; rw [if_neg q]
      rw [eu]
      obtain ⟨h1, h2⟩ := h.each j (by omega)
      refine ⟨own_frame h1 hF2 fun b hb r => ?_, h2⟩
      rcases r with r | r
      · exact typ h1 hb h.row r
      · rcases h2 with h2 | h2
        · rw [h2] at hb
          exact hap.two j k (by omega) hk q b hb r
        · have := h2 b hb
          have := h.vlt k hk b r
          omega
  · by_cases q : j = k
    · subst q
      exact hu.keep.frame hF fun b hb r => by
        have := h.vlt j hj b hb
        have := hvB b r
        omega
    · exact (h.keep j hj).frame hF2 fun b hb r => by
        rcases r with r | r
        · have := h.vlt j hj b hb
          have := hvB b r
          omega
        · exact hap.two j k hj hk q b hb r
  · refine own_frame (h.own j (by omega) hj2) hF2 fun b hb r => ?_
    rcases r with r | r
    · have := h.vlt j hj2 b hb
      have := hvB b r
      omega
    · exact hap.two j k hj2 hk (by omega) b hb r
  · have hc := h.head j hj
    refine (World.cell?_of_block (a := ⟨gl, j, none⟩) (hF2.block gl (Nat.lt_of_lt_of_le h.glt hs23) fun r => ?_)).trans hc
    rcases r with r | r
    · have := hvB gl r
      have := h.glt
      omega
    · exact hap.row k hk r
  · refine h.fr.trans hF2 fun b hb r => ?_
    rcases r with r | r
    · have := hvB b r
      omega
    · exact ⟨k, hk, r⟩
theorem Grn.start (hr : ∀ x, (en x).length = sz) {w0 W2 : World} (h : Lsts en e sz K gl vs w0 (fun j => mks (mk j) (ns j)) W2) (hK : 0 < K) : Grn en e sl sz K gl mk vs ns W2 0 (fun _ => undef) (.slice none 0 0) W2 :=
  ⟨World.ownsRow_nil _ _ _ _, fun j hj => absurd hj (by omega), fun j hj => KeepC.of hr (by have := h.own j hj; rwa [mks_len] at this), fun j _ hj => by have := h.own j hj; rwa [mks_len] at this, h.head, Fr.refl _ _, block_lt_of_cell (h.head 0 hK), fun j hj b hb => ((h.own j hj).lt b hb).2⟩
end
end Go.Proofs.Ytbnbbelkddbndaa
