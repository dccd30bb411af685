/- What is cut at a barrier is the whole; an image that After tells may be; no condition. -/
import Derived.Test.YtbnbbelkddbndaaFive
namespace Go.Proofs.Ytbnbbelkddbndaa
open Go.RowKit Go.Maps
theorem rises_of {n : Int} : ∀ {l : List Cel} {m : Int}, Rise m l → Sound l → (∀ c ∈ l, c.1 < n) → risesB n m l = true
  | [], _, _, _, _ => rfl
  | c :: t, m, hr, hs, ht => by
    have h1 : m < c.1 := hr.1
    have h2 := ht c (by simp)
    have h3 := hs c (by simp)
    have h4 : blankB c.2 = false := blank_no h3.1 h3.2
    unfold risesB
    rw [rises_of hr.2 (fun d hd => hs d (List.mem_cons_of_mem _ hd)) (fun d hd => ht d (List.mem_cons_of_mem _ hd)), h4]
    simp
    omega
theorem may_img {n : Int} {c : Con} {l : List Cel} (hn : bndB n = true) (h : IsImg n c l) : mayB n l = true := by
  unfold mayB
  have e : risesB n (-1) l = true := rises_of h.rise h.sound h.top
  rw [hn, e]
  rfl
theorem rise_len {n : Int} : ∀ {l : List Cel} {m : Int}, Rise m l → (∀ c ∈ l, c.1 < n) → m < n → (l.length : Int) ≤ n - m - 1
  | [], _, _, _, h => by simp; omega
  | c :: t, m, hr, ht, h => by
    have h1 : m < c.1 := hr.1
    have h2 := ht c (by simp)
    have ih := rise_len hr.2 (fun d hd => ht d (List.mem_cons_of_mem _ hd)) h2
    simp only [List.length_cons]
    omega
theorem img_len {n : Int} {c : Con} {l : List Cel} (hn : bndB n = true) (h : IsImg n c l) : l.length ≤ 1048576 := by
  have h1 : 1 ≤ n ∧ n ≤ 1048576 := by simpa [bndB] using hn
  have := rise_len h.rise h.top (by show (-1 : Int) < n; omega)
  show l.length ≤ 1048576
  have e : ((conS n c).n) = n := rfl
  rw [e] at this
  omega
theorem img_can {n : Int} {c : Con} {l : List Cel} (h : IsImg n c l) : ∀ d ∈ l, Can d.2 := fun d hd => (h.sound d hd).1
/-- In a rising list the last that has a number is the first. -/
theorem lastB_rise (k : Int) : ∀ {l : List Cel} {m : Int} {b : Nat → Int}, Rise m l → lastB k b l = if k ∈ l.map (·.1) then atL l k else b
  | [], _, _, _ => rfl
  | (i, x) :: t, m, b, hr => by
    show lastB k (if i = k then x else b) t = _
    rw [lastB_rise k hr.2]
    by_cases e : i = k
    · subst e
      have hn : i ∉ t.map (·.1) := fun hm => by
        have gen : ∀ {t : List Cel} {m : Int}, Rise m t → ∀ y ∈ t.map (·.1), m < y := by
          intro t
          induction t with
          | nil => intro m _ y hy; simp at hy
          | cons c t ih =>
            intro m hr y hy
            rcases List.mem_cons.1 hy with rfl | hy
            · exact hr.1
            · have := ih hr.2 y hy
              have := hr.1
              omega
        have := gen hr.2 i hm
        omega
      simp [hn, atL]
    · by_cases hm : k ∈ t.map (·.1)
      · simp [hm, atL, e]
      · have hm2 : k ∉ ((i, x) :: t).map (·.1) := by
          simp only [List.map_cons, List.mem_cons]
          rintro (q | q)
          · exact e q.symm
          · exact hm q
        rw [if_neg hm, if_neg hm2, if_neg e]
theorem atL_none {k : Int} : ∀ {l : List Cel}, k ∉ l.map (·.1) → atL l k = nought
  | [], _ => rfl
  | (i, x) :: t, h => by
    unfold atL
    rw [if_neg fun e => h (by simp [e]), atL_none fun q => h (by simp only [List.map_cons, List.mem_cons]; exact .inr q)]
theorem lastB_at (k : Int) {l : List Cel} {m : Int} (hr : Rise m l) : lastB k nought l = atL l k := by
  rw [lastB_rise k hr]
  split
  · rfl
  · rename_i h
    exact (atL_none h).symm
/-- What stands at a number in what After tells. -/
theorem after_at {n : Int} {l l' : List Cel} {fs : List Rec} {keep : List Bool} (hl : ∀ c ∈ l, Can c.2) (hf : ∀ r ∈ fs, Can r.dat) (h : IsImg n (afterC l fs keep) l') (k : Int) : atL l' k = lastB k nought (l ++ madeL keep fs) := by
  rw [h.at_ k]
  show ((holdCs noC (l ++ madeL keep fs)) k).getD nought = _
  rw [lastB_hold k _ _ fun x hx => (List.mem_append.1 hx).elim (hl x) (madeL_can hf x)]
  rfl
theorem sureN_append : ∀ (a m : List Rec), sureN (a ++ m) = if sureN m = 0 then sureN a else a.length + sureN m
  | [], m => by simp [sureN]
  | r :: t, m => by
    have ih := sureN_append t m
    show (if sureN (t ++ m) = 0 then (if r.kind = 2 then 1 else 0) else sureN (t ++ m) + 1) = _
    rw [ih]
    by_cases h : sureN m = 0
    · simp only [h, if_true]
      rfl
    · simp only [h, if_false, List.length_cons]
      rw [if_neg (by omega)]
      omega
theorem sureN_bar (a : List Rec) : sureN (a ++ [⟨2, 0, nought⟩]) = a.length + 1 := by
  rw [sureN_append]
  rfl
theorem madeGo_all {keep keep' : List Bool} {N N' : Nat} : ∀ (l : List Rec) (i : Nat), i + l.length ≤ N → i + l.length ≤ N' → madeGo keep N i l = madeGo keep' N' i l
  | [], _, _, _ => rfl
  | r :: t, i, h, h' => by
    simp only [List.length_cons] at h h'
    have e : isMade keep N i r = isMade keep' N' i r := by
      unfold isMade
      rw [decide_eq_true (show i < N by omega), decide_eq_true (show i < N' by omega)]
      rfl
    unfold madeGo
    rw [e, madeGo_all (keep := keep) (keep' := keep') (N := N) (N' := N') t (i + 1) (by omega) (by omega)]
theorem madeGo_shift {keep : List Bool} (d N : Nat) : ∀ (l : List Rec) (i : Nat), madeGo keep (d + N) (d + i) l = madeGo keep N i l
  | [], _ => rfl
  | r :: t, i => by
    have e : isMade keep (d + N) (d + i) r = isMade keep N i r := by
      unfold isMade
      rw [show d + i - (d + N) = i - N by omega]
      congr 2
      simp
    unfold madeGo
    rw [e, Nat.add_assoc, madeGo_shift d N t (i + 1)]
/-- Cut at a barrier. -/
theorem made_cut (keep : List Bool) (a m : List Rec) : madeL keep (a ++ [⟨2, 0, nought⟩] ++ m) = madeL [] (a ++ [⟨2, 0, nought⟩]) ++ madeL keep m := by
  unfold madeL
  have hs : sureN (a ++ [⟨2, 0, nought⟩] ++ m) = (a ++ [(⟨2, 0, nought⟩ : Rec)]).length + sureN m := by
    rw [sureN_append, sureN_bar]
    split
    · rename_i h
      rw [h]
      simp
    · rfl
  rw [hs, madeGo_append, sureN_bar]
  congr 1
  · exact madeGo_all _ _ (by omega) (by simp)
  · rw [Nat.zero_add]
    have := madeGo_shift (keep := keep) (a ++ [(⟨2, 0, nought⟩ : Rec)]).length (sureN m) m 0
    rwa [Nat.add_zero] at this
theorem cut_same {n : Int} {l la lb lw : List Cel} {a m : List Rec} {keep : List Bool} (hl : ∀ c ∈ l, Can c.2) (ha : ∀ r ∈ a, Can r.dat) (hm : ∀ r ∈ m, Can r.dat)
    (h1 : IsImg n (afterC l (a ++ [⟨2, 0, nought⟩]) []) la) (h2 : IsImg n (afterC la m keep) lb) (h3 : IsImg n (afterC l (a ++ [⟨2, 0, nought⟩] ++ m) keep) lw) : lb = lw := by
  have hab : ∀ r ∈ a ++ [(⟨2, 0, nought⟩ : Rec)], Can r.dat := fun r hr => (List.mem_append.1 hr).elim (ha r) fun q => by
    have e : r = ⟨2, 0, nought⟩ := by simpa using q
    rw [e]
    exact can_nought
  have habm : ∀ r ∈ a ++ [(⟨2, 0, nought⟩ : Rec)] ++ m, Can r.dat := fun r hr => (List.mem_append.1 hr).elim (hab r) (hm r)
  refine rise_ext h2.rise h3.rise h2.sound h3.sound fun k => ?_
  rw [after_at (img_can h1) hm h2 k, after_at hl habm h3 k, lastB_append, lastB_at k h1.rise, after_at hl hab h1 k, made_cut, ← List.append_assoc, lastB_append k _ (l ++ _)]
theorem all_cut {n : Int} {l : List Cel} {a m : List Rec} : pmayB n l (a ++ m) ((a ++ m).length : Nat) = (pmayB n l a (a.length : Nat) && m.all (opOk n)) := by
  unfold pmayB
  rw [List.all_append]
  have e1 : decide ((((a ++ m).length : Nat) : Int) < 0) = false := decide_eq_false (by omega)
  have e2 : decide (((a.length : Nat) : Int) < 0) = false := decide_eq_false (by omega)
  have e3 : decide ((((a ++ m).length : Nat) : Int) > (((a ++ m).length : Nat) : Int)) = false := decide_eq_false (by omega)
  have e4 : decide (((a.length : Nat) : Int) > ((a.length : Nat) : Int)) = false := decide_eq_false (by omega)
  rw [e1, e2, e3, e4]
  cases mayB n l <;> cases a.all (opOk n) <;> simp
end Go.Proofs.Ytbnbbelkddbndaa
