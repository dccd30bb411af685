import Derived.Test.YtahaiciciljijaaLQuiet
/- Platters and what is pending: a list of writes and barriers until the disk stops, and what may be left then; no condition. -/
namespace Go.Proofs.Ytahaiciciljijaa
open Go.RowKit Go.Maps
/-- A disk that lives: its platter and what is pending. -/
structure PW (t : St) (n f : Int) (P : Int → Nat → Int) (wait : List Cel) : Prop where
  live : LiveT t n f (curV t) wait
  plat : ∀ k, (t.held k).getD nought = P k
/-- A platter behind writes. -/
def afterW (P : Int → Nat → Int) (l : List Cel) : Int → Nat → Int := fun k => lastV (P k) l k
section
variable {t : St} {n f : Int} {P : Int → Nat → Int} {wait : List Cel}
theorem PW.cur (h : PW t n f P wait) : curV t = afterW P wait := by
  funext k
  rw [curV_last, h.plat, h.live.wait]
  rfl
theorem PW.write (h : PW t n f P wait) (hf : f ≠ 0) {k : Int} (hk : 0 ≤ k ∧ k < n) {F : Nat → Int} (hF : Can F) : dopE t (some (k, F)) = 0 ∧ PW (dopV t (some (k, F))) n (nextF f) P (wait ++ [(k, F)]) := by
  obtain ⟨h1, h2⟩ := h.live.write hf hk hF
  have hl : lets t = true := by unfold lets; rw [h.live.fuse]; simpa using hf
  have hr : refV t k = 0 := by unfold refV; rw [h.live.stop, if_neg (by simp), if_pos ⟨hk.1, by rw [h.live.n]; exact hk.2⟩]
  have hv : writeV t k F = writeS t k F := by unfold writeV; rw [if_pos hr, hl]; rfl
  refine ⟨h1, ⟨h2.ok, h2.stop, h2.n, h2.fuse, rfl, h2.wait⟩, fun j => ?_⟩
  show ((writeV t k F).held j).getD nought = P j
  rw [hv]
  show ((letV t).held j).getD nought = P j
  rw [letV_held]
  exact h.plat j
theorem PW.bar (h : PW t n f P wait) (hf : f ≠ 0) : dopE t none = 0 ∧ PW (dopV t none) n (nextF f) (afterW P wait) [] := by
  obtain ⟨h1, h2⟩ := h.live.bar hf
  have hl : lets t = true := by unfold lets; rw [h.live.fuse]; simpa using hf
  have hv : barV t = barS t := by unfold barV; rw [h.live.stop, hl]; rfl
  refine ⟨h1, ⟨h2.ok, h2.stop, h2.n, h2.fuse, rfl, h2.wait⟩, fun j => ?_⟩
  show ((barV t).held j).getD nought = _
  rw [hv]
  show ((holdAll (letV t) t.wait).held j).getD nought = _
  rw [holdAll_get _ _ fun c hc => (h.live.ok.wait c hc).2, letV_held, h.plat, h.live.wait]
  rfl
theorem PW.out (h : PW t n 0 P wait) (o : Option Cel) (hk : ∀ c, o = some c → 0 ≤ c.1 ∧ c.1 < n) : dopE t o = 3 ∧ dopV t o = { t with stopped := true } := h.live.out o hk
theorem PW.readS (h : PW t n f P wait) : PW (readS t) n f P wait := ⟨h.live.readS, h.plat⟩
/-- Whatever is kept of what is pending. -/
def SubAll (Φ : (Int → Nat → Int) → Prop) (P : Int → Nat → Int) (w : List Cel) : Prop := ∀ l, List.Sublist l w → Φ (afterW P l)
variable {Φ : (Int → Nat → Int) → Prop}
theorem SubAll.pre {a b : List Cel} (h : SubAll Φ P (a ++ b)) : SubAll Φ P a := fun l hl => h l (hl.trans (List.sublist_append_left a b))
def ChkP (Φ : (Int → Nat → Int) → Prop) : List (Option Cel) → (Int → Nat → Int) → List Cel → Prop
  | [], P, w => SubAll Φ P w
  | some c :: r, P, w => SubAll Φ P w ∧ ChkP Φ r P (w ++ [c])
  | none :: r, P, w => SubAll Φ P w ∧ ChkP Φ r (afterW P w) []
def endP : List (Option Cel) → (Int → Nat → Int) → List Cel → (Int → Nat → Int) × List Cel
  | [], P, w => (P, w)
  | some c :: r, P, w => endP r P (w ++ [c])
  | none :: r, P, w => endP r (afterW P w) []
theorem chk_sub : ∀ (ops : List (Option Cel)) (P : Int → Nat → Int) (w : List Cel), ChkP Φ ops P w → SubAll Φ P w
  | [], _, _, h => h
  | some _ :: _, _, _, h => h.1
  | none :: _, _, _, h => h.1
theorem chk_writes (r : List (Option Cel)) : ∀ (cs w : List Cel), SubAll Φ P (w ++ cs) → ChkP Φ r P (w ++ cs) → ChkP Φ (cs.map some ++ r) P w
  | [], w, _, h2 => by simpa using h2
  | c :: cs, w, h1, h2 => by
    refine ⟨h1.pre, chk_writes r cs (w ++ [c]) (by rw [List.append_assoc]; exact h1) (by rw [List.append_assoc]; exact h2)⟩
theorem end_writes (r : List (Option Cel)) : ∀ (cs w : List Cel), endP (cs.map some ++ r) P w = endP r P (w ++ cs)
  | [], w => by simp
  | c :: cs, w => by
    show endP (cs.map some ++ r) P (w ++ [c]) = _
    rw [end_writes r cs (w ++ [c]), List.append_assoc]
    rfl
theorem nextF_neg {f : Int} (h : f = -1) : nextF f = -1 := by unfold nextF; rw [if_pos h]
theorem next_or {A B R : Prop} {f : Int} {Q : Int → Prop} (h : (A ∧ ∃ f', Q f' ∧ (nextF f = -1 → f' = -1)) ∨ (B ∧ nextF f ≠ -1 ∧ R)) : (A ∧ ∃ f', Q f' ∧ (f = -1 → f' = -1)) ∨ (B ∧ f ≠ -1 ∧ R) := by
  rcases h with ⟨h1, f', h2, h3⟩ | ⟨h1, h2, h3⟩
  · exact .inl ⟨h1, f', h2, fun q => h3 (nextF_neg q)⟩
  · exact .inr ⟨h1, fun q => h2 (nextF_neg q), h3⟩
/-- What a list of writes and barriers comes to: all of it, or the disk has stopped, and whatever is kept then is as it must be. -/
theorem run_chk : ∀ (ops : List (Option Cel)) (t : St) (f : Int) (P : Int → Nat → Int) (w : List Cel), PW t n f P w → (∀ c, some c ∈ ops → (0 ≤ c.1 ∧ c.1 < n) ∧ Can c.2) → ChkP Φ ops P w →
    (runE ops t = 0 ∧ ∃ f', PW (runV ops t) n f' (endP ops P w).1 (endP ops P w).2 ∧ (f = -1 → f' = -1)) ∨ (runE ops t = 3 ∧ f ≠ -1 ∧ ∃ t0 P' w', runV ops t = { t0 with stopped := true } ∧ PW t0 n 0 P' w' ∧ SubAll Φ P' w')
  | [], t, f, P, w, h, _, _ => .inl ⟨rfl, f, h, fun q => q⟩
  | o :: r, t, f, P, w, h, hc, hK => by
    have hs := chk_sub _ _ _ hK
    by_cases hf : f = 0
    · subst hf
      obtain ⟨e1, e2⟩ := run_out (r := r) (h.out o fun c e => (hc c (by rw [e]; exact List.mem_cons_self ..)).1) (by decide)
      exact .inr ⟨e1, by decide, t, P, w, e2, h, hs⟩
    · cases o with
      | some c =>
        obtain ⟨e1, h1⟩ := h.write hf (hc c (List.mem_cons_self ..)).1 (hc c (List.mem_cons_self ..)).2
        obtain ⟨r1, r2⟩ := run_cons (r := r) e1
        rw [r1, r2]
        exact next_or (run_chk r _ _ P (w ++ [c]) h1 (fun c' hc' => hc c' (List.mem_cons_of_mem _ hc')) hK.2)
      | none =>
        obtain ⟨e1, h1⟩ := h.bar hf
        obtain ⟨r1, r2⟩ := run_cons (r := r) e1
        rw [r1, r2]
        exact next_or (run_chk r _ _ (afterW P w) [] h1 (fun c' hc' => hc c' (List.mem_cons_of_mem _ hc')) hK.2)
theorem kept_sub : ∀ (l : List Cel) (k : List Bool), List.Sublist (keptL l k) l
  | [], _ => by
    unfold keptL
    exact List.nil_sublist _
  | c :: t, true :: k => List.Sublist.cons_cons c (kept_sub t k)
  | c :: t, false :: k => List.Sublist.cons c (kept_sub t k)
  | c :: t, [] => List.nil_sublist _
/-- The power goes: what is left. -/
theorem crash_pw (h : PW t n f P wait) (b : Bool) (kl : List Bool) : PW (crashS { t with stopped := b } kl) n (-1) (afterW P (keptL wait kl)) [] ∧ (crashS { t with stopped := b } kl).claimed = false ∧ (crashS { t with stopped := b } kl).claims = t.claims ∧ (crashS { t with stopped := b } kl).reads = t.reads ∧ (crashS { t with stopped := b } kl).made = t.made ∧ (crashS { t with stopped := b } kl).ops = [] := by
  have hw := h.live.wait
  obtain ⟨hh, he⟩ := holdAll_same (keptL t.wait kl) { t with stopped := b }
  have hin : ∀ c ∈ keptL t.wait kl, (0 ≤ c.1 ∧ c.1 < t.n) ∧ Can c.2 := fun c hc => h.live.ok.wait c ((kept_sub _ _).subset hc)
  have ok0 : Ok ({ t with stopped := b } : St) := ⟨h.live.ok.n, h.live.ok.held, h.live.ok.wait, h.live.ok.fuse, h.live.ok.made, h.live.ok.reads, h.live.ok.claims⟩
  have hok : Ok (crashS { t with stopped := b } kl) := crashS_ok (holdAll_ok _ _ ok0 hin)
  have hn : (crashS { t with stopped := b } kl).n = n := by
    show (holdAll { t with stopped := b } (keptL t.wait kl)).n = n
    rw [he]
    exact h.live.n
  refine ⟨⟨⟨hok, rfl, hn, rfl, rfl, rfl⟩, fun k => ?_⟩, rfl, ?_, ?_, ?_, rfl⟩
  · show ((holdAll { t with stopped := b } (keptL t.wait kl)).held k).getD nought = _
    rw [holdAll_get _ _ fun c hc => (hin c hc).2, hw]
    show lastV ((t.held k).getD nought) _ k = _
    rw [h.plat]
    rfl
  · show (holdAll { t with stopped := b } (keptL t.wait kl)).claims = _
    rw [he]
  · show (holdAll { t with stopped := b } (keptL t.wait kl)).reads = _
    rw [he]
  · show (holdAll { t with stopped := b } (keptL t.wait kl)).made = _
    rw [he]
/-- What writes leave. -/
theorem after_not {k : Int} : ∀ (l : List Cel) (x : Nat → Int), (∀ c ∈ l, c.1 ≠ k) → lastV x l k = x
  | [], _, _ => rfl
  | c :: t, x, h => by
    show lastV (if c.1 = k then c.2 else x) t k = x
    rw [if_neg (h c (List.mem_cons_self ..))]
    exact after_not t x fun c' hc => h c' (List.mem_cons_of_mem _ hc)
theorem after_in {k : Int} {G : Nat → Int} : ∀ (l : List Cel) (x : Nat → Int), (∀ c ∈ l, c.1 = k → c.2 = G) → (x = G ∨ ∃ c ∈ l, c.1 = k) → lastV x l k = G
  | [], x, _, h => by
    rcases h with h | ⟨c, hc, _⟩
    · exact h
    · cases hc
  | c :: t, x, h, hx => by
    show lastV (if c.1 = k then c.2 else x) t k = G
    refine after_in t _ (fun c' hc => h c' (List.mem_cons_of_mem _ hc)) ?_
    by_cases e : c.1 = k
    · rw [if_pos e]
      exact .inl (h c (List.mem_cons_self ..) e)
    · rw [if_neg e]
      rcases hx with hx | ⟨c', hc, e'⟩
      · exact .inl hx
      · rcases List.mem_cons.1 hc with rfl | hc
        · exact absurd e' e
        · exact .inr ⟨c', hc, e'⟩
end
end Go.Proofs.Ytahaiciciljijaa
/- What may stand on a platter under a log: all of one book, or a header with the group in the log; commits and recovery keep to it wherever they stop; no condition. -/
namespace Go.Proofs.Ytahaiciciljijaa
open Go.RowKit Go.Maps
/-- All in place, no header. -/
def GoodA (b l : Int) (F Q : Int → Nat → Int) : Prop := Q 1 = nought ∧ ∀ k, 1 + l ≤ k → k < b → Q k = F k
/-- A header, its blocks in the log, all else in place. -/
def GoodB (b l : Int) (ts : List Int) (F Q : Int → Nat → Int) : Prop := Q 1 = H.headF ts ∧ (∀ (j : Nat) y, ts[j]? = some y → Q (2 + (j : Int)) = F y) ∧ ∀ k, 1 + l ≤ k → k < b → k ∉ ts → Q k = F k
def Good (b l : Int) (F Q : Int → Nat → Int) : Prop := GoodA b l F Q ∨ ∃ ts, H.MayP (1 + l) b (l - 1) ts ∧ ts ≠ [] ∧ GoodB b l ts F Q
section
variable {b l : Int} {F0 F1 P : Int → Nat → Int} {ts : List Int}
/-- The writes into the log, and those to their places. -/
def lgW (F : Int → Nat → Int) (ts : List Int) : List Cel := (List.range ts.length).map fun (j : Nat) => (2 + (j : Int), F (ts.getD j 0))
def puW (F : Int → Nat → Int) (ts : List Int) : List Cel := ts.map fun k => (k, F k)
theorem lgW_mem {c : Cel} (h : c ∈ lgW F1 ts) : ∃ (j : Nat) (y : Int), ts[j]? = some y ∧ c = (2 + (j : Int), F1 y) := by
  obtain ⟨j, hj, rfl⟩ := List.mem_map.1 h
  have hj := List.mem_range.1 hj
  exact ⟨j, ts[j], List.getElem?_eq_getElem hj, by simp [List.getD, hj]⟩
theorem lgW_has {j : Nat} {y : Int} (h : ts[j]? = some y) : (2 + (j : Int), F1 y) ∈ lgW F1 ts := by
  have hj := (List.getElem?_eq_some_iff.1 h).1
  exact List.mem_map.2 ⟨j, List.mem_range.2 hj, by simp [List.getD, h]⟩
theorem puW_mem {c : Cel} (h : c ∈ puW F1 ts) : c.1 ∈ ts ∧ c.2 = F1 c.1 := by
  obtain ⟨k, hk, rfl⟩ := List.mem_map.1 h
  exact ⟨hk, rfl⟩
theorem sub_two {c : Cel} {l : List Cel} (h : List.Sublist l [c]) : l = [] ∨ l = [c] := by
  cases h with
  | cons _ h => exact .inl (List.sublist_nil.1 h)
  | cons_cons _ h => exact .inr (by rw [List.sublist_nil.1 h])
/-- The second half: from a header on. -/
theorem good_put (hm : H.MayP (1 + l) b (l - 1) ts) (hP : GoodB b l ts F1 P) {w : List Cel} (hw : List.Sublist w (puW F1 ts)) (hl : 1 ≤ l) : GoodB b l ts F1 (afterW P w) := by
  have hin : ∀ c ∈ w, c.1 ∈ ts ∧ c.2 = F1 c.1 := fun c hc => puW_mem (hw.subset hc)
  have hno : ∀ k, k < 1 + l → afterW P w k = P k := fun k hk => after_not w _ fun c hc e => by
    have := (hm.2.1 c.1 (hin c hc).1).1
    omega
  refine ⟨by rw [hno 1 (by omega)]; exact hP.1, fun j y hy => ?_, fun k h1 h2 h3 => ?_⟩
  · have hj := (List.getElem?_eq_some_iff.1 hy).1
    have := hm.1
    rw [hno _ (by omega)]
    exact hP.2.1 j y hy
  · show lastV (P k) w k = F1 k
    rw [after_not (k := k) w _ fun c hc e => h3 (by rw [← e]; exact (hin c hc).1)]
    exact hP.2.2 k h1 h2 h3
theorem good_all (hm : H.MayP (1 + l) b (l - 1) ts) (hP : GoodB b l ts F1 P) (hl : 1 ≤ l) : GoodB b l ts F1 (afterW P (puW F1 ts)) ∧ ∀ k, 1 + l ≤ k → k < b → afterW P (puW F1 ts) k = F1 k := by
  refine ⟨good_put hm hP (List.Sublist.refl _) hl, fun k h1 h2 => ?_⟩
  by_cases hk : k ∈ ts
  · exact after_in _ _ (fun c hc e => by rw [(puW_mem hc).2, e]) (.inr ⟨(k, F1 k), List.mem_map.2 ⟨k, hk, rfl⟩, rfl⟩)
  · show lastV (P k) (puW F1 ts) k = F1 k
    rw [after_not (k := k) _ _ fun c hc e => hk (by rw [← e]; exact (puW_mem hc).1)]
    exact hP.2.2 k h1 h2 hk
theorem after_one (c : Cel) (k : Int) : afterW P [c] k = if c.1 = k then c.2 else P k := rfl
/-- Clearing the header. -/
theorem good_clear (hP : GoodB b l ts F1 P) (hA : ∀ k, 1 + l ≤ k → k < b → P k = F1 k) (hl : 1 ≤ l) : SubAll (fun Q => GoodB b l ts F1 Q ∨ GoodA b l F1 Q) P [(1, nought)] ∧ GoodA b l F1 (afterW P [(1, nought)]) := by
  have h2 : GoodA b l F1 (afterW P [(1, nought)]) := ⟨by rw [after_one, if_pos rfl], fun k h1 h2 => by
    rw [after_one, if_neg (by show ¬ (1 : Int) = k; omega)]
    exact hA k h1 h2⟩
  refine ⟨fun w hw => ?_, h2⟩
  rcases sub_two hw with rfl | rfl
  · exact .inl hP
  · exact .inr h2
theorem SubAll.mono {Φ Ψ : (Int → Nat → Int) → Prop} {w : List Cel} (h : SubAll Φ P w) (hi : ∀ Q, Φ Q → Ψ Q) : SubAll Ψ P w := fun l hl => hi _ (h l hl)
theorem sub_nil {Φ : (Int → Nat → Int) → Prop} (h : Φ P) : SubAll Φ P [] := fun w hw => by
  rw [List.sublist_nil.1 hw]
  exact h
/-- From a header with the group in the log on: to their places, a barrier, the header, a barrier. -/
theorem rest_chk {Φ : (Int → Nat → Int) → Prop} (hm : H.MayP (1 + l) b (l - 1) ts) (hP : GoodB b l ts F1 P) (hl : 1 ≤ l) (hΦ : ∀ Q, GoodB b l ts F1 Q ∨ GoodA b l F1 Q → Φ Q) :
    SubAll Φ P (puW F1 ts) ∧ ChkP Φ [none, some (1, nought), none] P (puW F1 ts) ∧ GoodA b l F1 (endP [none, some (1, nought), none] P (puW F1 ts)).1 ∧ (endP [none, some (1, nought), none] P (puW F1 ts)).2 = [] := by
  obtain ⟨h1, h2⟩ := good_all hm hP hl
  obtain ⟨h3, h4⟩ := good_clear h1 h2 hl
  have hs : SubAll Φ P (puW F1 ts) := fun w hw => hΦ _ (.inl (good_put hm hP hw hl))
  exact ⟨hs, ⟨hs, sub_nil (hΦ _ (.inl h1)), h3.mono hΦ, sub_nil (hΦ _ (.inr h4))⟩, h4, rfl⟩
/-- A whole commit. -/
theorem cmt_chk {Φ : (Int → Nat → Int) → Prop} (hm : H.MayP (1 + l) b (l - 1) ts) (hP : GoodA b l F0 P) (hl : 1 ≤ l) (hoff : ∀ k, 1 + l ≤ k → k < b → k ∉ ts → F0 k = F1 k) (h0 : ∀ Q, GoodA b l F0 Q → Φ Q) (hΦ : ∀ Q, GoodB b l ts F1 Q ∨ GoodA b l F1 Q → Φ Q) {ops : List (Option Cel)}
    (ho : ops = (lgW F1 ts).map some ++ ([none, some (1, H.headF ts), none] ++ ((puW F1 ts).map some ++ [none, some (1, nought), none]))) :
    ChkP Φ ops P [] ∧ GoodA b l F1 (endP ops P []).1 ∧ (endP ops P []).2 = [] := by
  have hA : ∀ w, List.Sublist w (lgW F1 ts) → (∀ k, k = 1 ∨ 1 + l ≤ k → afterW P w k = P k) := fun w hw k hk => after_not w _ fun c hc e => by
    obtain ⟨j, y, hy, rfl⟩ := lgW_mem (hw.subset hc)
    have hj := (List.getElem?_eq_some_iff.1 hy).1
    have := hm.1
    have e' : 2 + (j : Int) = k := e
    omega
  have hgA : ∀ w, List.Sublist w (lgW F1 ts) → GoodA b l F0 (afterW P w) := fun w hw => ⟨by rw [hA w hw 1 (.inl rfl)]; exact hP.1, fun k h1 h2 => by rw [hA w hw k (.inr h1)]; exact hP.2 k h1 h2⟩
  have hg1 := hgA _ (List.Sublist.refl _)
  have hlog : ∀ (j : Nat) y, ts[j]? = some y → afterW P (lgW F1 ts) (2 + (j : Int)) = F1 y := fun j y hy => after_in _ _ (fun c hc e => by
    obtain ⟨j', y', hy', rfl⟩ := lgW_mem hc
    have e' : 2 + (j' : Int) = 2 + (j : Int) := e
    obtain rfl : j' = j := by omega
    rw [hy] at hy'
    injection hy' with hy'
    rw [hy']) (.inr ⟨_, lgW_has hy, rfl⟩)
  have hB : GoodB b l ts F1 (afterW (afterW P (lgW F1 ts)) [(1, H.headF ts)]) := ⟨by rw [after_one, if_pos rfl], fun j y hy => by
    rw [after_one, if_neg (by show ¬ (1 : Int) = 2 + (j : Int); omega)]
    exact hlog j y hy, fun k h1 h2 h3 => by
    rw [after_one, if_neg (by show ¬ (1 : Int) = k; omega), hA _ (List.Sublist.refl _) k (.inr h1), hP.2 k h1 h2]
    exact hoff k h1 h2 h3⟩
  obtain ⟨r1, r2, r3, r4⟩ := rest_chk hm hB hl hΦ
  have hsA : SubAll Φ P (lgW F1 ts) := fun w hw => h0 _ (hgA w hw)
  have hsB : SubAll Φ (afterW P (lgW F1 ts)) [(1, H.headF ts)] := fun w hw => by
    rcases sub_two hw with rfl | rfl
    · exact h0 _ hg1
    · exact hΦ _ (.inl hB)
  subst ho
  refine ⟨chk_writes _ _ [] (by simpa using hsA) ?_, ?_, ?_⟩
  · rw [List.nil_append]
    exact ⟨hsA, sub_nil (h0 _ hg1), hsB, chk_writes _ _ [] (by simpa using r1) (by simpa using r2)⟩
  · rw [end_writes, List.nil_append]
    show GoodA b l F1 (endP ((puW F1 ts).map some ++ [none, some (1, nought), none]) (afterW (afterW P (lgW F1 ts)) [(1, H.headF ts)]) []).1
    rw [end_writes, List.nil_append]
    exact r3
  · rw [end_writes, List.nil_append]
    show (endP ((puW F1 ts).map some ++ [none, some (1, nought), none]) (afterW (afterW P (lgW F1 ts)) [(1, H.headF ts)]) []).2 = []
    rw [end_writes, List.nil_append]
    exact r4
end
end Go.Proofs.Ytahaiciciljijaa
/- Recovery wherever it stops: what may stand on the platter before it may stand there behind it, and all is in place where it is over; no condition. -/
namespace Go.Proofs.Ytahaiciciljijaa
open Go.RowKit Go.Maps
section
variable {t : St} {n f b l i : Int} {P F : Int → Nat → Int} {ts : List Int} {Φ : (Int → Nat → Int) → Prop}
def mvW (P : Int → Nat → Int) (ms : List (Int × Int)) : List Cel := ms.map fun m => (m.2, P m.1)
theorem moves_chk : ∀ (ms : List (Int × Int)) (t : St) (f : Int) (w : List Cel), PW t n f P w → (∀ m ∈ ms, (0 ≤ m.1 ∧ m.1 < n) ∧ (0 ≤ m.2 ∧ m.2 < n)) → (∀ m ∈ ms, ∀ c ∈ w, c.1 ≠ m.1) → (∀ m ∈ ms, ∀ m' ∈ ms, m'.2 ≠ m.1) → SubAll Φ P (w ++ mvW P ms) →
    (mE ms t = 0 ∧ ∃ f', PW (mV ms t) n f' P (w ++ mvW P ms) ∧ (f = -1 → f' = -1)) ∨ (mE ms t = 3 ∧ f ≠ -1 ∧ ∃ t0 w', mV ms t = { t0 with stopped := true } ∧ PW t0 n 0 P w' ∧ SubAll Φ P w')
  | [], t, f, w, h, _, _, _, _ => .inl ⟨rfl, f, by show PW t n f P (w ++ []); rw [List.append_nil]; exact h, fun q => q⟩
  | m :: ms, t, f, w, h, hr, hw, hd, hS => by
    obtain ⟨h1, h2⟩ := hr m (List.mem_cons_self ..)
    have href : refV t m.1 = 0 := by unfold refV; rw [h.live.stop, if_neg (by simp), if_pos ⟨h1.1, by rw [h.live.n]; exact h1.2⟩]
    have hcur : curV t m.1 = P m.1 := by
      rw [h.cur]
      exact after_not w _ (hw m (List.mem_cons_self ..))
    have hcan : Can (P m.1) := by rw [← hcur]; exact curV_can h.live.ok m.1
    have eE : moE t m = dopE (readS t) (some (m.2, P m.1)) := by unfold moE; rw [if_pos href]; rfl
    have eV : moV t m = dopV (readS t) (some (m.2, P m.1)) := by unfold moV; rw [if_pos href, hcur]; rfl
    have e9 : w ++ mvW P (m :: ms) = (w ++ [(m.2, P m.1)]) ++ mvW P ms := by rw [List.append_assoc]; rfl
    by_cases hf : f = 0
    · subst hf
      obtain ⟨q1, q2⟩ := h.readS.out (some (m.2, P m.1)) fun c e => by injection e with e; rw [← e]; exact h2
      refine .inr ⟨?_, by decide, readS t, w, ?_, h.readS, hS.pre⟩
      · show (if moE t m = 0 then _ else moE t m) = 3
        rw [eE, q1, if_neg (by decide)]
      · show (if moE t m = 0 then _ else moV t m) = _
        rw [eE, q1, if_neg (by decide), eV, q2]
    · obtain ⟨q1, q2⟩ := h.readS.write hf h2 hcan
      have r1 : mE (m :: ms) t = mE ms (moV t m) := by
        show (if moE t m = 0 then mE ms (moV t m) else moE t m) = _
        rw [eE, q1, if_pos rfl]
      have r2 : mV (m :: ms) t = mV ms (moV t m) := by
        show (if moE t m = 0 then mV ms (moV t m) else moV t m) = _
        rw [eE, q1, if_pos rfl]
      rw [r1, r2, eV, e9]
      refine next_or (moves_chk ms _ _ _ q2 (fun m' hm => hr m' (List.mem_cons_of_mem _ hm)) (fun m' hm c hc => ?_) (fun m' hm m'' hm2 => hd m' (List.mem_cons_of_mem _ hm) m'' (List.mem_cons_of_mem _ hm2)) (by rw [← e9]; exact hS))
      rcases List.mem_append.1 hc with hc | hc
      · exact hw m' (List.mem_cons_of_mem _ hm) c hc
      · rw [List.mem_singleton.1 hc]
        exact hd m' (List.mem_cons_of_mem _ hm) m (List.mem_cons_self ..)
theorem mvs_mem {m : Int × Int} (h : m ∈ mvs ts ts.length) : ∃ (j : Nat) (y : Int), ts[j]? = some y ∧ m = (2 + (j : Int), y) := by
  obtain ⟨j, hj, rfl⟩ := List.mem_map.1 h
  have hj := List.mem_range.1 hj
  exact ⟨j, ts[j], List.getElem?_eq_getElem hj, by simp [List.getD, hj]⟩
theorem mvW_put (h : ∀ (j : Nat) y, ts[j]? = some y → P (2 + (j : Int)) = F y) : mvW P (mvs ts ts.length) = puW F ts := by
  refine List.ext_getElem? fun j => ?_
  unfold mvW mvs puW
  rw [List.map_map, List.getElem?_map, List.getElem?_map]
  by_cases hj : j < ts.length
  · have hy : ts[j]? = some ts[j] := List.getElem?_eq_getElem hj
    rw [List.getElem?_range hj, hy]
    show some (ts.getD j 0, P (2 + (j : Int))) = some (ts[j], F ts[j])
    rw [h j _ hy]
    simp [List.getD, hj]
  · rw [List.getElem?_eq_none (by simpa using hj), List.getElem?_eq_none (by omega)]
    rfl
/-- Recovery, from a header on. -/
theorem rc_chk (h : PW t n f P []) (hm : H.MayP (1 + l) b (l - 1) ts) (hne : ts ≠ []) (hB : GoodB b l ts F P) (hl : 32 ≤ l) (hn : b ≤ n) :
    (rcE ts t = 0 ∧ ∃ f' P', PW (rcV ts t) n f' P' [] ∧ GoodA b l F P' ∧ (f = -1 → f' = -1)) ∨ (rcE ts t = 3 ∧ f ≠ -1 ∧ ∃ t0 P' w', rcV ts t = { t0 with stopped := true } ∧ PW t0 n 0 P' w' ∧ SubAll (Good b l F) P' w') := by
  have hΦ : ∀ Q, GoodB b l ts F Q ∨ GoodA b l F Q → Good b l F Q := fun Q hQ => by
    rcases hQ with q | q
    · exact .inr ⟨ts, hm, hne, q⟩
    · exact .inl q
  obtain ⟨r1, r2, r3, r4⟩ := rest_chk (Φ := Good b l F) hm hB (by omega) hΦ
  have hlen := hm.1
  have e1 : [] ++ mvW P (mvs ts ts.length) = puW F ts := by rw [List.nil_append]; exact mvW_put hB.2.1
  have hrng : ∀ m ∈ mvs ts ts.length, (2 ≤ m.1 ∧ m.1 < 1 + l) ∧ (1 + l ≤ m.2 ∧ m.2 < b) := fun m hmm => by
    obtain ⟨j, y, hy, rfl⟩ := mvs_mem hmm
    have hj := (List.getElem?_eq_some_iff.1 hy).1
    have hy2 := hm.2.1 y (List.mem_of_getElem? hy)
    exact ⟨⟨by show 2 ≤ 2 + (j : Int); omega, by show 2 + (j : Int) < _; omega⟩, hy2⟩
  have hq := moves_chk (Φ := Good b l F) (mvs ts ts.length) t f [] h (fun m hmm => by have := hrng m hmm; omega) (fun m _ c hc => by cases hc) (fun m hmm m' hmm' e => by have := hrng m hmm; have := hrng m' hmm'; omega) (by rw [e1]; exact r1)
  rw [e1] at hq
  rcases hq with ⟨a1, f1, a2, af⟩ | ⟨a1, af, t0, w', a2, a3, a4⟩
  · have hE : rcE ts t = runE [none, some (1, nought), none] (mV (mvs ts ts.length) t) := by unfold rcE; rw [if_pos a1]
    have hV : rcV ts t = runV [none, some (1, nought), none] (mV (mvs ts ts.length) t) := by unfold rcV; rw [if_pos a1]
    rw [hE, hV]
    rcases run_chk (Φ := Good b l F) _ _ _ _ _ a2 (fun c hc => by
      have e : c = (1, nought) := by simpa using hc
      rw [e]
      have := (hrng _ (List.getElem_mem (l := mvs ts ts.length) (n := 0) (by rw [mvs_len]; exact List.length_pos_iff.2 hne))).2
      exact ⟨⟨by show (0 : Int) ≤ 1; omega, by show (1 : Int) < n; omega⟩, can_nought⟩) r2 with ⟨c1, f2, c2, cf⟩ | ⟨c1, cf, t0, P', w', c2, c3, c4⟩
    · rw [r4] at c2
      exact .inl ⟨c1, f2, _, c2, r3, fun q => cf (af q)⟩
    · exact .inr ⟨c1, fun q => cf (af q), t0, P', w', c2, c3, c4⟩
  · have h0 : ¬ mE (mvs ts ts.length) t = 0 := by rw [a1]; decide
    refine .inr ⟨by unfold rcE; rw [if_neg h0]; exact a1, af, t0, P, w', by unfold rcV; rw [if_neg h0]; exact a2, a3, a4⟩
/-- How much a disk has counted. -/
structure Nm (t : St) (K : Int) : Prop where
  m : t.made ≤ K
  r : t.reads ≤ K
  o : (t.ops.length : Int) ≤ K
  c : t.claims ≤ K
theorem Nm.rm {K : Int} (h : Nm t K) (hK : K ≤ 1000000) {n : Nat} (hn : n ≤ 1000000) : Rm t n := by
  have h1 := h.m
  have h2 := h.r
  have h3 := h.o
  have h4 := h.c
  exact ⟨by omega, by omega, by omega, by omega⟩
theorem Nm.run {K : Int} (h : Nm t K) (ops : List (Option Cel)) : Nm (runV ops t) (K + ops.length) := by
  obtain ⟨h1, h2, h3, _, _, h6⟩ := run_nums ops t
  exact ⟨by have := h.m; omega, by have := h.r; omega, by have := h.o; omega, by have := h.c; omega⟩
theorem Nm.moves {K : Int} (h : Nm t K) (ms : List (Int × Int)) : Nm (mV ms t) (K + ms.length) := by
  obtain ⟨h1, h2, h3, _, _, h6⟩ := mv_nums ms t
  exact ⟨by have := h.m; omega, by have := h.r; omega, by have := h.o; omega, by have := h.c; omega⟩
theorem Nm.rc {K : Int} (h : Nm t K) (T : List Int) : Nm (rcV T t) (K + T.length + 3) := by
  have h1 := h.moves (mvs T T.length)
  rw [mvs_len] at h1
  unfold rcV
  split
  · exact h1.run [none, some (1, nought), none]
  · exact ⟨by have := h1.m; omega, by have := h1.r; omega, by have := h1.o; omega, by have := h1.c; omega⟩
theorem Nm.le {K K' : Int} (h : Nm t K) (hk : K ≤ K') : Nm t K' := ⟨by have := h.m; omega, by have := h.r; omega, by have := h.o; omega, by have := h.c; omega⟩
theorem Nm.readS {K : Int} (h : Nm t K) : Nm (readS t) (K + 1) := ⟨by have := h.m; show t.made ≤ _; omega, by have := h.r; show t.reads + 1 ≤ _; omega, by have := h.o; show (t.ops.length : Int) ≤ _; omega, by have := h.c; show t.claims ≤ _; omega⟩
/-- What Recover leaves. -/
def RecPost (w : World) (d : Nat) (b l n K f : Int) (P F : Int → Nat → Int) (t : St) (ks : List (Nat × Obj)) (e : Ending) (W' : World) : Prop :=
  (∃ N : Int, e = .returned (.tuple #[.int .i64 N, .int .i64 0]) ∧ ∃ t' f' P', Sits w W' d t' ks ∧ PW t' n f' P' [] ∧ GoodA b l F P' ∧ Nm t' (K + 300) ∧ (GoodA b l F P → N = 0 ∧ t'.made = t.made) ∧ (f = -1 → f' = -1)) ∨
  (e = .returned (.tuple #[.int .i64 0, .int .i64 3]) ∧ f ≠ -1 ∧ ∃ t0 P' w', Sits w W' d { t0 with stopped := true } ks ∧ PW t0 n 0 P' w' ∧ SubAll (Good b l F) P' w' ∧ Nm t0 (K + 300))
theorem rec_any {w W : World} {d : Nat} {ks : List (Nat × Obj)} {K : Int} (h : Sits w W d t ks) (hP : PW t n f P []) (hG : Good b l F P) (hf : H.Fine b l i) (hb : b ≤ 300) (hn : b ≤ n) (hK : Nm t K) (hK2 : K ≤ 900000) :
    Calls Try.prog 10 #[ptr d, .agg (layA b l i)] W (RecPost w d b l n K f P F t ks) := by
  have hl := hf.1
  have hl2 := hf.2.1
  have hbn : b ≤ t.n := by rw [hP.live.n]; exact hn
  have hcur : curV t = P := by rw [hP.cur]; rfl
  rcases hG with hA | ⟨ts, hm, hne, hB⟩
  · obtain ⟨e1, e2⟩ := tg_nought (b := b) (l := l) (t := t) (by rw [hcur]; exact hA.1) hl
    refine (recover_empty h hf hbn hP.live.stop (hK.rm (by omega) (by omega)) e1).mono ?_
    rintro e W' ⟨rfl, h1⟩
    rw [e2]
    exact .inl ⟨0, rfl, readS t, f, P, h1, hP.readS, hA, hK.readS.le (by omega), fun _ => ⟨rfl, rfl⟩, fun q => q⟩
  · obtain ⟨e1, e2⟩ := tg_head (b := b) (l := l) (t := t) (ts := ts) (by rw [hcur]; exact hB.1) ⟨hl, hl2⟩ hm (by omega)
    have hlen := hm.1
    have hq := recover_some h hf hbn hP.live.stop (by rw [e1]; exact hne) e2 (by rw [e1]; omega) (hK.rm (by omega) (by rw [e1]; omega))
    rw [e1] at hq
    refine hq.mono ?_
    rintro e W' ⟨rfl, h1⟩
    have hN := (hK.readS.rc ts).le (K' := K + 300) (by omega)
    rcases rc_chk hP.readS hm hne hB hl hn with ⟨a1, f', P', a2, a3, af⟩ | ⟨a1, af, t0, P', w', a2, a3, a4⟩
    · rw [a1]
      refine .inl ⟨_, rfl, _, f', P', h1, a2, a3, hN, fun hA => ?_, af⟩
      exact absurd (e1.symm.trans (tg_nought (b := b) (l := l) (t := t) (by rw [hcur]; exact hA.1) hl).1) hne
    · rw [a1]
      refine .inr ⟨rfl, af, t0, P', w', by rw [← a2]; exact h1, a3, a4, ?_⟩
      rw [a2] at hN
      exact ⟨hN.m, hN.r, hN.o, hN.c⟩
end
end Go.Proofs.Ytahaiciciljijaa
/- A log on a disk that may stop at any write or barrier: Begin and Sync, and what is left where it stops; no condition. -/
namespace Go.Proofs.Ytahaiciciljijaa
open Go.RowKit Go.Maps
section
variable {w W W' : World} {g d : Nat} {x x' : LSt} {s : CSt} {t : St} {book : Int → Nat → Int} {ks : List (Nat × Obj)} {b l i : Int}
/-- A log on a disk that lives, with its header cleared and nothing pending. -/
structure GoW (b l i : Int) (x : LSt) (t : St) : Prop where
  xb : x.b = b
  xl : x.l = l
  xi : x.i = i
  xc : x.claim = 1
  st : t.stopped = false
  cl : t.claims = 1
  cd : t.claimed = true
  n : t.n = b
  hq : HdQ t
theorem GoW.chk (h : GoW b l i x t) : chkE x t = 0 := chk_of (live_of h.st h.cl h.cd) h.xc
theorem GoW.ref (h : GoW b l i x t) {o : Bool} (ho : x.opn = o) : refL x t o = 0 := refL_of (live_of h.st h.cl h.cd) h.xc ho
theorem GoW.turn (h : GoW b l i x t) (hb : x'.b = x.b) (hl : x'.l = x.l) (hi : x'.i = x.i) (hc : x'.claim = x.claim) : GoW b l i x' t := ⟨hb.trans h.xb, hl.trans h.xl, hi.trans h.xi, hc.trans h.xc, h.st, h.cl, h.cd, h.n, h.hq⟩
theorem GoW.pw (h : GoW b l i x t) (ok : Ok t) : PW t b t.fuse (curV t) [] := by
  refine ⟨⟨ok, h.st, h.n, rfl, rfl, h.hq.2⟩, fun k => ?_⟩
  rw [curV_last, h.hq.2]
  rfl
/-- A disk under a log, whether the log lives or not. -/
def DeadC (w : World) (g d : Nat) (W : World) (t : St) (ks : List (Nat × Obj)) : Prop := ∃ c mb v x', x'.claim = 1 ∧ Sits w W d t ((g, .cells (lgRow g d c mb v x') 48) :: ks) ∧ ∀ p ∈ ks, p.1 ≠ g
theorem DeadC.ctx (w : World) (g d : Nat) : Ctx w d (fun W t ks => DeadC w g d W t ks) :=
  ⟨fun ⟨_, _, _, _, _, h, _⟩ => h.below, fun ⟨_, _, _, _, _, h, _⟩ hm => h.blk (List.mem_cons_of_mem _ hm),
   fun {W W' t ks ks' T} ⟨c, mb, v, x', hx, h, ha⟩ hf hT hks => by
    have hg := h.blk (List.mem_cons_self ..)
    have hgs := (Array.getElem?_eq_some_iff.1 hg).1
    refine ⟨c, mb, v, x', hx, h.side (T := T) hf (fun k hk => ⟨(hT k hk).1, (hT k hk).2.elim fun o ho => ⟨o, List.mem_cons_of_mem _ ho⟩⟩) fun p hp => ?_, fun p hp e => ?_⟩
    · rcases List.mem_cons.1 hp with rfl | hp
      · refine ⟨(hf.block g hgs fun q => ?_).trans hg, .inl ⟨_, List.mem_cons_self ..⟩⟩
        obtain ⟨o, ho⟩ := (hT g q).2
        exact ha _ ho rfl
      · obtain ⟨h1, h2⟩ := hks p hp
        refine ⟨h1, ?_⟩
        rcases h2 with ⟨o, ho⟩ | h2
        · exact .inl ⟨o, List.mem_cons_of_mem _ ho⟩
        · exact .inr h2
    · rcases (hks p hp).2 with ⟨o, ho⟩ | h2
      · exact ha _ ho e
      · omega,
   fun {W t ks k} ⟨c, mb, v, x', hx, h, ha⟩ hs hr hk => by
    refine ((Sits.ctx w d).dread h hs hr hk).mono ?_
    rintro e W' ⟨rfl, h1⟩
    exact ⟨rfl, c, mb, v, x', hx, h1, ha⟩⟩
theorem LogSit.dead (h : LogSit w W g d x s t ks) (hc : x.claim = 1) : DeadC w g d W t ks := by
  obtain ⟨c, mb, v, h1⟩ := h.toSits
  obtain ⟨_, _, _, _, h2⟩ := h
  exact ⟨c, mb, v, x, hc, h1, fun p hp e => h2.ap p hp (.inl e)⟩
theorem LogI.dead (h : LogI w W g d x t book ks) (hc : x.claim = 1) : DeadC w g d W t ks := by
  obtain ⟨s, h1, _⟩ := h
  exact h1.dead hc
/-- What may be left where a disk has stopped, or where the power goes. -/
def DeadT (b l K : Int) (F0 F1 : Int → Nat → Int) (T : St) : Prop := ∃ t0 B f P w', T = { t0 with stopped := B } ∧ PW t0 b f P w' ∧ SubAll (fun Q => Good b l F0 Q ∨ Good b l F1 Q) P w' ∧ Nm t0 K
theorem DeadT.of {K : Int} (h : GoW b l i x t) (ok : Ok t) (hN : Nm t K) (F1 : Int → Nat → Int) : DeadT b l K (curV t) F1 t := by
  refine ⟨t, false, t.fuse, curV t, [], ?_, h.pw ok, sub_nil (.inl (.inl ⟨h.hq.1, fun _ _ _ => rfl⟩)), hN⟩
  have e := h.st
  cases t
  simp only at e
  rw [e]
theorem cmt_can (hI : Inv x s t book) : ∀ c, some c ∈ cmtOps x book → Can c.2 := by
  have hlen := hI.len
  have hl2 := hI.fine.2.1
  intro c hc
  unfold cmtOps opsA opsB opsC opsD lgOps putOps at hc
  simp only [List.mem_append, List.mem_map, List.mem_range, List.mem_cons, List.not_mem_nil, or_false, reduceCtorEq, Option.some.injEq] at hc
  rcases hc with ⟨j, hj, rfl⟩ | rfl | ⟨k, hk, rfl⟩ | rfl
  · have : x.blocks.getD j 0 ∈ x.blocks := by
      rw [List.getD_eq_getElem?_getD, List.getElem?_eq_getElem hj]
      exact List.getElem_mem _
    exact hI.c.can (decide_eq_true this)
  · exact headF_can (by omega)
  · exact hI.c.can (decide_eq_true hk)
  · exact can_nought
theorem cmt_shape (x : LSt) (book : Int → Nat → Int) : cmtOps x book = (lgW book x.blocks).map some ++ ([none, some (1, H.headF x.blocks), none] ++ ((puW book x.blocks).map some ++ [none, some (1, nought), none])) := by
  unfold cmtOps opsA opsB opsC opsD lgOps putOps lgW puW
  simp [List.map_map, Function.comp_def]
/-- A commit, wherever it stops. -/
theorem LogI.cmtF {K : Int} (h : LogI w W g d x t book ks) (hG : GoW b l i x t) (hb : x.blocks ≠ []) (hN : Nm t K) :
    (runE (cmtOps x book) t = 0 ∧ GoW b l i x (runV (cmtOps x book) t) ∧ (∀ k, 1 + l ≤ k → k < b → curV (runV (cmtOps x book) t) k = book k) ∧ Nm (runV (cmtOps x book) t) (K + 516)) ∨
    (runE (cmtOps x book) t = 3 ∧ DeadT b l (K + 516) (curV t) book (runV (cmtOps x book) t)) := by
  have ok := h.okT
  have hoff : ∀ k, 1 + l ≤ k → k < b → k ∉ x.blocks → curV t k = book k := fun k h1 h2 h3 => by
    have hl : 32 ≤ x.l := by obtain ⟨s, _, hI⟩ := h; exact hI.fine.1
    rw [hG.xl] at hl
    exact h.cur (by rw [hG.xb, hG.xl]; exact ⟨⟨by omega, h2⟩, by omega⟩) h3
  obtain ⟨s, _, hI⟩ := h
  have hm : H.MayP (1 + l) b (l - 1) x.blocks := by
    have h1 := hI.len
    have h2 := hI.rng
    rw [hG.xl] at h1
    rw [hG.xl, hG.xb] at h2
    exact ⟨h1, h2, hI.nd⟩
  have hl : 32 ≤ l ∧ l ≤ 256 := by have := hI.fine; rw [hG.xl] at this; exact ⟨this.1, this.2.1⟩
  have hlen := hm.1
  obtain ⟨c1, c2, c3⟩ := cmt_chk (Φ := fun Q => Good b l (curV t) Q ∨ Good b l book Q) hm (P := curV t) (F0 := curV t) (F1 := book) ⟨hG.hq.1, fun _ _ _ => rfl⟩ (by omega) hoff (fun Q q => .inl (.inl q)) (fun Q q => by
    rcases q with q | q
    · exact .inr (.inr ⟨_, hm, hb, q⟩)
    · exact .inr (.inl q)) (cmt_shape x book)
  have hin := cmt_in hI (n := b) (by rw [hG.xb]; exact Int.le_refl _)
  have hNr := (hN.run (cmtOps x book)).le (K' := K + 516) (by rw [cmt_len]; omega)
  obtain ⟨_, _, n3, n4, n5, _⟩ := run_nums (cmtOps x book) t
  rcases run_chk (Φ := fun Q => Good b l (curV t) Q ∨ Good b l book Q) _ _ _ _ _ (hG.pw ok) (fun c hc => ⟨hin c hc, cmt_can hI c hc⟩) c1 with ⟨a1, f', a2, _⟩ | ⟨a1, _, t0, P', w', a2, a3, a4⟩
  · rw [c3] at a2
    have hcur : curV (runV (cmtOps x book) t) = (endP (cmtOps x book) (curV t) []).1 := by rw [a2.cur]; rfl
    exact .inl ⟨a1, ⟨hG.xb, hG.xl, hG.xi, hG.xc, a2.live.stop, n3.trans hG.cl, n4.trans hG.cd, a2.live.n, ⟨by rw [hcur]; exact c2.1, a2.live.wait⟩⟩, fun k h1 h2 => by rw [hcur]; exact c2.2 k h1 h2, hNr⟩
  · refine .inr ⟨a1, t0, true, 0, P', w', a2, a3, a4, ?_⟩
    rw [a2] at hNr
    exact ⟨hNr.m, hNr.r, hNr.o, hNr.c⟩
/-- Sync, wherever the disk stops. -/
theorem LogI.syncF {K : Int} (h : LogI w W g d x t book ks) (hG : GoW b l i x t) (ho : x.opn = false) (hN : Nm t K) (hK : K ≤ 900000) (hcm : x.commits < 1000000) (hl32 : 32 ≤ l) :
    Calls Try.prog 25 #[ptr g] W fun e W' => (e = .returned (.int .i64 0) ∧ (GoW b l i (syX x) (syT x book t) ∧ (∀ k, 1 + l ≤ k → k < b → curV (syT x book t) k = book k) ∧ Nm (syT x book t) (K + 516)) ∧ LogI w W' g d (syX x) (syT x book t) book ks) ∨
      (e = .returned (.int .i64 3) ∧ DeadT b l (K + 516) (curV t) book (syT x book t) ∧ DeadC w g d W' (syT x book t) ks) := by
  have hlen : (x.blocks.length : Int) ≤ x.l - 1 ∧ x.l ≤ 256 := by
    obtain ⟨s, _, hI⟩ := h
    exact ⟨hI.len, hI.fine.2.1⟩
  unfold syX syT
  by_cases hb : x.blocks = []
  · rw [if_pos hb, if_pos hb]
    refine (h.syncNone (hG.ref ho) hb).mono ?_
    rintro e W' ⟨rfl, h1⟩
    exact .inl ⟨rfl, ⟨hG, fun k h2 h3 => h.cur (by rw [hG.xb, hG.xl]; exact ⟨⟨by omega, h3⟩, by omega⟩) (by rw [hb]; exact List.not_mem_nil), hN.le (by omega)⟩, h1⟩
  · rw [if_neg hb, if_neg hb]
    refine (h.sync (hG.ref ho) hb (hN.rm (by omega) (by omega)) (by omega)).mono ?_
    rintro e W' ⟨rfl, ⟨x', s', h2, h3⟩, h4⟩
    rcases h.cmtF hG hb hN with ⟨a1, a2, a3, a4⟩ | ⟨a1, a2⟩
    · exact .inl ⟨by rw [a1], ⟨a2.turn rfl rfl rfl rfl, a3, a4⟩, h4 a1⟩
    · exact .inr ⟨by rw [a1], a2, h2.dead (h3.trans hG.xc)⟩
/-- Begin, wherever the disk stops. -/
theorem LogI.beginF {K r : Int} (h : LogI w W g d x t book ks) (hG : GoW b l i x t) (ho : x.opn = false) (hr1 : 1 ≤ r) (hr2 : r ≤ l - 1) (hN : Nm t K) (hK : K ≤ 900000) (hcm : x.commits < 1000000) :
    Calls Try.prog 29 #[ptr g, .int .i64 r] W fun e W' => (e = .returned (.int .i64 0) ∧ (GoW b l i (bgX x r) (bgT x book t r) ∧ ((bgX x r).commits = x.commits ∧ bgT x book t r = t ∨ (bgX x r).commits = x.commits + 1 ∧ ∀ k, 1 + l ≤ k → k < b → curV (bgT x book t r) k = book k) ∧ Nm (bgT x book t r) (K + 516)) ∧ LogI w W' g d (bgX x r) (bgT x book t r) book ks) ∨
      (e = .returned (.int .i64 3) ∧ DeadT b l (K + 516) (curV t) book (bgT x book t r) ∧ DeadC w g d W' (bgT x book t r) ks) := by
  have hxl := hG.xl
  have hlen : (x.blocks.length : Int) ≤ x.l - 1 ∧ x.l ≤ 256 := by
    obtain ⟨s, _, hI⟩ := h
    exact ⟨hI.len, hI.fine.2.1⟩
  unfold bgX bgT
  by_cases hov : bgOver x r = true
  · simp only [if_pos hov]
    have hov' : x.l - 1 < (x.blocks.length : Int) + r := of_decide_eq_true hov
    have hb : x.blocks ≠ [] := fun q => by rw [q] at hov'; simp at hov'; omega
    refine (h.beginOver (hG.ref ho) hr1 (by omega) hov' (hN.rm (by omega) (by omega)) (by omega)).mono ?_
    rintro e W' ⟨rfl, ⟨x', s', h2, h3⟩, h4⟩
    rcases h.cmtF hG hb hN with ⟨a1, a2, a3, a4⟩ | ⟨a1, a2⟩
    · exact .inl ⟨by rw [a1], ⟨a2.turn rfl rfl rfl rfl, .inr ⟨trivial, a3⟩, a4⟩, h4 a1⟩
    · exact .inr ⟨by rw [a1], a2, h2.dead (h3.trans hG.xc)⟩
  · simp only [if_neg hov]
    refine (h.begin (hG.ref ho) hr1 (by
      unfold bgOver at hov
      simp only [decide_eq_true_eq] at hov
      omega)).mono ?_
    rintro e W' ⟨rfl, h1⟩
    exact .inl ⟨rfl, ⟨hG.turn rfl rfl rfl rfl, .inl ⟨trivial, trivial⟩, hN.le (by omega)⟩, h1⟩
theorem bgX_same (x : LSt) (r : Int) : (bgX x r).opn = true ∧ (bgX x r).room = r ∧ (bgX x r).steps = x.steps := by
  unfold bgX
  split <;> exact ⟨rfl, rfl, rfl⟩
theorem syX_same (x : LSt) : (syX x).blocks = [] ∧ (syX x).opn = x.opn ∧ (syX x).steps = x.steps ∧ (syX x).commits ≤ x.commits + 1 := by
  unfold syX
  split
  · rename_i hb
    exact ⟨hb, rfl, rfl, by omega⟩
  · exact ⟨rfl, rfl, rfl, Int.le_refl _⟩
/-- What it stands on has turned by a call, one way or another. -/
theorem SX.callOr {C C1 C2 : World → St → List (Nat × Obj) → Prop} {t1 t2 : St} {q : Nat} {vT : Value} {vs : List Value} {fss : List (List (Nat → Int))} {lst last : Int} {ok : Bool} {oT : List (Nat × Obj)} {fn : Nat} {args : Array Value} {E1 E2 : Ending} {A1 A2 : Prop} (h : SX w C W t q vT vs fss lst last ok oT ks)
    (hc : ∀ ks, C W t ks → Calls Try.prog fn args W fun e W' => (e = E1 ∧ A1 ∧ C1 W' t1 ks) ∨ (e = E2 ∧ A2 ∧ C2 W' t2 ks)) :
    Calls Try.prog fn args W fun e W' => (e = E1 ∧ A1 ∧ SX w C1 W' t1 q vT vs fss lst last ok oT ks) ∨ (e = E2 ∧ A2 ∧ SX w C2 W' t2 q vT vs fss lst last ok oT ks) :=
  (hc _ h.c).mono fun _ _ hh => by
    rcases hh with ⟨he, ha, h1⟩ | ⟨he, ha, h1⟩
    · exact .inl ⟨he, ha, h.turn h1⟩
    · exact .inr ⟨he, ha, h.turn h1⟩
/-- A story beside a log that is dead. -/
def RD (w : World) (g d q r : Nat) (KS : List (Nat × Obj)) (W : World) (T : St) (fss : List (List (Nat → Int))) (lst last : Int) (ok : Bool) : Prop :=
  ∃ vT vs oT ks, SX w (fun W t ks => DeadC w g d W t ks) W T q vT vs fss lst last ok oT ks ∧ (∀ p ∈ KS, p ∈ ks) ∧ ∀ v ∈ vs, v.ownBlock ≠ some r
theorem RS.callOr {q r : Nat} {KS : List (Nat × Obj)} {X X' : LSt} {T T1 T2 : St} {bk bk' : Int → Nat → Int} {fss : List (List (Nat → Int))} {lst last : Int} {ok : Bool} {fn : Nat} {args : Array Value} {E1 E2 : Ending} {A1 A2 : Prop} (h : RS w g d q r KS W X T bk fss lst last ok)
    (hc : ∀ ks, LogI w W g d X T bk ks → Calls Try.prog fn args W fun e W' => (e = E1 ∧ A1 ∧ LogI w W' g d X' T1 bk' ks) ∨ (e = E2 ∧ A2 ∧ DeadC w g d W' T2 ks)) :
    Calls Try.prog fn args W fun e W' => (e = E1 ∧ A1 ∧ RS w g d q r KS W' X' T1 bk' fss lst last ok) ∨ (e = E2 ∧ A2 ∧ RD w g d q r KS W' T2 fss lst last ok) := by
  obtain ⟨vT, vs, oT, ks, h1, h2, h3⟩ := h
  refine (h1.callOr (C1 := fun W t ks => LogI w W g d X' t bk' ks) (C2 := fun W t ks => DeadC w g d W t ks) (t1 := T1) (t2 := T2) hc).mono ?_
  rintro e W' (⟨he, ha, h4⟩ | ⟨he, ha, h4⟩)
  · exact .inl ⟨he, ha, vT, vs, oT, ks, h4, h2, h3⟩
  · exact .inr ⟨he, ha, vT, vs, oT, ks, h4, h2, h3⟩
theorem RS.dead {q r : Nat} {KS : List (Nat × Obj)} {X : LSt} {T : St} {bk : Int → Nat → Int} {fss : List (List (Nat → Int))} {lst last : Int} {ok : Bool} (h : RS w g d q r KS W X T bk fss lst last ok) (hc : X.claim = 1) : RD w g d q r KS W T fss lst last ok := by
  obtain ⟨vT, vs, oT, ks, h1, h2, h3⟩ := h
  exact ⟨vT, vs, oT, ks, h1.turn (LogI.dead h1.c hc), h2, h3⟩
end
end Go.Proofs.Ytahaiciciljijaa
