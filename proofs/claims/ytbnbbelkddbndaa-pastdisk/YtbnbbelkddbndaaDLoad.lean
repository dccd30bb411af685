/- Load: a disk of every image that may be; its steps without a fuse; what is left of it, against what its history says; no condition. -/
import Derived.Test.YtbnbbelkddbndaaSomeMath
import Derived.Test.YtbnbbelkddbndaaRecs
namespace Go.Proofs.Ytbnbbelkddbndaa
open Go.RowKit Go.Maps
/-- The disk of an image. -/
def loadV (n : Int) (l : List Cel) : St := holdAll (newV n) l
set_option maxRecDepth 20000 in
set_option maxHeartbeats 2000000 in
theorem load_ok (n : Int) (l : List Cel) (p : Option Addr) (cap : Nat) (w : World) (hl : l.length < 9223372036854775807) (h : ImgAt w p l) (hcan : ∀ c ∈ l, Can c.2) (hm : mayB n l = true) :
    Calls Try.prog 31 #[.agg #[.int .i64 n, .slice p l.length cap]] w fun e w' => ∃ L : Loc, e = .returned (.tuple #[.pointer (some ⟨L.d, 0, none⟩), .int .i64 0]) ∧ DiskAt w' L (loadV n l) ∧ L.from w.heap.size ∧ Below w.heap.size w w' := by
  have hB := below_new w (.cells #[.int .i64 n, .slice p l.length cap] 24)
  have hG := heap_alloc_new w (.cells #[.int .i64 n, .slice p l.length cap] 24)
  have hM := may_any n l p cap _ hl (h.later hB)
  rw [hm] at hM
  have HI : Hid (ImgAt w p l) := h
  have HC : Hid (∀ c ∈ l, Can c.2) := hcan
  obtain ⟨hbn, hbs⟩ := may_bounds hm
  have HBs : Hid (∀ c ∈ l, 0 ≤ c.1 ∧ c.1 < n ∧ blankB c.2 = false) := hbs
  clear h hcan hm hbs
  go_enter Try.func31, Try.ntmps31
  go_wp2_with (go_at_call 65; fail)
  refine hM.mono ?_
  rintro e W1 ⟨rfl, hb1⟩
  have hG1 := heap_kept hG hb1
  have hB1 := below_next hB hb1
  have i0 : W1.cell? ⟨w.heap.size, 0, none⟩ = some (.int .i64 n) := Joins.cell_of_block hG1 0
  clear hM hG hB hb1
  go_wp2_with (go_at_call 66; fail)
  refine (new_ok hbn W1).mono ?_
  rintro e W2 ⟨L, rfl, hD2, hL2, hb2⟩
  have hG2 := heap_kept hG1 hb2
  have HB2 : Hid (Below w.heap.size w W2) := below_next hB1 hb2
  have i1 : W2.cell? ⟨w.heap.size, 1, none⟩ = some (.slice p l.length cap) := Joins.cell_of_block hG2 1
  have HD2 : Hid (DiskAt W2 L (newV n)) := hD2
  have HL2 : Hid (L.from w.heap.size ∧ ¬ L.has w.heap.size) := by
    have hs := hB1.size
    have hlt : w.heap.size < W1.heap.size := (Array.getElem?_eq_some_iff.1 hG1).1
    exact ⟨fun k hk => by have := hL2 k hk; omega, fun q => by have := hL2 _ q; omega⟩
  have HG2 : Hid (W2.heap[w.heap.size]? = some (.cells #[.int .i64 n, .slice p l.length cap] 24)) := hG2
  clear hD2 hL2 hb2 hB1 hG1 i0 hG2
  go_wp2
  go_loopw [19] (fun s19 wx => ∃ k : Nat, k ≤ l.length ∧ s19 = .int .i64 k ∧ Hid (DiskAt wx L (holdAll (newV n) (l.take k))) ∧ Hid (Below w.heap.size w wx) ∧ Hid (wx.heap[w.heap.size]? = some (.cells #[.int .i64 n, .slice p l.length cap] 24))) (fun s19 _ => l.length - (intOf s19).toNat)
  case atStart => exact ⟨0, by omega, rfl, HD2.out, HB2.out, HG2.out⟩
  case round =>
    obtain ⟨k, hk, rfl, HD, HB, HG⟩ := hrel
    clear HD2 HB2 HG2 i1
    by_cases hk2 : (k : Int) < l.length
    · have hc : l[k]? = some l[k] := List.getElem?_eq_getElem (by omega)
      obtain ⟨b, off, rfl, hlt, hC⟩ := HI.out (by omega)
      generalize l[k] = c at hc
      have hmem := List.mem_of_getElem? hc
      obtain ⟨q1, _⟩ := (hC.later HB.out hlt) k c hc
      have hbd : Below w.heap.size w wr.drew := HB.out.drew
      obtain ⟨_, q2⟩ := (hC.later hbd hlt) k c hc
      have HDd : DiskAt wr.drew L (holdAll (newV n) (l.take k)) := HD.out.fr (Fr.drew (T := fun _ => False) wr) fun _ _ q => q
      obtain ⟨y1, y2, _⟩ := HBs.out c hmem
      have hH := hold_of HDd (k := c.1) (by rw [holdAll_n]; exact ⟨y1, y2⟩) (HC.out c hmem) q2
      rw [← holdAll_snoc, ← take_snoc hc] at hH
      have HH : Hid (Calls Try.prog 67 #[.pointer (some ⟨L.d, 0, none⟩), .int .i64 c.1, .pointer (some ⟨b, off + k * 1025 + 1, none⟩)] wr.drew fun e w' => e = .returned (.tuple #[]) ∧ DiskAt w' L (holdAll (newV n) (l.take (k + 1))) ∧ Below w.heap.size w w' ∧ w'.heap[w.heap.size]? = some (.cells #[.int .i64 n, .slice (some ⟨b, off, none⟩) l.length cap] 24)) :=
        hH.mono fun e w' ⟨h1, h2, h3⟩ => ⟨h1, h2, hbd.trans ((h3.mono fun i _ q => (.inr (.inl q) : L.has i)).below HL2.out.1 hbd.size), (h3.block _ (Array.getElem?_eq_some_iff.1 HG.out).1 fun q => HL2.out.2 (.inr (.inl q))).trans HG.out⟩
      have i1 : wr.cell? ⟨w.heap.size, 1, none⟩ = some (.slice (some ⟨b, off, none⟩) l.length cap) := Joins.cell_of_block HG.out 1
      clear hH q2 HDd hbd hC hmem hc HD HB HG
      go_wp2
      go_still_tail 12, (by kernel_rfl)
      change wpList _ _ _ _ _ (World.drew _)
      go_wp2_with (go_at_call 67; fail)
      refine HH.out.mono ?_
      rintro e W3 ⟨rfl, hD3, hB3, hG3⟩
      have HD3 : Hid (DiskAt W3 L (holdAll (newV n) (l.take (k + 1)))) := hD3
      have HB3 : Hid (Below w.heap.size w W3) := hB3
      have HG3 : Hid (W3.heap[w.heap.size]? = some (.cells #[.int .i64 n, .slice (some ⟨b, off, none⟩) l.length cap] 24)) := hG3
      clear hD3 hB3 hG3 HH i1
      go_wp2
      exact ⟨⟨k + 1, by omega, by go_num, HD3.out, HB3.out, HG3.out⟩, by simp [intOf]; omega⟩
    · obtain rfl : k = l.length := by omega
      have hD := HD.out
      rw [List.take_length] at hD
      have HD3 : Hid (DiskAt wr L (loadV n l)) := hD
      clear hD HD HG
      go_wp2
      go_ret2
      exact ⟨L, rfl, HD3.out, HL2.out.1, HB.out⟩
theorem holdAll_held : ∀ (l : List Cel) (s : St), (holdAll s l).held = holdCs s.held l
  | [], _ => rfl
  | c :: t, s => holdAll_held t (holdV s c.1 c.2)
/-- A disk that was loaded and then went step by step, without a fuse. -/
structure DI (n : Int) (l : List Cel) (s : St) : Prop where
  num : s.n = n
  run : s.stopped = false ∧ s.fuse = -1
  held : s.held = holdCs noC (l ++ madeL [] s.done)
  sure : sureN s.done = s.done.length
  ok : ∀ r ∈ s.ops, opOk n r = true
  can : ∀ r ∈ s.ops, Can r.dat
  made : s.made ≤ s.ops.length
  reads : s.reads = 0
  claims : s.claims = 0
variable {n : Int} {l : List Cel} {s : St}
theorem DI.start (n : Int) (l : List Cel) : DI n l (loadV n l) ∧ (loadV n l).ops = [] := by
  obtain ⟨h, e⟩ := holdAll_same l (newV n)
  have hh := holdAll_held l (newV n)
  have e' : loadV n l = { newV n with held := h } := e
  have hh' : h = holdCs noC l := by
    have : (loadV n l).held = holdCs noC l := hh
    rw [e'] at this
    exact this
  rw [e']
  refine ⟨⟨rfl, ⟨rfl, rfl⟩, ?_, rfl, fun r hr => absurd hr List.not_mem_nil, fun r hr => absurd hr List.not_mem_nil, Int.le_refl _, rfl, rfl⟩, rfl⟩
  show h = holdCs noC (l ++ [])
  rw [List.append_nil]
  exact hh'
theorem DI.room (h : DI n l s) (ho : s.ops.length ≤ 1000) : Room s := ⟨by omega, by have := h.made; omega, by rw [h.reads]; omega, by rw [h.claims]; omega⟩
theorem DI.lets (h : DI n l s) : lets s = true ∧ letV s = { s with fuse := -1, made := s.made + 1 } := by
  have hf := h.run.2
  refine ⟨by unfold Ytbnbbelkddbndaa.lets; rw [hf]; rfl, ?_⟩
  unfold letV
  rw [if_neg (by rw [hf]; omega), if_pos hf]
theorem DI.write (h : DI n l s) {k : Int} (hk : 0 ≤ k ∧ k < n) {f : Nat → Int} (hf : Can f) : writeE s k = 0 ∧ DI n l (writeV s k f) ∧ (writeV s k f).ops = s.ops ++ [⟨1, k, f⟩] := by
  have href : refV s k = 0 := by unfold refV; rw [h.run.1, if_neg (by simp), if_pos (by rw [h.num]; exact hk)]
  obtain ⟨hl, hv⟩ := h.lets
  have he : writeV s k f = writeS s k f := by unfold writeV; rw [if_pos href, if_pos hl]
  have ho := writeS_ops s k f
  refine ⟨by unfold writeE; rw [if_pos href, if_pos hl], ?_, by rw [he, ho]⟩
  rw [he]
  have hw : writeS s k f = { s with fuse := -1, made := s.made + 1, wait := s.wait ++ [(k, f)] } := by unfold writeS; rw [hv]
  refine ⟨by rw [hw]; exact h.num, by rw [hw]; exact ⟨h.run.1, rfl⟩, by rw [hw]; exact h.held, by rw [hw]; exact h.sure, fun r hr => ?_, fun r hr => ?_, ?_, by rw [hw]; exact h.reads, by rw [hw]; exact h.claims⟩
  · rw [ho] at hr
    rcases List.mem_append.1 hr with hr | hr
    · exact h.ok r hr
    · simp only [List.mem_cons, List.not_mem_nil, or_false] at hr
      subst hr
      unfold opOk
      simp
      omega
  · rw [ho] at hr
    rcases List.mem_append.1 hr with hr | hr
    · exact h.can r hr
    · simp only [List.mem_cons, List.not_mem_nil, or_false] at hr
      subst hr
      exact hf
  · rw [ho, List.length_append, hw]
    show s.made + 1 ≤ ((s.ops.length + 1 : Nat) : Int)
    have := h.made
    omega
theorem wait_kind (s : St) : ∀ r ∈ s.wait.map wrec, r.kind = 1 := fun r hr => by
  obtain ⟨c, _, rfl⟩ := List.mem_map.1 hr
  rfl
theorem DI.sureOps (h : DI n l s) : sureN s.ops = s.done.length ∧ tailR s.ops = s.wait.map wrec := by
  have h0 : sureN (s.wait.map wrec) = 0 := sureN_zero fun j r hj => by
    rw [wait_kind s r (List.mem_of_getElem? hj)]
    decide
  have h1 : sureN s.ops = s.done.length := by
    unfold St.ops
    rw [sureN_append, if_pos h0, h.sure]
  refine ⟨h1, ?_⟩
  unfold tailR
  rw [h1]
  unfold St.ops
  rw [List.drop_left]
theorem DI.madeOps (h : DI n l s) (keep : List Bool) : madeL keep s.ops = madeL [] s.done ++ keptT keep 0 (s.wait.map wrec) := by
  obtain ⟨h1, h2⟩ := h.sureOps
  have e1 : ∀ kp : List Bool, madeL kp s.ops = madeL [] s.done ++ keptT kp 0 (s.wait.map wrec) := fun kp => by
    show madeGo kp (sureN s.ops) 0 (s.done ++ s.wait.map wrec) = madeGo [] (sureN s.done) 0 s.done ++ _
    rw [madeGo_append, h1, h.sure, Nat.zero_add]
    have e2 := madeGo_all (keep := kp) (keep' := []) (N := s.done.length) (N' := s.done.length) s.done 0 (by omega) (by omega)
    have e3 := madeGo_tail (keep := kp) (N := s.done.length) (s.wait.map wrec) 0 (wait_kind s)
    rw [e2, ← e3, Nat.add_zero]
  exact e1 keep
theorem kept_same : ∀ (w : List Cel) (keep : List Bool), keptT keep 0 (w.map wrec) = keptL w keep := by
  have gen : ∀ (w : List Cel) (keep : List Bool) (j : Nat), keptT keep j (w.map wrec) = keptL w (keep.drop j) := fun w => by
    induction w with
    | nil =>
      intro keep j
      cases keep.drop j <;> rfl
    | cons c t ih =>
      intro keep j
      show (if keep.getD j false then [(c.1, c.2)] else []) ++ keptT keep (j + 1) (t.map wrec) = _
      rw [ih keep (j + 1)]
      by_cases hj : j < keep.length
      · rw [List.drop_eq_getElem_cons hj]
        have e : keep.getD j false = keep[j] := by rw [List.getD_eq_getElem?_getD, List.getElem?_eq_getElem hj]; rfl
        rw [e]
        cases keep[j] <;> rfl
      · have e : keep.getD j false = false := by rw [List.getD_eq_getElem?_getD, List.getElem?_eq_none (by omega)]; rfl
        rw [e, List.drop_of_length_le (by omega), List.drop_of_length_le (by omega)]
        cases t <;> rfl
  exact fun w keep => gen w keep 0
theorem kept_all : ∀ (w : List Cel), keptT (List.replicate w.length true) 0 (w.map wrec) = w := by
  intro w
  rw [kept_same]
  induction w with
  | nil => rfl
  | cons c t ih => show c :: keptL t (List.replicate t.length true) = _; rw [ih]
theorem DI.bar (h : DI n l s) : barE s = 0 ∧ DI n l (barV s) ∧ (barV s).ops = s.ops ++ [⟨2, 0, nought⟩] := by
  obtain ⟨hl, hv⟩ := h.lets
  have he : barV s = barS s := by unfold barV; rw [h.run.1, if_neg (by simp), if_pos hl]
  have ho := barS_ops s
  refine ⟨by unfold barE; rw [h.run.1, if_neg (by simp), if_pos hl], ?_, by rw [he, ho]⟩
  rw [he]
  obtain ⟨hh, e⟩ := holdAll_same s.wait (letV s)
  have hheld : hh = holdCs s.held s.wait := by
    have q := holdAll_held s.wait (letV s)
    rw [e, letV_held] at q
    exact q
  have hb : barS s = { s with fuse := -1, made := s.made + 1, held := hh, done := s.ops ++ [⟨2, 0, nought⟩], wait := [] } := by
    unfold barS
    rw [e, hv]
  have hd : madeL [] (s.ops ++ [⟨2, 0, nought⟩]) = madeL [] s.done ++ s.wait := by
    have e1 : sureN (s.ops ++ [⟨2, 0, nought⟩]) = s.ops.length + 1 := sureN_bar s.ops
    show madeGo [] (sureN (s.ops ++ [⟨2, 0, nought⟩])) 0 (s.ops ++ [⟨2, 0, nought⟩]) = _
    rw [e1, madeGo_append]
    have e2 : madeGo [] (s.ops.length + 1) (0 + s.ops.length) [⟨2, 0, nought⟩] = [] := rfl
    rw [e2, List.append_nil]
    obtain ⟨h1, h2⟩ := h.sureOps
    have e3 := madeGo_all (keep := []) (keep' := List.replicate s.wait.length true) (N := s.ops.length + 1) (N' := s.ops.length + 1) s.ops 0 (by omega) (by omega)
    unfold St.ops at e3 ⊢
    rw [madeGo_append, Nat.zero_add]
    have e4 := madeGo_all (keep := []) (keep' := []) (N := (s.done ++ s.wait.map wrec).length + 1) (N' := s.done.length) s.done 0 (by simp; omega) (by omega)
    have e5 : ∀ (w : List Cel) (i N : Nat), i + w.length < N → madeGo [] N i (w.map wrec) = w := fun w => by
      induction w with
      | nil => intro i N _; rfl
      | cons c t ih =>
        intro i N hN
        have hm : isMade [] N i (wrec c) = true := by
          unfold isMade wrec
          simp only [decide_true, Bool.true_and, Bool.or_eq_true, decide_eq_true_eq]
          left
          simp only [List.length_cons] at hN
          omega
        show (if isMade [] N i (wrec c) then [(c.1, c.2)] else []) ++ madeGo [] N (i + 1) (t.map wrec) = _
        rw [hm, if_pos rfl, ih (i + 1) N (by simp only [List.length_cons] at hN; omega)]
        rfl
    rw [e4, e5 s.wait s.done.length _ (by simp)]
    show _ = madeGo [] (sureN s.done) 0 s.done ++ s.wait
    rw [h.sure]
  refine ⟨by rw [hb]; exact h.num, ⟨by rw [hb]; exact h.run.1, by rw [hb]⟩, ?_, ?_, fun r hr => ?_, fun r hr => ?_, ?_, by rw [hb]; exact h.reads, by rw [hb]; exact h.claims⟩
  · rw [hb]
    show hh = holdCs noC (l ++ madeL [] (s.ops ++ [⟨2, 0, nought⟩]))
    rw [hd, ← List.append_assoc, holdCs_append, ← h.held]
    exact hheld
  · rw [hb]
    show sureN (s.ops ++ [⟨2, 0, nought⟩]) = (s.ops ++ ([⟨2, 0, nought⟩] : List Rec)).length
    rw [sureN_bar, List.length_append]
    rfl
  · rw [ho] at hr
    rcases List.mem_append.1 hr with hr | hr
    · exact h.ok r hr
    · simp only [List.mem_cons, List.not_mem_nil, or_false] at hr
      subst hr
      rfl
  · rw [ho] at hr
    rcases List.mem_append.1 hr with hr | hr
    · exact h.can r hr
    · simp only [List.mem_cons, List.not_mem_nil, or_false] at hr
      subst hr
      exact can_nought
  · rw [ho, List.length_append, hb]
    show s.made + 1 ≤ ((s.ops.length + 1 : Nat) : Int)
    have := h.made
    omega
/-- What is left of it is what its history says. -/
theorem DI.left (h : DI n l s) (keep : List Bool) {la lb : List Cel} (ha : IsImage (crashS s keep) la) (hb : IsImg n (afterC l s.ops keep) lb) : la = lb := by
  have hc : (crashS s keep).held = afterC l s.ops keep := by
    show (holdAll s (keptL s.wait keep)).held = holdCs noC (l ++ madeL keep s.ops)
    rw [holdAll_held, h.held, h.madeOps, kept_same, ← List.append_assoc, holdCs_append (l := l ++ madeL [] s.done)]
  refine rise_ext ha.rise hb.rise ha.sound hb.sound fun k => ?_
  rw [ha.at_ k, hb.at_ k, hc]
  rfl
theorem DI.pend (h : DI n l s) : pendL s.ops = (List.range s.wait.length).map fun j => ((s.done.length + j : Nat) : Int) := by
  obtain ⟨h1, h2⟩ := h.sureOps
  have q := pendL_tail (fs := s.ops) (by rw [h2]; exact wait_kind s)
  rw [h2, h1, List.length_map] at q
  exact q
theorem wait_at {j : Nat} {c : Cel} (hj : s.wait[j]? = some c) : s.ops[s.done.length + j]? = some (wrec c) := by
  unfold St.ops
  rw [List.getElem?_append_right (by omega), Nat.add_sub_cancel_left, List.getElem?_map, hj]
  rfl
set_option maxRecDepth 20000 in
set_option maxHeartbeats 2000000 in
theorem whole_le (n : Int) (l : List Cel) (p : Option Addr) (cap : Nat) (w : World) (hl : l.length ≤ 9223372036854775807) (h : ImgAt w p l) :
    Calls Try.prog 22 #[.agg #[.int .i64 n, .slice p l.length cap]] w fun e w' => e = .returned (.int .i64 (wholeE n l)) ∧ Below w.heap.size w w' := by
  have hB := below_new w (.cells #[.int .i64 n, .slice p l.length cap] 24)
  have hG := heap_alloc_new w (.cells #[.int .i64 n, .slice p l.length cap] 24)
  have HI : Hid (ImgAt w p l) := h
  have hbd := built58
  clear h
  cases hb : bndB n
  · have e0 : wholeE n l = 2 := by unfold wholeE mayB; rw [hb]; rfl
    rw [e0]
    have hn : n < 1 ∨ n > 1048576 := by
      have : ¬ (1 ≤ n ∧ n ≤ 1048576) := by simpa [bndB] using hb
      omega
    clear e0 hb
    rcases hn with hn | hn
    · go_enter Try.func22, Try.ntmps22
      go_wp2
      go_ret
      exact ⟨rfl, hB⟩
    · go_enter Try.func22, Try.ntmps22
      go_wp2
      go_ret
      exact ⟨rfl, hB⟩
  · have HR : Hid (wholeE n l = if risesB n (-1) (l.drop 0) then 0 else 2) := by unfold wholeE mayB; rw [hb]; rfl
    generalize wholeE n l = res at *
    generalize hW : w.alloc (.cells #[.int .i64 n, .slice p l.length cap] 24) = W0 at *
    have i0 : W0.cell? ⟨w.heap.size, 0, none⟩ = some (.int .i64 n) := Joins.cell_of_block hG 0
    have i1 : W0.cell? ⟨w.heap.size, 1, none⟩ = some (.slice p l.length cap) := Joins.cell_of_block hG 1
    have hn : 1 ≤ n ∧ n ≤ 1048576 := by simpa [bndB] using hb
    clear hb
    go_enter Try.func22, Try.ntmps22
    go_wp2
    obtain ⟨N, hbd', eN⟩ : ∃ N, (∀ u : World, (Instr.build 40 #[]).run Try.prog u = .ok (.agg (blk N)) u) ∧ N = nought := ⟨nought, built58, rfl⟩
    have HN : Hid (N = nought) := eN
    clear eN hbd
    go_loopw [3, 17] (fun s3 s17 wx => ∃ (k : Nat) (x : Int), k ≤ l.length ∧ s3 = .int .i64 x ∧ s17 = .int .i64 k ∧ wx = W0 ∧ Hid (res = if risesB n x (l.drop k) then 0 else 2)) (fun s3 s17 _ => l.length - (intOf s17).toNat)
    case atStart => exact ⟨0, -1, by omega, rfl, rfl, rfl, HR.out⟩
    case round =>
      obtain ⟨k, x, hk, rfl, rfl, rfl, HR2⟩ := hrel
      clear HR
      by_cases hk2 : (k : Int) < l.length
      · have hc : l[k]? = some l[k] := List.getElem?_eq_getElem (by omega)
        obtain ⟨b, off, rfl, hlt, hC⟩ := HI.out (by omega)
        have hd : l.drop k = l[k] :: l.drop (k + 1) := List.drop_eq_getElem_cons (by omega)
        generalize l[k] = c at hc hd
        obtain ⟨q1, q2⟩ := (hC.later hB hlt) k c hc
        obtain ⟨y, f⟩ := c
        have hR := HR2.out
        rw [hd] at hR
        unfold risesB at hR
        simp only at hR q1 q2
        clear hd hc HR2 hC
        by_cases h1 : y ≤ x
        · have hr0 : res = 2 := by rw [hR]; simp [h1]
          clear hR
          subst hr0
          go_wp2
          go_ret
          exact ⟨rfl, hB⟩
        · by_cases h2 : y ≥ n
          · have hr0 : res = 2 := by rw [hR]; simp [h2]
            clear hR
            subst hr0
            go_wp2
            go_ret
            exact ⟨rfl, hB⟩
          · cases h3 : blankB f
            · have HR3 : Hid (res = if risesB n y (l.drop (k + 1)) then 0 else 2) := by
                have e : res = if risesB n y (l.drop (k + 1)) then 0 else 2 := by rw [hR, h3]; simp [h1, h2]
                exact e
              have h3' : sameB f N = false := by rw [HN.out]; exact h3
              clear hR
              go_wp2_with (first | refine wpList_loadMw rfl (.tmp 40) rfl b (off + k * 1025 + 1) rfl f q2 ?_ | refine wpList_build58w rfl rfl hbd' ?_ | refine wpList_eq58 rfl (.tmp 41) (.tmp 42) rfl f N false rfl rfl h3' ?_)
              exact ⟨⟨k + 1, y, by omega, rfl, by go_num, by trivial, HR3.out⟩, by simp [intOf]; omega⟩
            · have hr0 : res = 2 := by rw [hR, h3]; simp
              clear hR
              have h3' : sameB f N = true := by rw [HN.out]; exact h3
              subst hr0
              go_wp2_with (first | refine wpList_loadMw rfl (.tmp 40) rfl b (off + k * 1025 + 1) rfl f q2 ?_ | refine wpList_build58w rfl rfl hbd' ?_ | refine wpList_eq58 rfl (.tmp 41) (.tmp 42) rfl f N true rfl rfl h3' ?_)
              go_ret
              exact ⟨rfl, hB⟩
      · obtain rfl : k = l.length := by omega
        have hr0 : res = 0 := by rw [HR2.out, List.drop_length]; rfl
        subst hr0
        go_wp2
        go_ret
        exact ⟨rfl, hB⟩
theorem may_len {n : Int} {l : List Cel} (h : mayB n l = true) : (l.length : Int) ≤ n := by
  have gen : ∀ (l : List Cel) (a : Int), -1 ≤ a → a < n → risesB n a l = true → a + 1 + l.length ≤ n := fun l => by
    induction l with
    | nil => intro a h1 h2 _; show a + 1 + ((0 : Nat) : Int) ≤ n; omega
    | cons c t ih =>
      intro a h1 h2 hr
      unfold risesB at hr
      simp at hr
      have := ih c.1 (by omega) (by omega) hr.2
      simp only [List.length_cons]
      omega
  obtain ⟨h1, h2⟩ : bndB n = true ∧ risesB n (-1) l = true := by unfold mayB at h; simpa using h
  have h3 : 1 ≤ n ∧ n ≤ 1048576 := by simpa [bndB] using h1
  have := gen l (-1) (by omega) (by omega) h2
  omega
end Go.Proofs.Ytbnbbelkddbndaa
