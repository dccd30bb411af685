/- The writes that are made when the power has gone: which they are; eachMade with After's own two closures; no condition. -/
import Derived.Test.YtbnbbelkddbndaaPtrs
namespace Go.Proofs.Ytbnbbelkddbndaa
open Go.RowKit Go.Maps
/-- Is an op made? -/
def isMade (keep : List Bool) (n i : Nat) (r : Rec) : Bool := decide (r.kind = 1) && (decide (i < n) || keep.getD (i - n) false)
def madeGo (keep : List Bool) (n : Nat) : Nat → List Rec → List Cel
  | _, [] => []
  | i, r :: t => (if isMade keep n i r then [(r.pos, r.dat)] else []) ++ madeGo keep n (i + 1) t
theorem madeGo_append (keep : List Bool) (n : Nat) : ∀ (l m : List Rec) (i : Nat), madeGo keep n i (l ++ m) = madeGo keep n i l ++ madeGo keep n (i + l.length) m
  | [], m, i => by simp [madeGo]
  | x :: t, m, i => by
    show (if isMade keep n i x then [(x.pos, x.dat)] else []) ++ madeGo keep n (i + 1) (t ++ m) = ((if isMade keep n i x then [(x.pos, x.dat)] else []) ++ madeGo keep n (i + 1) t) ++ _
    rw [madeGo_append keep n t m (i + 1), List.append_assoc, List.length_cons, show i + (t.length + 1) = i + 1 + t.length by omega]
theorem madeGo_snoc (keep : List Bool) (n : Nat) (l : List Rec) (r : Rec) : madeGo keep n 0 (l ++ [r]) = madeGo keep n 0 l ++ (if isMade keep n l.length r then [(r.pos, r.dat)] else []) := by
  rw [madeGo_append, Nat.zero_add]
  simp [madeGo]
/-- All that is made of ops. -/
def madeL (keep : List Bool) (ops : List Rec) : List Cel := madeGo keep (sureN ops) 0 ops
theorem takeR_snoc {l : List Rec} {k : Nat} {c : Rec} (h : l[k]? = some c) : l.take (k + 1) = l.take k ++ [c] := by
  rw [List.take_add_one, h]
  rfl
theorem madeGo_mem {keep : List Bool} {n : Nat} : ∀ {l : List Rec} {i : Nat} {c : Cel}, c ∈ madeGo keep n i l → ∃ r ∈ l, r.kind = 1 ∧ c = (r.pos, r.dat)
  | [], _, _, h => by simp [madeGo] at h
  | x :: t, i, c, h => by
    unfold madeGo at h
    rcases List.mem_append.1 h with h | h
    · split at h
      · rename_i hx
        unfold isMade at hx
        simp at hx
        exact ⟨x, by simp, hx.1, by simpa using h⟩
      · simp at h
    · obtain ⟨r, h1, h2, h3⟩ := madeGo_mem h
      exact ⟨r, by simp [h1], h2, h3⟩
set_option maxRecDepth 20000 in
theorem kept_any {ka : Option Addr} {kcap : Nat} (keep : List Bool) (i : Int) (hi : 0 ≤ i) (kc : Nat) (w : World) (hl : keep.length < 9223372036854775807) (hc : w.heap[kc]? = some (.cells #[.slice ka keep.length kcap] 26)) (hk : BoolsAt w (.slice ka keep.length kcap) keep) :
    Calls Try.prog 55 #[.int .i64 i, .pointer (some ⟨kc, 0, none⟩)] w fun e w' => e = .returned (.bool (keep.getD i.toNat false)) ∧ w' = w := by
  obtain ⟨j, rfl⟩ := Int.eq_ofNat_of_zero_le hi
  have c0 : w.cell? ⟨kc, 0, none⟩ = some (.slice ka keep.length kcap) := Joins.cell_of_block hc 0
  by_cases hj : (j : Int) < keep.length
  · have hx : keep[j]? = some keep[j] := List.getElem?_eq_getElem (by omega)
    have e : keep.getD (Int.ofNat j).toNat false = keep[j] := by
      show keep.getD j false = _
      rw [List.getD_eq_getElem?_getD, hx]
      rfl
    rw [show ((j : Int)).toNat = (Int.ofNat j).toNat from rfl, e]
    obtain ⟨p, c, h1, h2⟩ := hk
    injection h1 with h1 _ h3
    subst h1 h3
    obtain ⟨b, off, rfl, h4⟩ := h2 (by omega)
    have q := h4 j _ hx
    generalize keep[j] = x at *
    clear h4 h2 e hx
    go_enter Try.func55, Try.ntmps55
    go_wp2
    go_ret
    exact ⟨rfl, rfl⟩
  · have e : keep.getD ((j : Int)).toNat false = false := by
      show keep.getD j false = _
      rw [List.getD_eq_getElem?_getD, List.getElem?_eq_none (by omega)]
      rfl
    rw [e]
    clear hk e
    go_enter Try.func55, Try.ntmps55
    go_wp2
    go_ret
    exact ⟨rfl, rfl⟩
variable {B : Nat} {w w' : World} {b mb lc : Nat} {c : Con}
set_option maxRecDepth 20000 in
theorem do_any (r : Rec) {off : Nat} (hp : w.cell? ⟨b, off + 1, none⟩ = some (.int .i64 r.pos)) (hd : BlkAt w b (off + 2) r.dat) (hb : b < B) (hBm : B ≤ mb) (hin : inTop r.pos) (hlc : w.heap[lc]? = some (.cells #[.map (some mb)] 84)) (hP : PtrsAt B w mb c) :
    Calls Try.prog 57 #[.pointer (some ⟨b, off, none⟩), .pointer (some ⟨lc, 0, none⟩)] w fun e w' => e = .returned (.tuple #[]) ∧ PtrsAt B w' mb (holdC c r.pos r.dat) ∧ Fr (fun i => i = mb) w w' := by
  have c0 : w.cell? ⟨lc, 0, none⟩ = some (.map (some mb)) := Joins.cell_of_block hlc 0
  have hbd := built58
  have hW := inTop.wf hin
  obtain ⟨m, hM, h2, h3⟩ := hP
  have hlt := hM.lt
  cases hbl : blankB r.dat
  · have HN : Hid (∀ w', MapIs Try.prog 3 w' mb (fun y => if y = r.pos then some (.pointer (some ⟨b, off + 2, none⟩)) else m y) → w.drew.grownBy w' (some mb) → PtrsAt B w' mb (holdC c r.pos r.dat) ∧ Fr (fun i => i = mb) w w') := fun w' hm' hg' => by
      have hF : Fr (fun i => i = mb) w w' := (Fr.drew w).trans ((Fr.ofGrown hg').mono fun i _ q => by injection q with q; exact q.symm) fun _ _ q => q
      exact ⟨putP h2 h3 hb hd hbl hm' fun i hi => hF.block i (by omega) (by omega), hF⟩
    unfold blankB at hbl
    clear h2 h3
    generalize nought = N at *
    go_enter Try.func57, Try.ntmps57
    go_wp2_with (first | refine wpList_loadM rfl _ rfl b (off + 2) rfl r.dat hd ?_ | refine wpList_build58 rfl rfl hbd ?_ | refine wpList_eq58 rfl (.tmp 6) (.tmp 7) rfl r.dat N false rfl rfl hbl ?_)
    go_still_tail 8, (by kernel_rfl)
    change wpList _ _ _ _ _ (World.drew _)
    refine wpList_putM rfl _ _ _ 84 rfl 89 Try.underlying3 keyed3 Try.underlying84 mb m rfl (hM.kept (w' := w.drew) rfl) r.pos hin rfl _ rfl ?_
    intro w' hm' hg'
    have n1 : Hid (PtrsAt B w' mb (holdC c r.pos r.dat) ∧ Fr (fun i => i = mb) w w') := HN.out w' hm' hg'
    clear hm' hg' HN
    go_wp2
    go_end0
    exact ⟨rfl, n1.out.1, n1.out.2⟩
  · have HN : Hid (∀ w', MapIs Try.prog 3 w' mb (fun y => if y = r.pos then none else m y) → w.drew.grownBy w' (some mb) → PtrsAt B w' mb (holdC c r.pos r.dat) ∧ Fr (fun i => i = mb) w w') := fun w' hm' hg' => by
      have hF : Fr (fun i => i = mb) w w' := (Fr.drew w).trans ((Fr.ofGrown hg').mono fun i _ q => by injection q with q; exact q.symm) fun _ _ q => q
      exact ⟨delP h2 h3 hbl hm' fun i hi => hF.block i (by omega) (by omega), hF⟩
    unfold blankB at hbl
    clear h2 h3
    generalize nought = N at *
    go_enter Try.func57, Try.ntmps57
    go_wp2_with (first | refine wpList_loadM rfl _ rfl b (off + 2) rfl r.dat hd ?_ | refine wpList_build58 rfl rfl hbd ?_ | refine wpList_eq58 rfl (.tmp 6) (.tmp 7) rfl r.dat N true rfl rfl hbl ?_)
    go_still_tail 5, (by kernel_rfl)
    change wpList _ _ _ _ _ (World.drew _)
    refine wpList_delM rfl _ _ 84 rfl 89 Try.underlying3 keyed3 Try.underlying84 mb m rfl (hM.kept (w' := w.drew) rfl) r.pos hW rfl ?_
    intro w' hm' hg'
    have n1 : Hid (PtrsAt B w' mb (holdC c r.pos r.dat) ∧ Fr (fun i => i = mb) w w') := HN.out w' hm' hg'
    clear hm' hg' HN
    go_wp2
    refine bodyPost_ret (results_none rfl _ _ _) rfl ?_
    exact ⟨rfl, n1.out.1, n1.out.2⟩
/-- Ops that lie below B. -/
def OpsIn (B : Nat) (w : World) (p : Option Addr) (l : List Rec) : Prop := 0 < l.length → ∃ b off, p = some ⟨b, off, none⟩ ∧ b < B ∧ RecsAt w b off l
theorem OpsAt.toIn {w : World} {p : Option Addr} {l : List Rec} (h : OpsAt w p l) : OpsIn w.heap.size w p l := h
theorem OpsIn.at {w : World} {p : Option Addr} {l : List Rec} (h : OpsIn B w p l) (hB : B ≤ w.heap.size) : OpsAt w p l := fun h0 => by
  obtain ⟨b, off, h1, h2, h3⟩ := h h0
  exact ⟨b, off, h1, by omega, h3⟩
theorem OpsIn.kept {w w' : World} {p : Option Addr} {l : List Rec} (h : OpsIn B w p l) (hB : ∀ k, k < B → w'.heap[k]? = w.heap[k]?) : OpsIn B w' p l := fun h0 => by
  obtain ⟨b, off, h1, h2, h3⟩ := h h0
  refine ⟨b, off, h1, h2, fun k r hr => ?_⟩
  obtain ⟨q1, q2, q3⟩ := h3 k r hr
  exact ⟨(World.cell?_of_block (hB b h2)).trans q1, (World.cell?_of_block (hB b h2)).trans q2, q3.kept (hB b h2)⟩
set_option maxRecDepth 20000 in
set_option maxHeartbeats 1000000 in
theorem each_after {n : Int} {ops : List Rec} {keep : List Bool} {po ka : Option Addr} {co kcap kc : Nat} (ho : OpsIn B w po ops) (hBm : B ≤ mb) (hBw : B ≤ w.heap.size) (hP : PtrsAt B w mb c) (hlc : w.heap[lc]? = some (.cells #[.map (some mb)] 84)) (hkc : w.heap[kc]? = some (.cells #[.slice ka keep.length kcap] 26))
    (hk : BoolsAt w (.slice ka keep.length kcap) keep) (hok : ∀ r ∈ ops, opOk n r = true) (hbn : bndB n = true) (hlo : ops.length < 9223372036854775807) (hlk : keep.length < 9223372036854775807) :
    Calls Try.prog 56 #[.slice po ops.length co, .func (.func 55) #[] #[.pointer (some ⟨kc, 0, none⟩)], .func (.func 57) #[] #[.pointer (some ⟨lc, 0, none⟩)]] w fun e w' => e = .returned (.tuple #[]) ∧ PtrsAt B w' mb (holdCs c (madeL keep ops)) ∧ Fr (fun i => i = mb) w w' := by
  have hS := sure_any ops po co w hlo (ho.at hBw)
  have hlcm : lc ≠ mb := hP.ne hlc
  have hkcm : kc ≠ mb := hP.ne hkc
  have HO : Hid (OpsIn B w po ops) := ho
  have HP : Hid (PtrsAt B w mb c) := hP
  have HL : Hid (w.heap[lc]? = some (.cells #[.map (some mb)] 84)) := hlc
  have HKc : Hid (w.heap[kc]? = some (.cells #[.slice ka keep.length kcap] 26)) := hkc
  have HK : Hid (BoolsAt w (.slice ka keep.length kcap) keep) := hk
  have HOk : Hid (∀ r ∈ ops, opOk n r = true) := hok
  have hsl := sureN_le ops
  have hmbl := hP.lt
  obtain ⟨m0, hM0, _⟩ := hP
  have HM0 : Hid (MapIs Try.prog 3 w mb m0) := hM0
  clear ho hM0 hlc hkc hk hok
  unfold madeL
  go_enter Try.func56, Try.ntmps56
  go_wp2_with (go_at_call 63; refine hS.mono ?_; rintro e W ⟨rfl, rfl⟩)
  obtain ⟨N, hN⟩ : ∃ N, sureN ops = N := ⟨_, rfl⟩
  rw [hN] at hsl ⊢
  have HN : Hid (sureN ops = N) := hN
  clear hN hS
  go_loopw [12] (fun s12 wx => ∃ j : Nat, j ≤ ops.length ∧ s12 = .int .i64 j ∧ Hid (PtrsAt B wx mb (holdCs c (madeGo keep N 0 (ops.take j)))) ∧ Hid (Fr (fun i => i = mb) W wx)) (fun s12 _ => ops.length - (intOf s12).toNat)
  case atStart => exact ⟨0, by omega, rfl, HP.out, Fr.refl _ _⟩
  case round =>
    obtain ⟨j, hj, rfl, HP1, HF1⟩ := hrel
    clear HP
    by_cases hj2 : (j : Int) < ops.length
    · have hc : ops[j]? = some ops[j] := List.getElem?_eq_getElem (by omega)
      have hOr := HO.out.kept (w' := wr) fun k hk => HF1.out.block k (by omega) (by omega)
      obtain ⟨b, off, rfl, hlt, hC⟩ := hOr (by omega)
      have ht := takeR_snoc hc
      have htl : (ops.take j).length = j := by rw [List.length_take]; omega
      generalize ops[j] = r at hc ht
      have hmem := List.mem_of_getElem? hc
      obtain ⟨q1, q2, q3⟩ := hC j r hc
      have hnx : madeGo keep N 0 (ops.take (j + 1)) = madeGo keep N 0 (ops.take j) ++ (if isMade keep N j r then [(r.pos, r.dat)] else []) := by rw [ht, madeGo_snoc, htl]
      have hlcr : wr.heap[lc]? = some (.cells #[.map (some mb)] 84) := (HF1.out.block lc (Array.getElem?_eq_some_iff.1 HL.out).1 hlcm).trans HL.out
      have hkcr : wr.heap[kc]? = some (.cells #[.slice ka keep.length kcap] 26) := (HF1.out.block kc (Array.getElem?_eq_some_iff.1 HKc.out).1 hkcm).trans HKc.out
      have hkr : BoolsAt wr (.slice ka keep.length kcap) keep := HK.out.kept HF1.out fun b x off hx e => bool_no_map hx HM0.out e
      have HStep : Hid (isMade keep N j r = false → PtrsAt B wr mb (holdCs c (madeGo keep N 0 (ops.take (j + 1))))) := fun e => by
        rw [hnx, e]
        simpa using HP1.out
      have hdo : isMade keep N j r = true → Calls Try.prog 57 #[.pointer (some ⟨b, off + j * 1026, none⟩), .pointer (some ⟨lc, 0, none⟩)] wr fun e w' => e = .returned (.tuple #[]) ∧ PtrsAt B w' mb (holdCs c (madeGo keep N 0 (ops.take (j + 1)))) ∧ Fr (fun i => i = mb) W w' := fun e => by
        have hk1 : r.kind = 1 := by unfold isMade at e; simp at e; exact e.1
        obtain ⟨_, p1, p2⟩ := opOk_write (HOk.out r hmem) (by omega)
        refine (do_any r q2 q3 hlt hBm (inTop_bnd hbn ⟨p1, p2⟩) hlcr HP1.out).mono ?_
        rintro e' w' ⟨h1, h2, h3⟩
        refine ⟨h1, ?_, HF1.out.trans h3 fun _ _ q => q⟩
        rw [hnx, e, if_pos rfl, holdCs_snoc]
        exact h2
      have HDo : Hid (isMade keep N j r = true → Calls Try.prog 57 #[.pointer (some ⟨b, off + j * 1026, none⟩), .pointer (some ⟨lc, 0, none⟩)] wr fun e w' => e = .returned (.tuple #[]) ∧ PtrsAt B w' mb (holdCs c (madeGo keep N 0 (ops.take (j + 1)))) ∧ Fr (fun i => i = mb) W w') := hdo
      have HIM : Hid (isMade keep N j r = (decide (r.kind = 1) && (decide (j < N) || keep.getD (j - N) false))) := rfl
      have hkk := fun hi => kept_any keep ((j : Int) - (N : Int)) hi kc wr hlk hkcr hkr
      clear hdo hOr hC ht htl hnx q2 q3 hmem hc hkr hkcr
      by_cases hr : r.kind = 1
      · rw [hr] at q1
        by_cases hjN : (j : Int) < (N : Int)
        · have hD := HDo.out (by rw [HIM.out, hr]; simp; omega)
          clear hkk
          go_wp2_with (go_at_call 57; fail)
          refine hD.mono ?_
          rintro e W2 ⟨rfl, hP2, hF2⟩
          have HP2 : Hid (PtrsAt B W2 mb (holdCs c (madeGo keep N 0 (ops.take (j + 1))))) := hP2
          have HF2 : Hid (Fr (fun i => i = mb) W W2) := hF2
          clear hP2 hF2 hD
          go_wp2
          exact ⟨⟨j + 1, by omega, by go_num, HP2.out, HF2.out⟩, by simp [intOf]; omega⟩
        · have hK := hkk (by omega)
          have et : ((j : Int) - (N : Int)).toNat = j - N := by omega
          rw [et] at hK
          cases hkv : keep.getD (j - N) false
          · rw [hkv] at hK
            have HS := HStep.out (by rw [HIM.out, hkv]; simp; omega)
            have HP2 : Hid (PtrsAt B wr mb (holdCs c (madeGo keep N 0 (ops.take (j + 1))))) := HS
            clear HS hkk
            go_wp2_with (go_at_call 55; refine hK.mono ?_; rintro e W2 ⟨rfl, he⟩; obtain rfl := he.symm)
            exact ⟨⟨j + 1, by omega, by go_num, HP2.out, HF1.out⟩, by simp [intOf]; omega⟩
          · rw [hkv] at hK
            have hD := HDo.out (by rw [HIM.out, hkv, hr]; simp)
            clear hkk
            go_wp2_with (first | (go_at_call 55; refine hK.mono ?_; rintro e W2 ⟨rfl, he⟩; obtain rfl := he.symm) | (go_at_call 57; fail))
            refine hD.mono ?_
            rintro e W2 ⟨rfl, hP2, hF2⟩
            have HP2 : Hid (PtrsAt B W2 mb (holdCs c (madeGo keep N 0 (ops.take (j + 1))))) := hP2
            have HF2 : Hid (Fr (fun i => i = mb) W W2) := hF2
            clear hP2 hF2 hD
            go_wp2
            exact ⟨⟨j + 1, by omega, by go_num, HP2.out, HF2.out⟩, by simp [intOf]; omega⟩
      · have HS := HStep.out (by rw [HIM.out]; simp [hr])
        have HP2 : Hid (PtrsAt B wr mb (holdCs c (madeGo keep N 0 (ops.take (j + 1))))) := HS
        have hd : decide (r.kind = 1) = false := decide_eq_false hr
        clear HS hkk
        go_wp2
        exact ⟨⟨j + 1, by omega, by go_num, HP2.out, HF1.out⟩, by simp [intOf]; omega⟩
    · obtain rfl : j = ops.length := by omega
      have hP := HP1.out
      rw [List.take_length] at hP
      have HP2 : Hid (PtrsAt B wr mb (holdCs c (madeGo keep N 0 ops))) := hP
      clear hP HP1
      go_wp2
      go_end0
      exact ⟨rfl, by rw [HN.out]; exact HP2.out, HF1.out⟩
end Go.Proofs.Ytbnbbelkddbndaa
