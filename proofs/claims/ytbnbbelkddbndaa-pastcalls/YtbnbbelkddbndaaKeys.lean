import Derived.Test.YtbnbbelkddbndaaAfter
import Derived.Test.YtbnbbelkddbndaaHList
import Derived.Maps.OwnOps
import Derived.Maps.OwnSet
import Derived.DeepKeys4
/- Pending: the places of the pending writes; no condition but a bound on the list's length that no list of this program passes. -/
namespace Go.Proofs.Ytbnbbelkddbndaa
open Go.RowKit Go.Maps
def isWrite (l : List Rec) (j : Nat) : Bool := match l[j]? with
  | some r => decide (r.kind = 1)
  | none => false
/-- The places below i of what is pending. -/
def pendUpto (l : List Rec) (i : Nat) : List Int := ((List.range i).filter fun j => decide (sureN l ≤ j) && isWrite l j).map fun j : Nat => (j : Int)
def pendL (l : List Rec) : List Int := pendUpto l l.length
theorem pendUpto_sure (l : List Rec) : pendUpto l (sureN l) = [] := by
  unfold pendUpto
  have : (List.range (sureN l)).filter (fun j => decide (sureN l ≤ j) && isWrite l j) = [] := by
    rw [List.filter_eq_nil_iff]
    intro j hj
    have := List.mem_range.1 hj
    simp
    omega
  rw [this]
  rfl
theorem pendUpto_next {l : List Rec} {i : Nat} (hi : sureN l ≤ i) : pendUpto l (i + 1) = pendUpto l i ++ (if isWrite l i then [(i : Int)] else []) := by
  unfold pendUpto
  rw [List.range_succ, List.filter_append, List.map_append]
  congr 1
  cases h : isWrite l i <;> simp [h, hi]
theorem pendUpto_len (l : List Rec) (i : Nat) : (pendUpto l i).length ≤ i := by
  unfold pendUpto
  rw [List.length_map]
  exact Nat.le_trans (List.length_filter_le _ _) (by simp)
/-- How many ops are looked at. -/
def upTo (n : Nat) (k : Int) : Nat := min k.toNat n
set_option maxRecDepth 20000 in
set_option maxHeartbeats 1000000 in
theorem pending_any (ops : List Rec) (po : Option Addr) (co : Nat) (k : Int) (w : World) (hlo : ops.length < 68719476736) (ho : OpsAt w po ops) (hco : ops.length ≤ co) :
    Calls Try.prog 27 #[.slice po ops.length co, .int .i64 k] w fun e w' => ∃ v : Value, e = .returned v ∧ w'.ownsRow w.heap.size 3 1 v (pendL (ops.take (upTo ops.length k))).length ((pendL (ops.take (upTo ops.length k))).map (Value.int .i64)) ∧ Below w.heap.size w w' := by
  have hum : upTo ops.length k ≤ ops.length := by unfold upTo; omega
  have hui : ((upTo ops.length k : Nat) : Int) = min (max k 0) ops.length := by unfold upTo; omega
  have htk : (ops.take (upTo ops.length k)).length = upTo ops.length k := by rw [List.length_take]; omega
  have hS := sure_any (ops.take (upTo ops.length k)) po co w (by omega) (ho.take _)
  have HO : Hid (OpsAt w po (ops.take (upTo ops.length k))) := ho.take _
  rw [htk] at hS
  have hsl := sureN_le (ops.take (upTo ops.length k))
  rw [htk] at hsl
  unfold pendL
  rw [htk]
  have hsm := fun u => slice25 po ops.length co (upTo ops.length k) (by omega) u
  obtain ⟨i0, hi0, hz0, hz1, hz2⟩ := info_parts info3b
  clear ho
  generalize ops.take (upTo ops.length k) = fs at *
  obtain ⟨m, hm⟩ : ∃ m, upTo ops.length k = m := ⟨_, rfl⟩
  rw [hm] at hum hui hS hsl hsm htk ⊢
  obtain ⟨N, hN⟩ : ∃ N, sureN fs = N := ⟨_, rfl⟩
  rw [hN] at hS hsl
  have HN : Hid (sureN fs = N) := hN
  have HP0 : Hid (pendUpto fs N = []) := by
    have := pendUpto_sure fs
    rwa [hN] at this
  clear hm hN
  have hcase : (k ≤ 0 ∧ m = 0) ∨ (0 < k ∧ k ≤ ops.length ∧ (m : Int) = k) ∨ (0 < k ∧ (ops.length : Int) < k ∧ m = ops.length) := by omega
  clear hui
  have HO0 : Hid (w.ownsRow w.heap.size 3 1 (.slice none 0 0) (pendUpto fs N).length ((pendUpto fs N).map (Value.int .i64))) := by
    have := World.ownsRow_nil w w.heap.size 3 1
    rw [HP0.out]
    exact this
  have hcase' : (k ≤ 0 ∧ Hid (m = 0)) ∨ (0 < k ∧ k ≤ ops.length ∧ Hid ((m : Int) = k)) ∨ (0 < k ∧ (ops.length : Int) < k ∧ Hid (m = ops.length)) := by
    rcases hcase with ⟨h1, h2⟩ | ⟨h1, h2, h3⟩ | ⟨h1, h2, h3⟩
    · exact .inl ⟨h1, h2⟩
    · exact .inr (.inl ⟨h1, h2, h3⟩)
    · exact .inr (.inr ⟨h1, h2, h3⟩)
  clear hcase hsm HP0
  have HTk : Hid (fs.length = m) := htk
  clear htk
  rcases hcase' with ⟨h1, HC⟩ | ⟨h1, h2, HC⟩ | ⟨h1, h2, HC⟩
  all_goals
    go_enter Try.func27, Try.ntmps27
    go_wp2_with (first | refine wpList_slice25 rfl (.tmp 8) (.tmp 13) rfl po ops.length co m (by omega) rfl (by show Value.int IntKind.i64 _ = _; exact congrArg _ (by have := HC.out; omega)) ?_ | (go_at_call 63; refine hS.mono ?_; rintro e W ⟨rfl, rfl⟩))
    go_loopw [6, 7] (fun s6 s7 wx => ∃ (i : Nat) (v : Value), N ≤ i ∧ i ≤ m ∧ s7 = .int .i64 i ∧ s6 = v ∧ Hid (wx.ownsRow W.heap.size 3 1 v (pendUpto fs i).length ((pendUpto fs i).map (Value.int .i64))) ∧ Hid (Below W.heap.size W wx)) (fun _ s7 _ => m - (intOf s7).toNat)
    case atStart => exact ⟨N, .slice none 0 0, Nat.le_refl _, by omega, rfl, rfl, HO0.out, Below.refl _ _⟩
    case round =>
      obtain ⟨i, v, hi, him, rfl, hv, HW, HB⟩ := hrel
      have hv2 := hv.symm
      subst hv2
      clear HO0
      by_cases hi2 : (i : Int) < m
      · have hl := HTk.out
        have hc : fs[i]? = some fs[i] := List.getElem?_eq_getElem (by omega)
        obtain ⟨b, off, rfl, hlt, hC⟩ := HO.out (by omega)
        generalize fs[i] = r at hc
        obtain ⟨q1, _, _⟩ := (hC.later HB.out hlt) i r hc
        have hnx := pendUpto_next (l := fs) (i := i) (by rw [HN.out]; exact hi)
        have hisw : isWrite fs i = decide (r.kind = 1) := by unfold isWrite; rw [hc]
        rw [hisw] at hnx
        have hpl := pendUpto_len fs i
        clear hl hC hc hisw
        by_cases hr : r.kind = 1
        · rw [hr] at q1
          have hnx' : pendUpto fs (i + 1) = pendUpto fs i ++ [(i : Int)] := by rw [hnx]; simp [hr]
          have HNx : Hid (pendUpto fs (i + 1) = pendUpto fs i ++ [(i : Int)]) := hnx'
          have hown := HW.out
          have hbase := HW.out.lt
          clear hnx hnx' HW
          go_wp2_with (at_builtin; refine wpList_append_own_at _ rfl (.tmp 29) (.tmp 31) 57 rfl W.heap.size 3 i0 (.int .i64 0) 1 8 Try.underlying57 hi0 hz0 hz1 hz2 rfl (by decide) v (pendUpto fs i).length ((pendUpto fs i).map (Value.int .i64)) rfl (hown.alloc _) ⟨wr.heap.size, 0, none⟩ 1 1 [.int .i64 (i : Int)] rfl rfl (cell_one_new _ _ _) (ints_oneCell .i64 [(i : Int)]) (by unfold maxLen; omega) (by omega) (by have := HB.out.size; simp; omega) ?_; intro v' w2 hown2 hg2 hnil hloc)
          have hB2 : Below W.heap.size W w2 := (HB.out.alloc HB.out.size _).grown hg2 (by have := HB.out.size; simp; omega) (fun j hj => (hbase j hj).1)
          refine ⟨⟨i + 1, v', by omega, by omega, by go_num, rfl, ?_, hB2⟩, by simp [intOf]; omega⟩
          rw [HNx.out, List.length_append, List.map_append]
          exact hown2
        · have hnx' : pendUpto fs (i + 1) = pendUpto fs i := by rw [hnx]; simp [hr]
          have HW2 : Hid (wr.ownsRow W.heap.size 3 1 v (pendUpto fs (i + 1)).length ((pendUpto fs (i + 1)).map (Value.int .i64))) := by
            have := HW.out
            rw [hnx']
            exact this
          have hd : decide (r.kind = 1) = false := decide_eq_false hr
          clear hnx hnx' HW
          go_wp2
          exact ⟨⟨i + 1, v, by omega, by omega, by go_num, rfl, HW2.out, HB.out⟩, by simp [intOf]; omega⟩
      · obtain rfl : i = m := by omega
        go_wp2
        go_ret
        exact ⟨v, rfl, HW.out, HB.out⟩
end Go.Proofs.Ytbnbbelkddbndaa
/- sureBlock: what a block is where nothing that is pending is kept; no condition but that lists are not longer than lists can be. -/
namespace Go.Proofs.Ytbnbbelkddbndaa
open Go.RowKit Go.Maps
/-- The last of some blocks that has a number; b, if none has. -/
def lastB (k : Int) (b : Nat → Int) (l : List Cel) : Nat → Int := l.foldl (fun b x => if x.1 = k then x.2 else b) b
theorem lastB_snoc (k : Int) (b : Nat → Int) (l : List Cel) (x : Cel) : lastB k b (l ++ [x]) = if x.1 = k then x.2 else lastB k b l := by simp [lastB]
theorem lastB_append (k : Int) (b : Nat → Int) (l m : List Cel) : lastB k b (l ++ m) = lastB k (lastB k b l) m := by simp [lastB]
theorem lastB_hold (k : Int) : ∀ (l : List Cel) (c : Con), (∀ x ∈ l, Can x.2) → ((holdCs c l) k).getD nought = lastB k ((c k).getD nought) l
  | [], _, _ => rfl
  | x :: t, c, h => by
    show ((holdCs (holdC c x.1 x.2) t) k).getD nought = lastB k (if x.1 = k then x.2 else (c k).getD nought) t
    rw [lastB_hold k t _ fun y hy => h y (List.mem_cons_of_mem _ hy)]
    congr 1
    unfold holdC
    by_cases e : k = x.1
    · rw [if_pos e, if_pos e.symm]
      cases hb : blankB x.2
      · rfl
      · exact ((h x (by simp)).blank.1 hb).symm
    · rw [if_neg e, if_neg fun q => e q.symm]
theorem no_any (i : Int) (w : World) : Calls Try.prog 80 #[.int .i64 i] w fun e w' => e = .returned (.bool false) ∧ w' = w := by
  go_enter Try.func80, Try.ntmps80
  go_wp2
  go_ret
  exact ⟨rfl, rfl⟩
variable {B : Nat} {w w' : World} {b ca cb : Nat} {k : Int}
set_option maxRecDepth 20000 in
theorem put_any (r : Rec) {off : Nat} {g : Nat → Int} (hp : w.cell? ⟨b, off + 1, none⟩ = some (.int .i64 r.pos)) (hd : BlkAt w b (off + 2) r.dat) (hca : w.heap[ca]? = some (.cells #[.int .i64 k] 3)) (hcb : w.heap[cb]? = some (.cells (blk g) 40)) :
    Calls Try.prog 81 #[.pointer (some ⟨b, off, none⟩), .pointer (some ⟨ca, 0, none⟩), .pointer (some ⟨cb, 0, none⟩)] w fun e w' => e = .returned (.tuple #[]) ∧ w'.heap[cb]? = some (.cells (blk (if r.pos = k then r.dat else g)) 40) ∧ Fr (fun i => i = cb) w w' := by
  have c0 : w.cell? ⟨ca, 0, none⟩ = some (.int .i64 k) := Joins.cell_of_block hca 0
  by_cases hk : r.pos = k
  · rw [if_pos hk]
    have hd' : BlkAt (w.drewN 0) b (off + 2) r.dat := hd
    have HA : Hid (∀ q, ((w.drewN q).setRow cb (blk r.dat)).heap[cb]? = some (.cells (blk r.dat) 40) ∧ Fr (fun i => i = cb) w ((w.drewN q).setRow cb (blk r.dat))) := fun q =>
      ⟨setRow_heap _ _ _ _ _ _ (show (w.drewN q).heap[cb]? = _ from hcb), ⟨rfl, rfl, rfl, by simp, fun i _ hi => setRow_other (w.drewN q) cb i _ (by omega)⟩⟩
    have hdq : ∀ q, BlkAt (w.drewN q) b (off + 2) r.dat := fun _ => hd
    have hcq : ∀ q, (w.drewN q).heap[cb]? = some (.cells (blk g) 40) := fun _ => hcb
    rw [hk] at hp
    have g0 : decide (k = k) = true := by simp
    clear hk hd hcb hd'
    go_enter Try.func81, Try.ntmps81
    go_wp2
    go_quiet (fail)
    go_wp2_with (first | refine wpList_loadM rfl _ rfl b (off + 2) rfl r.dat (hdq _) ?_ | refine wpList_store25 rfl _ _ rfl cb r.dat rfl rfl g (hcq _) ?_)
    go_end0
    exact ⟨rfl, (HA.out _).1, (HA.out _).2⟩
  · rw [if_neg hk]
    have g0 : decide (r.pos = k) = false := decide_eq_false hk
    have HA : Hid (∀ q, (w.drewN q).heap[cb]? = some (.cells (blk g) 40) ∧ Fr (fun i => i = cb) w (w.drewN q)) := fun q => ⟨hcb, ⟨rfl, rfl, rfl, Nat.le_refl _, fun _ _ _ => rfl⟩⟩
    clear hcb hd
    go_enter Try.func81, Try.ntmps81
    go_wp2
    go_quiet (fail)
    go_wp2
    go_end0
    exact ⟨rfl, (HA.out _).1, (HA.out _).2⟩
set_option maxRecDepth 20000 in
set_option maxHeartbeats 1000000 in
theorem each_sure {ops : List Rec} {po : Option Addr} {co : Nat} {g : Nat → Int} (ho : OpsIn B w po ops) (hBw : B ≤ w.heap.size) (hBc : B ≤ cb) (hca : w.heap[ca]? = some (.cells #[.int .i64 k] 3)) (hcb : w.heap[cb]? = some (.cells (blk g) 40)) (hlo : ops.length < 9223372036854775807) :
    Calls Try.prog 56 #[.slice po ops.length co, .func (.func 80) #[] #[], .func (.func 81) #[] #[.pointer (some ⟨ca, 0, none⟩), .pointer (some ⟨cb, 0, none⟩)]] w fun e w' => e = .returned (.tuple #[]) ∧ w'.heap[cb]? = some (.cells (blk (lastB k g (madeL [] ops))) 40) ∧ Fr (fun i => i = cb) w w' := by
  have hS := sure_any ops po co w hlo (ho.at hBw)
  have hne : ca ≠ cb := fun e => by
    rw [e, hcb] at hca
    injection hca with h1
    injection h1 with _ h2
    cases h2
  have HO : Hid (OpsIn B w po ops) := ho
  have HCa : Hid (w.heap[ca]? = some (.cells #[.int .i64 k] 3)) := hca
  have HCb : Hid (w.heap[cb]? = some (.cells (blk g) 40)) := hcb
  have hcal : ca < w.heap.size := (Array.getElem?_eq_some_iff.1 hca).1
  have hsl := sureN_le ops
  clear ho hca hcb
  unfold madeL
  go_enter Try.func56, Try.ntmps56
  go_wp2_with (go_at_call 63; refine hS.mono ?_; rintro e W ⟨rfl, rfl⟩)
  obtain ⟨N, hN⟩ : ∃ N, sureN ops = N := ⟨_, rfl⟩
  rw [hN] at hsl ⊢
  have HN : Hid (sureN ops = N) := hN
  clear hN hS
  go_loopw [12] (fun s12 wx => ∃ j : Nat, j ≤ ops.length ∧ s12 = .int .i64 j ∧ Hid (wx.heap[cb]? = some (.cells (blk (lastB k g (madeGo [] N 0 (ops.take j)))) 40)) ∧ Hid (Fr (fun i => i = cb) W wx)) (fun s12 _ => ops.length - (intOf s12).toNat)
  case atStart => exact ⟨0, by omega, rfl, HCb.out, Fr.refl _ _⟩
  case round =>
    obtain ⟨j, hj, rfl, HP1, HF1⟩ := hrel
    clear HCb
    by_cases hj2 : (j : Int) < ops.length
    · have hc : ops[j]? = some ops[j] := List.getElem?_eq_getElem (by omega)
      have hOr := HO.out.kept (w' := wr) fun k hk => HF1.out.block k (by omega) (by omega)
      obtain ⟨b, off, rfl, hlt, hC⟩ := hOr (by omega)
      have ht := takeR_snoc hc
      have htl : (ops.take j).length = j := by rw [List.length_take]; omega
      generalize ops[j] = r at hc ht
      obtain ⟨q1, q2, q3⟩ := hC j r hc
      have hnx : madeGo [] N 0 (ops.take (j + 1)) = madeGo [] N 0 (ops.take j) ++ (if isMade [] N j r then [(r.pos, r.dat)] else []) := by rw [ht, madeGo_snoc, htl]
      have hcar : wr.heap[ca]? = some (.cells #[.int .i64 k] 3) := (HF1.out.block ca hcal hne).trans HCa.out
      have HStep : Hid (isMade [] N j r = false → wr.heap[cb]? = some (.cells (blk (lastB k g (madeGo [] N 0 (ops.take (j + 1))))) 40)) := fun e => by
        rw [hnx, e]
        simpa using HP1.out
      have hdo : isMade [] N j r = true → Calls Try.prog 81 #[.pointer (some ⟨b, off + j * 1026, none⟩), .pointer (some ⟨ca, 0, none⟩), .pointer (some ⟨cb, 0, none⟩)] wr fun e w' => e = .returned (.tuple #[]) ∧ w'.heap[cb]? = some (.cells (blk (lastB k g (madeGo [] N 0 (ops.take (j + 1))))) 40) ∧ Fr (fun i => i = cb) W w' := fun e => by
        refine (put_any r q2 q3 hcar HP1.out).mono ?_
        rintro e' w' ⟨h1, h2, h3⟩
        refine ⟨h1, ?_, HF1.out.trans h3 fun _ _ q => q⟩
        rw [hnx, e, if_pos rfl, lastB_snoc]
        exact h2
      have HDo : Hid (isMade [] N j r = true → Calls Try.prog 81 #[.pointer (some ⟨b, off + j * 1026, none⟩), .pointer (some ⟨ca, 0, none⟩), .pointer (some ⟨cb, 0, none⟩)] wr fun e w' => e = .returned (.tuple #[]) ∧ w'.heap[cb]? = some (.cells (blk (lastB k g (madeGo [] N 0 (ops.take (j + 1))))) 40) ∧ Fr (fun i => i = cb) W w') := hdo
      have HIM : Hid (isMade [] N j r = (decide (r.kind = 1) && decide (j < N))) := by
        have e : isMade [] N j r = (decide (r.kind = 1) && decide (j < N)) := by unfold isMade; simp
        exact e
      clear hdo hOr hC ht htl hnx q2 q3 hc hcar
      by_cases hr : r.kind = 1
      · rw [hr] at q1
        by_cases hjN : (j : Int) < (N : Int)
        · have hD := HDo.out (by rw [HIM.out, hr]; simp; omega)
          go_wp2_with (go_at_call 81; fail)
          refine hD.mono ?_
          rintro e W2 ⟨rfl, hP2, hF2⟩
          have HP2 : Hid (W2.heap[cb]? = some (.cells (blk (lastB k g (madeGo [] N 0 (ops.take (j + 1))))) 40)) := hP2
          have HF2 : Hid (Fr (fun i => i = cb) W W2) := hF2
          clear hP2 hF2 hD
          go_wp2
          exact ⟨⟨j + 1, by omega, by go_num, HP2.out, HF2.out⟩, by simp [intOf]; omega⟩
        · have hK := no_any ((j : Int) - (N : Int)) wr
          have HP2 : Hid (wr.heap[cb]? = some (.cells (blk (lastB k g (madeGo [] N 0 (ops.take (j + 1))))) 40)) := HStep.out (by rw [HIM.out]; simp; omega)
          clear HP1
          go_wp2_with (go_at_call 80; refine hK.mono ?_; rintro e W2 ⟨rfl, he⟩; obtain rfl := he.symm)
          exact ⟨⟨j + 1, by omega, by go_num, HP2.out, HF1.out⟩, by simp [intOf]; omega⟩
      · have HP2 : Hid (wr.heap[cb]? = some (.cells (blk (lastB k g (madeGo [] N 0 (ops.take (j + 1))))) 40)) := HStep.out (by rw [HIM.out]; simp [hr])
        have hd : decide (r.kind = 1) = false := decide_eq_false hr
        clear HP1
        go_wp2
        exact ⟨⟨j + 1, by omega, by go_num, HP2.out, HF1.out⟩, by simp [intOf]; omega⟩
    · obtain rfl : j = ops.length := by omega
      have hP := HP1.out
      rw [List.take_length] at hP
      have HP2 : Hid (wr.heap[cb]? = some (.cells (blk (lastB k g (madeGo [] N 0 ops))) 40)) := hP
      clear hP HP1
      go_wp2
      go_end0
      exact ⟨rfl, by rw [HN.out]; exact HP2.out, HF1.out⟩
end Go.Proofs.Ytbnbbelkddbndaa
/- sureBlock: the walk. -/
namespace Go.Proofs.Ytbnbbelkddbndaa
open Go.RowKit Go.Maps
set_option maxRecDepth 20000 in
set_option maxHeartbeats 1000000 in
theorem sureBlock_of (n : Int) (l : List Cel) (p : Option Addr) (cap : Nat) (ops : List Rec) (po : Option Addr) (co : Nat) (k : Int) (w : World) (hl : l.length < 9223372036854775807) (h : ImgAt w p l) (hlo : ops.length < 9223372036854775807) (ho : OpsAt w po ops) :
    Calls Try.prog 62 #[.agg #[.int .i64 n, .slice p l.length cap], .slice po ops.length co, .int .i64 k] w fun e w' => e = .returned (.agg (blk (lastB k nought (l ++ madeL [] ops)))) ∧ Below w.heap.size w w' := by
  rw [lastB_append]
  obtain ⟨N, hz, eN⟩ : ∃ N, (∀ w : World, (zeroValue 40).run Try.prog w = .ok (.agg (blk N)) w) ∧ N = nought := ⟨nought, zero25, rfl⟩
  rw [← eN]
  clear eN
  obtain ⟨W0, hW0⟩ : ∃ W0, W0 = (((w.alloc (.cells #[.int .i64 n, .slice p l.length cap] 24)).alloc (.cells #[.int .i64 k] 3)).alloc (.cells (blk N) 40)).alloc (.cells (blk N) 40) := ⟨_, rfl⟩
  have hB : Below w.heap.size w W0 := by
    rw [hW0]
    exact (((((Below.refl _ _).alloc (Nat.le_refl _) _).alloc (by simp) _).alloc (by simp; omega) _).alloc (by simp; omega) _)
  have hs : W0.heap.size = w.heap.size + 4 := by rw [hW0]; simp
  have s1 : (w.alloc (.cells #[.int .i64 n, .slice p l.length cap] 24)).heap.size = w.heap.size + 1 := by simp
  have s2 : ((w.alloc (.cells #[.int .i64 n, .slice p l.length cap] 24)).alloc (.cells #[.int .i64 k] 3)).heap.size = w.heap.size + 2 := by simp
  have s3 : (((w.alloc (.cells #[.int .i64 n, .slice p l.length cap] 24)).alloc (.cells #[.int .i64 k] 3)).alloc (.cells (blk N) 40)).heap.size = w.heap.size + 3 := by simp
  have hI : W0.heap[w.heap.size]? = some (.cells #[.int .i64 n, .slice p l.length cap] 24) := by
    rw [hW0]
    exact heap_kept (heap_kept (heap_kept (heap_alloc_new w _) (below_new _ _)) (below_new _ _)) (below_new _ _)
  have hA : W0.heap[w.heap.size + 1]? = some (.cells #[.int .i64 k] 3) := by
    rw [hW0]
    have := heap_alloc_new (w.alloc (.cells #[.int .i64 n, .slice p l.length cap] 24)) (.cells #[.int .i64 k] 3)
    rw [s1] at this
    exact heap_kept (heap_kept this (below_new _ _)) (below_new _ _)
  have hR : W0.heap[w.heap.size + 2]? = some (.cells (blk N) 40) := by
    rw [hW0]
    have := heap_alloc_new ((w.alloc (.cells #[.int .i64 n, .slice p l.length cap] 24)).alloc (.cells #[.int .i64 k] 3)) (.cells (blk N) 40)
    rw [s2] at this
    exact heap_kept this (below_new _ _)
  have hC : W0.heap[w.heap.size + 3]? = some (.cells (blk N) 40) := by
    rw [hW0]
    have := heap_alloc_new (((w.alloc (.cells #[.int .i64 n, .slice p l.length cap] 24)).alloc (.cells #[.int .i64 k] 3)).alloc (.cells (blk N) 40)) (.cells (blk N) 40)
    rw [s3] at this
    exact this
  have HI : Hid (ImgAt w p l) := h
  have HO : Hid (OpsAt w po ops) := ho
  have HB : Hid (Below w.heap.size w W0) := hB
  have HIm : Hid (W0.heap[w.heap.size]? = some (.cells #[.int .i64 n, .slice p l.length cap] 24)) := hI
  have HA : Hid (W0.heap[w.heap.size + 1]? = some (.cells #[.int .i64 k] 3)) := hA
  have HRs : Hid (W0.heap[w.heap.size + 2]? = some (.cells (blk N) 40)) := hR
  have HC : Hid (W0.heap[w.heap.size + 3]? = some (.cells (blk N) 40)) := hC
  have i1 : W0.cell? ⟨w.heap.size, 1, none⟩ = some (.slice p l.length cap) := Joins.cell_of_block hI 1
  clear h ho hB hI hA hR hC s1 s2 s3
  go_enter Try.func62, Try.ntmps62
  go_wp2_with (fail)
  rw [← hW0]
  go_wp2
  clear hW0 hz
  go_loopw [13] (fun s13 wx => ∃ j : Nat, j ≤ l.length ∧ s13 = .int .i64 j ∧ Hid (wx.heap[w.heap.size + 3]? = some (.cells (blk (lastB k N (l.take j))) 40)) ∧ Hid (Fr (fun i => i = w.heap.size + 3) W0 wx)) (fun s13 _ => l.length - (intOf s13).toNat)
  case atStart => exact ⟨0, by omega, rfl, HC.out, Fr.refl _ _⟩
  case round =>
    obtain ⟨j, hj, rfl, HP1, HF1⟩ := hrel
    clear HC i1
    have hIr : wr.heap[w.heap.size]? = some (.cells #[.int .i64 n, .slice p l.length cap] 24) := (HF1.out.block _ (by omega) (by omega)).trans HIm.out
    have hAr : wr.heap[w.heap.size + 1]? = some (.cells #[.int .i64 k] 3) := (HF1.out.block _ (by omega) (by omega)).trans HA.out
    have i1 : wr.cell? ⟨w.heap.size, 1, none⟩ = some (.slice p l.length cap) := Joins.cell_of_block hIr 1
    have a0 : wr.cell? ⟨w.heap.size + 1, 0, none⟩ = some (.int .i64 k) := Joins.cell_of_block hAr 0
    have hBr : Below w.heap.size w wr := HB.out.trans (HF1.out.below (fun i hi => by omega) (by omega))
    by_cases hj2 : (j : Int) < l.length
    · have hc : l[j]? = some l[j] := List.getElem?_eq_getElem (by omega)
      obtain ⟨b, off, rfl, hlt, hCl⟩ := HI.out (by omega)
      have ht := take_snoc hc
      generalize l[j] = c at hc ht
      obtain ⟨q1, q2⟩ := (hCl.later hBr hlt) j c hc
      by_cases hk : c.1 = k
      · have HN : Hid (∀ q, ((wr.drewN q).setRow (w.heap.size + 3) (blk c.2)).heap[w.heap.size + 3]? = some (.cells (blk (lastB k N (l.take (j + 1)))) 40) ∧ Fr (fun i => i = w.heap.size + 3) W0 ((wr.drewN q).setRow (w.heap.size + 3) (blk c.2))) := fun q => by
          refine ⟨?_, HF1.out.trans ⟨rfl, rfl, rfl, by simp, fun i _ hi => setRow_other (wr.drewN q) _ i _ (by omega)⟩ fun _ _ q => q⟩
          rw [ht, lastB_snoc, if_pos hk]
          exact setRow_heap _ _ _ _ _ _ (show (wr.drewN q).heap[w.heap.size + 3]? = _ from HP1.out)
        have q2q : ∀ q, BlkAt (wr.drewN q) b (off + j * 1025 + 1) c.2 := fun _ => q2
        have hPq : ∀ q, (wr.drewN q).heap[w.heap.size + 3]? = some (.cells (blk (lastB k N (l.take j))) 40) := fun _ => HP1.out
        have i1q : ∀ q, (wr.drewN q).cell? ⟨w.heap.size, 1, none⟩ = some (.slice (some ⟨b, off, none⟩) l.length cap) := fun _ => i1
        rw [hk] at q1
        have g0 : decide (k = k) = true := by simp
        clear hk q2 HP1 HF1 hBr hCl ht hc hIr hAr
        go_wp2
        go_quiet (fail)
        go_wp2_with (first | refine wpList_loadM rfl _ rfl b (off + j * 1025 + 1) rfl c.2 (q2q _) ?_ | refine wpList_store25 rfl _ _ rfl (w.heap.size + 3) c.2 rfl rfl _ (hPq _) ?_)
        exact ⟨⟨j + 1, by omega, by go_num, (HN.out _).1, (HN.out _).2⟩, by simp [intOf]; omega⟩
      · have HN : Hid (wr.heap[w.heap.size + 3]? = some (.cells (blk (lastB k N (l.take (j + 1)))) 40)) := by
          rw [ht, lastB_snoc, if_neg hk]
          exact HP1.out
        have HF2 : Hid (∀ q, Fr (fun i => i = w.heap.size + 3) W0 (wr.drewN q)) := fun q => HF1.out.trans ⟨rfl, rfl, rfl, Nat.le_refl _, fun _ _ _ => rfl⟩ fun _ _ q => q
        have g0 : decide (c.1 = k) = false := decide_eq_false hk
        clear q2 HP1 HF1 hBr hCl ht hc hIr hAr
        go_wp2
        go_quiet (fail)
        go_wp2
        exact ⟨⟨j + 1, by omega, by go_num, HN.out, HF2.out _⟩, by simp [intOf]; omega⟩
    · obtain rfl : j = l.length := by omega
      have hP := HP1.out
      rw [List.take_length] at hP
      have hE := each_sure (B := w.heap.size) (w := wr) (ca := w.heap.size + 1) (cb := w.heap.size + 3) (k := k) (ops := ops) (po := po) (co := co) (g := lastB k N l)
        (OpsIn.kept (w := w) HO.out.toIn fun i hi => hBr.block i hi) hBr.size (by omega) hAr hP hlo
      have hRr : wr.heap[w.heap.size + 2]? = some (.cells (blk N) 40) := (HF1.out.block _ (by omega) (by omega)).trans HRs.out
      have HBr : Hid (Below w.heap.size w wr) := hBr
      have HRr : Hid (wr.heap[w.heap.size + 2]? = some (.cells (blk N) 40)) := hRr
      have hws : w.heap.size + 4 ≤ wr.heap.size := by have := HF1.out.size; omega
      clear hP HP1 HF1 hIr hAr hBr hRr i1 a0
      go_wp2_with (go_at_call 56; fail)
      refine hE.mono ?_
      rintro e W2 ⟨rfl, hP2, hF2⟩
      have hR2 : W2.heap[w.heap.size + 2]? = some (.cells (blk N) 40) := (hF2.block _ (by omega) (by omega)).trans HRr.out
      have HB2 : Hid (Below w.heap.size w W2) := HBr.out.trans (hF2.below (fun i hi => by omega) HBr.out.size)
      clear hE hF2
      go_wp2_with (first | refine wpList_load25 rfl _ rfl (w.heap.size + 3) rfl _ hP2 ?_ | refine wpList_store25 rfl _ _ rfl (w.heap.size + 2) _ rfl rfl _ hR2 ?_)
      exact ret25 rfl (w.heap.size + 2) _ rfl (setRow_heap _ _ _ _ _ _ hR2) rfl ⟨rfl, below_setRow HB2.out (by omega) _⟩
end Go.Proofs.Ytbnbbelkddbndaa
/- Blocks with their numbers as keys of a map; no condition but that the numbers are ints and the bytes bytes. -/
namespace Go.Proofs.Ytbnbbelkddbndaa
open Go.RowKit Go.Maps
theorem row44 : (44 : TypeId) < Try.prog.types.size := of_decide_eq_true (by kernel_rfl)
theorem laidOut44 : laidOutB Try.prog = true := by kernel_rfl
theorem at44 : Try.prog.keyTypeAt 3 44 = true := by kernel_rfl
theorem keyed44 : Keyed Try.prog 44 := Keyed.of_law (deep_law_laid laidOut44 (m := 3) (by omega) row44 at44 (by rw [Try.underlying44]))
theorem types_size : Try.prog.types.size = 155 := by kernel_rfl
theorem keyType44 : Try.prog.keyType 44 = true := by kernel_rfl
theorem cells44 : Try.prog.cellsOf 44 = 1025 := by kernel_rfl
theorem cells40 : Try.prog.cellsOf 40 = 1024 := by kernel_rfl
theorem cells5 : Try.prog.cellsOf 5 = 1 := by kernel_rfl
theorem cells3 : Try.prog.cellsOf 3 = 1 := by kernel_rfl
theorem mapM_some {α β : Type} (g : α → Option β) : ∀ l : List α, (∀ x ∈ l, ∃ y, g x = some y) → ∃ ys, l.mapM g = some ys
  | [], _ => ⟨[], rfl⟩
  | x :: t, h => by
    obtain ⟨y, hy⟩ := h x (by simp)
    obtain ⟨ys, hys⟩ := mapM_some g t fun z hz => h z (List.mem_cons_of_mem _ hz)
    exact ⟨y :: ys, by simp [List.mapM_cons, hy, hys]⟩
theorem lits40 (d : Nat) {f : Nat → Int} (hf : Can f) : ∃ ls, Try.prog.keyLits (d + 1 + 1) 40 (blk f).toList = some ls := by
  unfold Program.keyLits
  rw [Try.underlying40]
  simp only [cells40, cells5, blk_list_len, if_true]
  obtain ⟨ys, hys⟩ := mapM_some (fun i => Try.prog.keyLits (d + 1) 5 (((blk f).toList.drop (i * 1)).take 1)) (List.range 1024) fun i hi => by
    have hi' := List.mem_range.1 hi
    have hg : (blk f).toList[i]? = some (.int .u8 (f i)) := by rw [Array.getElem?_toList]; exact blk_get f i hi'
    have e : ((blk f).toList.drop (i * 1)).take 1 = [.int .u8 (f i)] := by
      obtain ⟨h1, h2⟩ := List.getElem?_eq_some_iff.1 hg
      rw [Nat.mul_one, List.drop_eq_getElem_cons h1, List.take_succ_cons, List.take_zero, h2]
    rw [e]
    unfold Program.keyLits
    rw [Try.underlying5]
    have hw : (Lit.int .u8 (f i)).wf = true := by
      have := hf.1 i
      exact WalkArith.wf_u8 (by omega)
    simp [hw]
  exact ⟨ys.flatten, by rw [hys]; rfl⟩
theorem key44 {c : Cel} (hc : Can c.2) (hi : (Lit.int .i64 c.1).wf = true) : ∃ kl, keyOf Try.prog 44 (.agg (celRow c).toArray) = some kl := by
  have hfm : (Value.agg (celRow c).toArray).formed Try.prog 44 = true := by
    have := celRow_len c
    generalize celRow c = R at *
    simp [Value.formed, cells44, this]
  have hl : ∃ ls, Try.prog.keyLits (Try.prog.types.size + 1) 44 (celRow c) = some ls := by
    obtain ⟨ls, hls⟩ := lits40 153 hc
    rw [types_size]
    have hf := fields44
    unfold Program.keyLits
    rw [under44]
    have hlen := celRow_len c
    generalize Try.prog.fieldsOf 44 = fs at *
    obtain ⟨fl⟩ := fs
    obtain ⟨f1, f2, rfl⟩ : ∃ f1 f2, fl = [f1, f2] := by
      have hl : fl.length = 2 := by have := congrArg List.length hf; simpa using this
      rcases fl with _ | ⟨f1, _ | ⟨f2, _ | ⟨f3, t⟩⟩⟩
      · simp at hl
      · simp at hl
      · exact ⟨f1, f2, rfl⟩
      · simp at hl
    simp only [List.map_cons, List.map_nil, List.cons.injEq, Prod.mk.injEq] at hf
    obtain ⟨⟨n1, t1, o1⟩, ⟨n2, t2, o2⟩, _⟩ := hf
    have e1 : (celRow c).take 1 = [.int .i64 c.1] := rfl
    have hls' : Try.prog.keyLits 155 40 (blk c.2).toList = some ls := hls
    have e2 : (celRow c).tail.take 1024 = (blk c.2).toList := by
      show ((blk c.2).toList).take 1024 = _
      exact List.take_of_length_le (by rw [blk_list_len]; omega)
    have k1 : Try.prog.keyLits 155 3 [.int .i64 c.1] = some [.int .i64 c.1] := by
      unfold Program.keyLits
      rw [Try.underlying3]
      simp [hi]
    generalize celRow c = R at *
    simp only [hlen, cells44]
    refine ⟨[.int .i64 c.1] ++ ls, ?_⟩
    simp [n1, n2, t1, t2, o1, o2, cells3, cells40, e1, e2, k1, hls', List.mapM_cons]
  obtain ⟨ls, hls⟩ := hl
  refine ⟨.string (keyBytes ls), ?_⟩
  unfold keyOf
  rw [under44]
  simp only [keyType44, hfm, Bool.and_self, if_true]
  show Option.map _ (Try.prog.keyLits (Try.prog.types.size + 1) 44 (celRow c).toArray.toList) = _
  rw [List.toList_toArray, hls]
  rfl
end Go.Proofs.Ytbnbbelkddbndaa
