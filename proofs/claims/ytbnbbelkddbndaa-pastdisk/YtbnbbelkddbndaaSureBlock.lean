/- sureBlock: what a block is where nothing that is pending is kept; no condition but that lists are not longer than lists can be. -/
import Derived.Test.YtbnbbelkddbndaaPlaces
namespace Go.Proofs.Ytbnbbelkddbndaa
open Go.RowKit Go.Maps
/-- The last of some blocks that has a number; b, if none has. -/
def lastB (k : Int) (b : Nat → Int) (l : List Cel) : Nat → Int := l.foldl (fun b x => if x.1 = k then x.2 else b) b
theorem lastB_snoc (k : Int) (b : Nat → Int) (l : List Cel) (x : Cel) : lastB k b (l ++ [x]) = if x.1 = k then x.2 else lastB k b l := by simp [lastB]
theorem lastB_append (k : Int) (b : Nat → Int) (l m : List Cel) : lastB k b (l ++ m) = lastB k (lastB k b l) m := by simp [lastB]
theorem lastB_hold (k : Int) : ∀ (l : List Cel) (c : Con), (∀ x ∈ l, Can x.2) → ((holdCs c l) k).getD nought = lastB k ((c k).getD nought) l
  | [], _, _ => rfl
  | x :: t, c, h => by
    show ((holdCs (holdC c x.1 x.2) t) k).getD nought = lastB k (if x.1 = k then x.2 else (c k).getD nought) t
    rw [lastB_hold k t _ fun y hy => h y (List.mem_cons_of_mem _ hy)]
    congr 1
    unfold holdC
    by_cases e : k = x.1
    · rw [if_pos e, if_pos e.symm]
      cases hb : blankB x.2
      · rfl
      · exact ((h x (by simp)).blank.1 hb).symm
    · rw [if_neg e, if_neg fun q => e q.symm]
theorem no_any (i : Int) (w : World) : Calls Try.prog 80 #[.int .i64 i] w fun e w' => e = .returned (.bool false) ∧ w' = w := by
  go_enter Try.func80, Try.ntmps80
  go_wp2
  go_ret
  exact ⟨rfl, rfl⟩
variable {B : Nat} {w w' : World} {b ca cb : Nat} {k : Int}
set_option maxRecDepth 20000 in
theorem put_any (r : Rec) {off : Nat} {g : Nat → Int} (hp : w.cell? ⟨b, off + 1, none⟩ = some (.int .i64 r.pos)) (hd : BlkAt w b (off + 2) r.dat) (hca : w.heap[ca]? = some (.cells #[.int .i64 k] 3)) (hcb : w.heap[cb]? = some (.cells (blk g) 40)) :
    Calls Try.prog 81 #[.pointer (some ⟨b, off, none⟩), .pointer (some ⟨ca, 0, none⟩), .pointer (some ⟨cb, 0, none⟩)] w fun e w' => e = .returned (.tuple #[]) ∧ w'.heap[cb]? = some (.cells (blk (if r.pos = k then r.dat else g)) 40) ∧ Fr (fun i => i = cb) w w' := by
  have c0 : w.cell? ⟨ca, 0, none⟩ = some (.int .i64 k) := Joins.cell_of_block hca 0
  by_cases hk : r.pos = k
  · rw [if_pos hk]
    have hd' : BlkAt (w.drewN 0) b (off + 2) r.dat := hd
    have HA : Hid (∀ q, ((w.drewN q).setRow cb (blk r.dat)).heap[cb]? = some (.cells (blk r.dat) 40) ∧ Fr (fun i => i = cb) w ((w.drewN q).setRow cb (blk r.dat))) := fun q =>
      ⟨setRow_heap _ _ _ _ _ _ (show (w.drewN q).heap[cb]? = _ from hcb), ⟨rfl, rfl, rfl, by simp, fun i _ hi => setRow_other (w.drewN q) cb i _ (by omega)⟩⟩
    have hdq : ∀ q, BlkAt (w.drewN q) b (off + 2) r.dat := fun _ => hd
    have hcq : ∀ q, (w.drewN q).heap[cb]? = some (.cells (blk g) 40) := fun _ => hcb
    rw [hk] at hp
    have g0 : decide (k = k) = true := by simp
    clear hk hd hcb hd'
    go_enter Try.func81, Try.ntmps81
    go_wp2
    go_quiet (fail)
    go_wp2_with (first | refine wpList_loadM rfl _ rfl b (off + 2) rfl r.dat (hdq _) ?_ | refine wpList_store25 rfl _ _ rfl cb r.dat rfl rfl g (hcq _) ?_)
    go_end0
    exact ⟨rfl, (HA.out _).1, (HA.out _).2⟩
  · rw [if_neg hk]
    have g0 : decide (r.pos = k) = false := decide_eq_false hk
    have HA : Hid (∀ q, (w.drewN q).heap[cb]? = some (.cells (blk g) 40) ∧ Fr (fun i => i = cb) w (w.drewN q)) := fun q => ⟨hcb, ⟨rfl, rfl, rfl, Nat.le_refl _, fun _ _ _ => rfl⟩⟩
    clear hcb hd
    go_enter Try.func81, Try.ntmps81
    go_wp2
    go_quiet (fail)
    go_wp2
    go_end0
    exact ⟨rfl, (HA.out _).1, (HA.out _).2⟩
set_option maxRecDepth 20000 in
set_option maxHeartbeats 1000000 in
theorem each_sure {ops : List Rec} {po : Option Addr} {co : Nat} {g : Nat → Int} (ho : OpsIn B w po ops) (hBw : B ≤ w.heap.size) (hBc : B ≤ cb) (hca : w.heap[ca]? = some (.cells #[.int .i64 k] 3)) (hcb : w.heap[cb]? = some (.cells (blk g) 40)) (hlo : ops.length < 9223372036854775807) :
    Calls Try.prog 56 #[.slice po ops.length co, .func (.func 80) #[] #[], .func (.func 81) #[] #[.pointer (some ⟨ca, 0, none⟩), .pointer (some ⟨cb, 0, none⟩)]] w fun e w' => e = .returned (.tuple #[]) ∧ w'.heap[cb]? = some (.cells (blk (lastB k g (madeL [] ops))) 40) ∧ Fr (fun i => i = cb) w w' := by
  have hS := sure_any ops po co w hlo (ho.at hBw)
  have hne : ca ≠ cb := fun e => by
    rw [e, hcb] at hca
    injection hca with h1
    injection h1 with _ h2
    cases h2
  have HO : Hid (OpsIn B w po ops) := ho
  have HCa : Hid (w.heap[ca]? = some (.cells #[.int .i64 k] 3)) := hca
  have HCb : Hid (w.heap[cb]? = some (.cells (blk g) 40)) := hcb
  have hcal : ca < w.heap.size := (Array.getElem?_eq_some_iff.1 hca).1
  have hsl := sureN_le ops
  clear ho hca hcb
  unfold madeL
  go_enter Try.func56, Try.ntmps56
  go_wp2_with (go_at_call 63; refine hS.mono ?_; rintro e W ⟨rfl, rfl⟩)
  obtain ⟨N, hN⟩ : ∃ N, sureN ops = N := ⟨_, rfl⟩
  rw [hN] at hsl ⊢
  have HN : Hid (sureN ops = N) := hN
  clear hN hS
  go_loopw [12] (fun s12 wx => ∃ j : Nat, j ≤ ops.length ∧ s12 = .int .i64 j ∧ Hid (wx.heap[cb]? = some (.cells (blk (lastB k g (madeGo [] N 0 (ops.take j)))) 40)) ∧ Hid (Fr (fun i => i = cb) W wx)) (fun s12 _ => ops.length - (intOf s12).toNat)
  case atStart => exact ⟨0, by omega, rfl, HCb.out, Fr.refl _ _⟩
  case round =>
    obtain ⟨j, hj, rfl, HP1, HF1⟩ := hrel
    clear HCb
    by_cases hj2 : (j : Int) < ops.length
    · have hc : ops[j]? = some ops[j] := List.getElem?_eq_getElem (by omega)
      have hOr := HO.out.kept (w' := wr) fun k hk => HF1.out.block k (by omega) (by omega)
      obtain ⟨b, off, rfl, hlt, hC⟩ := hOr (by omega)
      have ht := takeR_snoc hc
      have htl : (ops.take j).length = j := by rw [List.length_take]; omega
      generalize ops[j] = r at hc ht
      obtain ⟨q1, q2, q3⟩ := hC j r hc
      have hnx : madeGo [] N 0 (ops.take (j + 1)) = madeGo [] N 0 (ops.take j) ++ (if isMade [] N j r then [(r.pos, r.dat)] else []) := by rw [ht, madeGo_snoc, htl]
      have hcar : wr.heap[ca]? = some (.cells #[.int .i64 k] 3) := (HF1.out.block ca hcal hne).trans HCa.out
      have HStep : Hid (isMade [] N j r = false → wr.heap[cb]? = some (.cells (blk (lastB k g (madeGo [] N 0 (ops.take (j + 1))))) 40)) := fun e => by
        rw [hnx, e]
        simpa using HP1.out
      have hdo : isMade [] N j r = true → Calls Try.prog 81 #[.pointer (some ⟨b, off + j * 1026, none⟩), .pointer (some ⟨ca, 0, none⟩), .pointer (some ⟨cb, 0, none⟩)] wr fun e w' => e = .returned (.tuple #[]) ∧ w'.heap[cb]? = some (.cells (blk (lastB k g (madeGo [] N 0 (ops.take (j + 1))))) 40) ∧ Fr (fun i => i = cb) W w' := fun e => by
        refine (put_any r q2 q3 hcar HP1.out).mono ?_
        rintro e' w' ⟨h1, h2, h3⟩
        refine ⟨h1, ?_, HF1.out.trans h3 fun _ _ q => q⟩
        rw [hnx, e, if_pos rfl, lastB_snoc]
        exact h2
      have HDo : Hid (isMade [] N j r = true → Calls Try.prog 81 #[.pointer (some ⟨b, off + j * 1026, none⟩), .pointer (some ⟨ca, 0, none⟩), .pointer (some ⟨cb, 0, none⟩)] wr fun e w' => e = .returned (.tuple #[]) ∧ w'.heap[cb]? = some (.cells (blk (lastB k g (madeGo [] N 0 (ops.take (j + 1))))) 40) ∧ Fr (fun i => i = cb) W w') := hdo
      have HIM : Hid (isMade [] N j r = (decide (r.kind = 1) && decide (j < N))) := by
        have e : isMade [] N j r = (decide (r.kind = 1) && decide (j < N)) := by unfold isMade; simp
        exact e
      clear hdo hOr hC ht htl hnx q2 q3 hc hcar
      by_cases hr : r.kind = 1
      · rw [hr] at q1
        by_cases hjN : (j : Int) < (N : Int)
        · have hD := HDo.out (by rw [HIM.out, hr]; simp; omega)
          go_wp2_with (go_at_call 81; fail)
          refine hD.mono ?_
          rintro e W2 ⟨rfl, hP2, hF2⟩
          have HP2 : Hid (W2.heap[cb]? = some (.cells (blk (lastB k g (madeGo [] N 0 (ops.take (j + 1))))) 40)) := hP2
          have HF2 : Hid (Fr (fun i => i = cb) W W2) := hF2
          clear hP2 hF2 hD
          go_wp2
          exact ⟨⟨j + 1, by omega, by go_num, HP2.out, HF2.out⟩, by simp [intOf]; omega⟩
        · have hK := no_any ((j : Int) - (N : Int)) wr
          have HP2 : Hid (wr.heap[cb]? = some (.cells (blk (lastB k g (madeGo [] N 0 (ops.take (j + 1))))) 40)) := HStep.out (by rw [HIM.out]; simp; omega)
          clear HP1
          go_wp2_with (go_at_call 80; refine hK.mono ?_; rintro e W2 ⟨rfl, he⟩; obtain rfl := he.symm)
          exact ⟨⟨j + 1, by omega, by go_num, HP2.out, HF1.out⟩, by simp [intOf]; omega⟩
      · have HP2 : Hid (wr.heap[cb]? = some (.cells (blk (lastB k g (madeGo [] N 0 (ops.take (j + 1))))) 40)) := HStep.out (by rw [HIM.out]; simp [hr])
        have hd : decide (r.kind = 1) = false := decide_eq_false hr
        clear HP1
        go_wp2
        exact ⟨⟨j + 1, by omega, by go_num, HP2.out, HF1.out⟩, by simp [intOf]; omega⟩
    · obtain rfl : j = ops.length := by omega
      have hP := HP1.out
      rw [List.take_length] at hP
      have HP2 : Hid (wr.heap[cb]? = some (.cells (blk (lastB k g (madeGo [] N 0 ops))) 40)) := hP
      clear hP HP1
      go_wp2
      go_end0
      exact ⟨rfl, by rw [HN.out]; exact HP2.out, HF1.out⟩
end Go.Proofs.Ytbnbbelkddbndaa
