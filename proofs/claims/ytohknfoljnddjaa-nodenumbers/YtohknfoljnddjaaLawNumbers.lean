/- The law NodeNumbers walked: true for every geometry, inode, place and number; no other memory turns. -/
import Derived.Test.YtohknfoljnddjaaAwake
import Derived.Test.YtohknfoljnddjaaOwn
import Derived.Test.YtohknfoljnddjaaWhere
import Derived.Test.YtohknfoljnddjaaRefDec
import Derived.Test.YtohknfoljnddjaaRefMay
namespace Go.Proofs.Ytohknfoljnddjaa
open Go.RowKit

abbrev layF9 (b l i : Int) : Array Value := lay9 b l i 1 (1 + l) (nodeB i) (bitsAt l i) (bitsB b) (dataAt b l i)
def whereF (b l i v : Int) : Int := whereN b l i 1 (1 + l) (nodeB i) (bitsAt l i) (bitsB b) (dataAt b l i) v
theorem stands_fine' {b l i : Int} (hf : Fine b l i) : standsB b l i 1 (1 + l) (nodeB i) (bitsAt l i) (bitsB b) (dataAt b l i) = true := decide_eq_true ⟨hf, rfl, rfl, rfl, rfl, rfl, rfl⟩
theorem where5 {b l i v : Int} (hf : Fine b l i) (h0 : 0 ≤ v) : whereF b l i v = 5 ↔ dataAt b l i ≤ v ∧ v < b := by
  unfold whereF
  have hs := stands_fine' hf
  by_cases h1 : v < b
  · rw [wN h0 h1 hs]
    obtain ⟨f1, f2, f3, f4, f5, f6⟩ := hf
    unfold dataAt bitsAt nodeB bitsB at *
    (repeat' split) <;> omega
  · rw [← wN0 (.inr (.inl (by omega)))]
    omega
/-- What an inode that may be tells. -/
theorem may_tells {lo hi k l s b : Int} {d : Nat → Int} (h : mayV lo hi k l s b d = true) :
    (∀ i, i < 12 → d i ≠ 0 → lo ≤ d i ∧ d i < hi ∧ hasB d i (d i) = false) ∧ s ≤ 67381248 ∧ l ≤ 1000 ∧ (k = 2 → s % 16 = 0) := by
  rcases (mayV_iff ..).1 h with q | q
  · obtain ⟨h1, h2, h3, h4, h5⟩ := (sameNode_iff ..).1 q
    exact ⟨fun i hi h0 => absurd (h5 i hi) h0, by omega, by omega, by omega⟩
  · obtain ⟨q1, q2, _, _⟩ := q
    unfold BoundP at q1
    exact ⟨q2, by omega, by omega, by omega⟩
theorem may_spoilt {lo hi k l s b v : Int} {d : Nat → Int} {j : Nat} (hj : j < 12) (hv : v ≠ 0) (hn : ¬ (lo ≤ v ∧ v < hi)) : mayV lo hi k l s b (upd d j v) = false := by
  have e : upd d j v j = v := by unfold upd; rw [if_pos rfl]
  cases hq : mayV lo hi k l s b (upd d j v)
  · rfl
  · have := (may_tells hq).1 j hj (by rw [e]; exact hv)
    rw [e] at this
    exact absurd ⟨this.1, this.2.1⟩ hn
/-- The layout's row, the inode's, and the numbers' list. -/
structure QS (w W : World) (gy g : Nat) (Y N : Array Value) (d : Nat → Int) : Prop where
  node : W.heap[w.heap.size + 1]? = some (.cells N 27)
  lay : W.heap[gy]? = some (.cells Y 43)
  cells : ∀ i, i < 12 → W.cell? ⟨g, i, none⟩ = some (.int .u32 (d i))
  glt : g < W.heap.size
  bel : Below w.heap.size w W
theorem QS.call {w W W' : World} {gy g : Nat} {Y N : Array Value} {d : Nat → Int} (h : QS w W gy g Y N d) (hb : Below W.heap.size W W') : QS w W' gy g Y N d :=
  ⟨heap_kept h.node hb, heap_kept h.lay hb, fun i hi => (hb.cell (p := ⟨g, i, none⟩) h.glt).trans (h.cells i hi), Nat.lt_of_lt_of_le h.glt hb.size, below_next h.bel hb⟩
theorem QS.drew {w W : World} {gy g : Nat} {Y N : Array Value} {d : Nat → Int} (h : QS w W gy g Y N d) : QS w W.drew gy g Y N d := ⟨h.node, h.lay, h.cells, h.glt, h.bel.drew⟩
theorem QS.nodeAt {w W : World} {gy g : Nat} {Y N : Array Value} {d : Nat → Int} (h : QS w W gy g Y N d) (i : Nat) (v : Value) (hi : N[i]? = some v) : W.cell? ⟨w.heap.size + 1, i, none⟩ = some v := (cell_of_row W _ i _ 27 _ h.node).trans hi
set_option maxRecDepth 20000 in
set_option maxHeartbeats 8000000 in
theorem nodeNumbers_walk (b l i : Int) (k l' s b' : Int) (d : Nat → Int) (kk v : Int) (w : World) (hb : I64 b) (h : NodeOk k l' s b' d) (hv : 0 ≤ v ∧ v < 4294967296) :
    Calls Try.prog 6 #[geoV b l i, .agg (node16 k l' s b' d), .int .i64 kk, .int .u32 v] w fun e w' => e = .returned (.bool true) ∧ Below w.heap.size w w' := by
  have haw := awake_any
  have hof := fun W => of_any b l i W hb
  have z43 : ∀ w, (zeroValue 43).run Try.prog w = .ok (.agg (lay9 0 0 0 0 0 0 0 0 0)) w := fun w =>
    (zero_of_info (show (Try.prog.info? 43).map (fun i => (i.zero, i.size)) = some (some (.agg (lay9 0 0 0 0 0 0 0 0 0)), 9) by kernel_rfl)).1 w
  have z27 := zero27
  by_cases hf : Fine b l i
  · rw [show ofV b l i = layV b l i from if_pos hf, show ofE b l i = 0 from if_pos hf] at hof
    unfold layV at hof
    have CK : Hid (∀ (e : Nat → Int), (∀ i, 0 ≤ e i ∧ e i < 4294967296) → ∀ W : World, Calls Try.prog 16 #[.agg (layF9 b l i), .agg (node16 k l' s b' e)] W fun e' w' => e' = .returned (.int .i64 (if mayV (dataAt b l i) b k l' s b' e = false then 4 else 0)) ∧ Below W.heap.size W w') := fun e he W => by
      have := check_any b l i 1 (1 + l) (nodeB i) (bitsAt l i) (bitsB b) (dataAt b l i) k l' s b' e W ⟨h.k, h.l, h.s, h.b, he⟩ hb
      rwa [show checkE b l i 1 (1 + l) (nodeB i) (bitsAt l i) (bitsB b) (dataAt b l i) k l' s b' e = (if mayV (dataAt b l i) b k l' s b' e = false then 4 else 0) from by unfold checkE; rw [stands_fine' hf]; rfl] at this
    have CWh : Hid (∀ (x : Int) (W : World), Calls Try.prog 20 #[.agg (layF9 b l i), .int .i64 x] W fun e' w' => e' = .returned (.int .u8 (whereF b l i x)) ∧ Below W.heap.size W w') := fun x W => where_any b l i 1 (1 + l) (nodeB i) (bitsAt l i) (bitsB b) (dataAt b l i) x W hb
    have W5 : Hid (∀ x, 0 ≤ x → (whereF b l i x = 5 ↔ dataAt b l i ≤ x ∧ x < b)) := fun x hx => where5 hf hx
    have TL : Hid (mayV (dataAt b l i) b k l' s b' d = true → _) := may_tells
    have SP : Hid (∀ j, j < 12 → v ≠ 0 → ¬ (dataAt b l i ≤ v ∧ v < b) → mayV (dataAt b l i) b k l' s b' (upd d j v) = false) := fun j hj h1 h2 => may_spoilt hj h1 h2
    have C0 : Hid _ := CK.out d h.d
    have HY43 : Hid ((Try.prog.info? 43).map (·.size) = some (layF9 b l i).size) := size43
    have HYO : Hid ((layF9 b l i).all (·.oneCell') = true) := by show _ = _; simp [layF9, lay9, Value.oneCell']
    have HYS : Hid ((lay9 0 0 0 0 0 0 0 0 0).size = (layF9 b l i).size) := rfl
    change ∀ W, Calls Try.prog 19 #[geoV b l i] W fun e w' => e = .returned (.tuple #[.agg (layF9 b l i), .int .i64 0]) ∧ Below W.heap.size W w' at hof
    generalize layF9 b l i = Y at *
    generalize lay9 0 0 0 0 0 0 0 0 0 = O at *
    have HN27 : Hid ((Try.prog.info? 27).map (·.size) = some (node16 k l' s b' d).size) := size27
    have HD : Hid _ := h.d
    obtain ⟨hk0, hk1⟩ := h.k
    obtain ⟨hl0, hl1⟩ := h.l
    obtain ⟨hs0, hs1⟩ := h.s
    obtain ⟨hv0, hv1⟩ := hv
    have N0 : Hid ((node16 k l' s b' d)[0]? = some (.int .u16 k)) := rfl
    have N1 : Hid ((node16 k l' s b' d)[1]? = some (.int .u16 l')) := rfl
    have N2 : Hid ((node16 k l' s b' d)[2]? = some (.int .u32 s)) := rfl
    have N14 : Hid ((node16 k l' s b' d)[14]? = some (.int .u32 (d 10))) := rfl
    have N15 : Hid ((node16 k l' s b' d)[15]? = some (.int .u32 (d 11))) := rfl
    have NJ : Hid (∀ j, j < 10 → (node16 k l' s b' d)[4 + j]? = some (.int .u32 (d j))) := fun j hj =>
      match j, hj with
      | 0, _ => rfl | 1, _ => rfl | 2, _ => rfl | 3, _ => rfl | 4, _ => rfl | 5, _ => rfl | 6, _ => rfl | 7, _ => rfl | 8, _ => rfl | 9, _ => rfl
    have NS : Hid (∀ j, j < 12 → (node16 k l' s b' d).setIfInBounds (4 + j) (.int .u32 v) = node16 k l' s b' (upd d j v)) := fun j hj => node_set k l' s b' d j hj v
    clear h hb
    generalize hNN : node16 k l' s b' d = N at *
    have HNN : Hid _ := hNN
    clear hNN
    have hGEO : ∀ W : World, W = W := fun _ => rfl
    unfold geoV at *
    go_enter Try.func6, Try.ntmps6
    go_wp2_with (first | (go_at_call 18; fail))
    refine (haw _).mono ?_
    rintro e' W1 ⟨rfl, hb1⟩
    have G1 : Hid _ := (heap_kept (heap_alloc2_old w _ _) hb1)
    have R1 : Hid _ := heap_kept (heap_alloc2_new w (.cells #[.int .i64 b, .int .i64 l, .int .i64 i] 41) (.cells N 27)) hb1
    have B1 : Hid _ := below_next (bel_al (below_new w (.cells #[.int .i64 b, .int .i64 l, .int .i64 i] 41)) (.cells N 27)) hb1
    clear haw hb1 hGEO
    go_wp2_with (first | refine wpList_ldR 41 Try.underlying41 rfl rfl _ rfl _ rfl _ 41 (0, 0) (by exact size41) G1.out ?_ | (go_at_call 19; fail))
    refine (hof _).mono ?_
    rintro e' W2 ⟨rfl, hb2⟩
    have R2 : Hid _ := heap_kept (heap_kept R1.out hb2) (below_new W2 (.cells Y 43))
    have B2 : Hid _ := below_next (below_next B1.out hb2) (below_new W2 (.cells Y 43))
    clear hof hb2 G1 R1 B1
    go_wp2_with (first | refine wpList_stNew 43 rfl _ _ rfl _ _ _ 43 HY43.out HYS.out HYO.out rfl rfl rfl ?_ | refine wpList_ldR 43 Try.underlying43 rfl rfl _ rfl _ rfl _ 43 (0, 0) HY43.out (heap_alloc_new _ _) ?_ | refine wpList_ldR 27 Try.underlying27 rfl rfl _ rfl _ rfl _ 27 (0, 0) HN27.out R2.out ?_ | (go_at_call 16; fail))
    refine (C0.out _).mono ?_
    rintro e' W3 ⟨rfl, hb3⟩
    have R3 : Hid _ := heap_kept R2.out hb3
    have Y3 : Hid _ := heap_kept (heap_alloc_new W2 (.cells Y 43)) hb3
    have B3 : Hid _ := below_next B2.out hb3
    generalize W2.heap.size = gy at *
    clear hb3 R2 B2 C0 hf
    by_cases hmay : mayV (dataAt b l i) b k l' s b' d = false
    · rw [if_pos hmay]
      go_wp2
      go_ret
      exact ⟨rfl, B3.out⟩
    · rw [if_neg hmay]
      obtain ⟨hP, hS, hL, hK⟩ := TL.out (by simpa using hmay)
      have HP : Hid _ := hP
      clear hmay TL hP
      go_wp2
      go_loopw [12, 13] (fun s12 s13 wx => ∃ m : Nat, m ≤ 10 ∧ s13 = .int .i64 m ∧ OwnD wx W3.heap.size s12 d m ∧ Below W3.heap.size W3 wx) (fun _ s13 _ => 10 - (intOf s13).toNat)
      case atStart => exact ⟨0, by omega, rfl, OwnD.nil _ _ _, Below.refl _ _⟩
      case round =>
        obtain ⟨m, hm, rfl, hown, hbel⟩ := hrel
        have HO : Hid _ := hown
        have HBL : Hid _ := hbel
        have HR3 : Hid _ := heap_kept R3.out hbel
        have HSZ : Hid (W3.heap.size ≤ wr.heap.size) := hbel.size
        clear hown hbel
        by_cases h10 : (m : Int) < 10
        · have cm := (cell_of_row wr _ (4 + m) N 27 _ HR3.out).trans (NJ.out m (by omega))
          have hlt : w.heap.size + 1 < wr.heap.size := (Array.getElem?_eq_some_iff.1 HR3.out).1
          have HXD : Hid (d m = d m) := rfl
          go_wp2_with (first | (refine wpList_pushD rfl _ _ rfl W3.heap.size u12 d m rfl rfl HO.out (by omega) HSZ.out ?_; intro v' w' ho' hb'; refine Hid.out ?_))
          unfold Hid
          have HO' : Hid _ := ho'
          have HB' : Hid _ := HBL.out.trans hb'
          clear ho' hb' HO HBL cm
          go_wp2
          exact ⟨⟨m + 1, by omega, by go_num, HO'.out, HB'.out⟩, by simp [intOf]; omega⟩
        · obtain rfl : m = 10 := by omega
          have c14 := (cell_of_row wr _ 14 N 27 _ HR3.out).trans N14.out
          have c15 := (cell_of_row wr _ 15 N 27 _ HR3.out).trans N15.out
          have hlt : w.heap.size + 1 < wr.heap.size := (Array.getElem?_eq_some_iff.1 HR3.out).1
          go_wp2_with (first | (refine wpList_pushD2 rfl _ _ rfl W3.heap.size u12 d 10 rfl rfl HO.out (by omega) HSZ.out ?_; intro v' w' ho' hb'; refine Hid.out ?_))
          unfold Hid
          have hb4 := HBL.out.trans hb'
          obtain ⟨g, cap, rfl, hg0, hg1, hcs⟩ := ho'.slice (by omega)
          have HQ : Hid (QS w w' gy g Y N d) := ⟨heap_kept R3.out hb4, heap_kept Y3.out hb4, hcs, hg1, below_next B3.out hb4⟩
          clear ho' hb' hb4 hcs HO HBL HR3 HSZ c14 c15 hlt R3 Y3 B3 hg0 hg1 hm
          go_wp2
          go_loopw [14] (fun s14 wx => ∃ m : Nat, m ≤ 12 ∧ s14 = .int .i64 m ∧ QS w wx gy g Y N d) (fun s14 _ => 12 - (intOf s14).toNat)
          case atStart => exact ⟨0, by omega, rfl, HQ.out⟩
          case round =>
            obtain ⟨m, hm, rfl, hqs⟩ := hrel
            have HQ2 : Hid _ := hqs
            clear hqs HQ
            have HQ : Hid _ := HQ2.out
            clear HQ2
            by_cases h12 : (m : Int) < 12
            · obtain ⟨hx0, hx1⟩ := HD.out m
              have HPX : Hid _ := HP.out m (by omega)
              generalize hxx : d m = x at *
              have HXX : Hid _ := hxx
              clear hxx
              have hxi : IntKind.i64.wrap x = x := by rw [IntKind.wrap_i64]; omega
              by_cases hx : x = 0
              · go_wp2
                refine wp_region_ord (S := fun u => QS w u gy g Y N d) [(0, true), (1, true), (2, true), (3, true), (4, true), (5, true), (6, true), (7, true), (8, true), (9, true), (10, true), (11, true), (12, false), (13, true), (14, true)]
                  (by kernel_rfl) rfl (by kernel_rfl) (fun d _ _ _ _ h => by cases d <;> exact h) HQ.out.drew ?_
                have HQD : Hid _ := HQ.out.drew
                clear HQ
                generalize wr.drew = wd at *
                simp only [inOrd, List.getElem?_cons_zero, List.getElem?_cons_succ]
                refine wpOrd_yield (v := .slice (some ⟨g, 0, none⟩) 12 cap) rfl (fun u _ => by simp [execOp, Act.eval]) ?_
                simp only [Act.put, List.setIfInBounds_toArray, List.set_cons_succ, List.set_cons_zero]
                refine wpOrd_yield (v := .int .i64 (m : Int)) rfl (fun u _ => by simp [execOp, Act.eval]) ?_
                simp only [Act.put, List.setIfInBounds_toArray, List.set_cons_succ, List.set_cons_zero]
                refine wpOrd_yield (v := .pointer (some ⟨g, m, none⟩)) rfl (fun u _ => by first | (go_simp; done) | (go_simp; intro q; omega)) ?_
                simp only [Act.put, List.setIfInBounds_toArray, List.set_cons_succ, List.set_cons_zero]
                refine wpOrd_ldCT 24 (fun w => Try.isAgg24 w) rfl _ rfl _ _ rfl (.int .u32 x) (fun u hu => by rw [hu.cells m (by omega), HXX.out]) ?_
                simp only [Act.put, List.setIfInBounds_toArray, List.set_cons_succ, List.set_cons_zero]
                refine wpOrd_yield (v := .bool false) rfl (fun u _ => by go_simp) ?_
                simp only [Act.put, List.setIfInBounds_toArray, List.set_cons_succ, List.set_cons_zero]
                refine wpOrd_yield (v := .bool false) rfl (fun u _ => by simp [execOp, Act.eval]) ?_
                simp only [Act.put, List.setIfInBounds_toArray, List.set_cons_succ, List.set_cons_zero]
                refine wpOrd_skip HQD.out rfl ?_
                simp only [Act.put, List.setIfInBounds_toArray, List.set_cons_succ, List.set_cons_zero]
                refine wpOrd_skip HQD.out rfl ?_
                simp only [Act.put, List.setIfInBounds_toArray, List.set_cons_succ, List.set_cons_zero]
                refine wpOrd_skip HQD.out rfl ?_
                simp only [Act.put, List.setIfInBounds_toArray, List.set_cons_succ, List.set_cons_zero]
                refine wpOrd_skip HQD.out rfl ?_
                simp only [Act.put, List.setIfInBounds_toArray, List.set_cons_succ, List.set_cons_zero]
                refine wpOrd_skip HQD.out rfl ?_
                simp only [Act.put, List.setIfInBounds_toArray, List.set_cons_succ, List.set_cons_zero]
                refine wpOrd_skip HQD.out rfl ?_
                simp only [Act.put, List.setIfInBounds_toArray, List.set_cons_succ, List.set_cons_zero]
                refine wpOrd_skip HQD.out rfl ?_
                simp only [Act.put, List.setIfInBounds_toArray, List.set_cons_succ, List.set_cons_zero]
                refine wpOrd_skip HQD.out rfl ?_
                simp only [Act.put, List.setIfInBounds_toArray, List.set_cons_succ, List.set_cons_zero]
                refine wpOrd_yield (v := .bool false) rfl (fun u _ => by go_simp) ?_
                simp only [Act.put, List.setIfInBounds_toArray, List.set_cons_succ, List.set_cons_zero]
                refine wpOrd_nil ?_
                go_wp2
                go_loopw [15] (fun s15 wx => ∃ j : Nat, j ≤ m ∧ s15 = .int .i64 j ∧ QS w wx gy g Y N d) (fun s15 _ => m - (intOf s15).toNat)
                case atStart => exact ⟨0, by omega, rfl, HQD.out⟩
                case round =>
                  obtain ⟨j, hj, rfl, hqs⟩ := hrel
                  have HV : Hid _ := hqs
                  clear hqs HQD
                  by_cases hjm : (j : Int) < m
                  · go_wp2
                    refine wp_region_ord (S := fun u => QS w u gy g Y N d) [(0, true), (1, true), (2, true), (3, true), (4, true), (5, true), (6, true), (7, true), (8, true), (9, true), (10, true), (11, true), (12, true), (13, true), (14, true), (15, true)]
                      (by kernel_rfl) rfl (by kernel_rfl) (fun d _ _ _ _ h => by cases d <;> exact h) HV.out.drew ?_
                    have HVD : Hid _ := HV.out.drew
                    clear HV
                    generalize wr.drew = we at *
                    simp only [inOrd, List.getElem?_cons_zero, List.getElem?_cons_succ]
                    refine wpOrd_yield (v := .slice (some ⟨g, 0, none⟩) 12 cap) rfl (fun u _ => by simp [execOp, Act.eval]) ?_
                    simp only [Act.put, List.setIfInBounds_toArray, List.set_cons_succ, List.set_cons_zero]
                    refine wpOrd_yield (v := .int .i64 (m : Int)) rfl (fun u _ => by simp [execOp, Act.eval]) ?_
                    simp only [Act.put, List.setIfInBounds_toArray, List.set_cons_succ, List.set_cons_zero]
                    refine wpOrd_yield (v := .pointer (some ⟨g, m, none⟩)) rfl (fun u _ => by first | (go_simp; done) | (go_simp; intro q; omega)) ?_
                    simp only [Act.put, List.setIfInBounds_toArray, List.set_cons_succ, List.set_cons_zero]
                    refine wpOrd_ldCT 24 (fun w => Try.isAgg24 w) rfl _ rfl _ _ rfl (.int .u32 x) (fun u hu => by rw [hu.cells m (by omega), HXX.out]) ?_
                    simp only [Act.put, List.setIfInBounds_toArray, List.set_cons_succ, List.set_cons_zero]
                    refine wpOrd_yield (v := .bool false) rfl (fun u _ => by go_simp) ?_
                    simp only [Act.put, List.setIfInBounds_toArray, List.set_cons_succ, List.set_cons_zero]
                    refine wpOrd_yield (v := .bool false) rfl (fun u _ => by simp [execOp, Act.eval]) ?_
                    simp only [Act.put, List.setIfInBounds_toArray, List.set_cons_succ, List.set_cons_zero]
                    refine wpOrd_skip HVD.out rfl ?_
                    simp only [Act.put, List.setIfInBounds_toArray, List.set_cons_succ, List.set_cons_zero]
                    refine wpOrd_skip HVD.out rfl ?_
                    simp only [Act.put, List.setIfInBounds_toArray, List.set_cons_succ, List.set_cons_zero]
                    refine wpOrd_skip HVD.out rfl ?_
                    simp only [Act.put, List.setIfInBounds_toArray, List.set_cons_succ, List.set_cons_zero]
                    refine wpOrd_skip HVD.out rfl ?_
                    simp only [Act.put, List.setIfInBounds_toArray, List.set_cons_succ, List.set_cons_zero]
                    refine wpOrd_skip HVD.out rfl ?_
                    simp only [Act.put, List.setIfInBounds_toArray, List.set_cons_succ, List.set_cons_zero]
                    refine wpOrd_skip HVD.out rfl ?_
                    simp only [Act.put, List.setIfInBounds_toArray, List.set_cons_succ, List.set_cons_zero]
                    refine wpOrd_skip HVD.out rfl ?_
                    simp only [Act.put, List.setIfInBounds_toArray, List.set_cons_succ, List.set_cons_zero]
                    refine wpOrd_skip HVD.out rfl ?_
                    simp only [Act.put, List.setIfInBounds_toArray, List.set_cons_succ, List.set_cons_zero]
                    refine wpOrd_skip HVD.out rfl ?_
                    simp only [Act.put, List.setIfInBounds_toArray, List.set_cons_succ, List.set_cons_zero]
                    refine wpOrd_yield (v := .bool false) rfl (fun u _ => by go_simp) ?_
                    simp only [Act.put, List.setIfInBounds_toArray, List.set_cons_succ, List.set_cons_zero]
                    refine wpOrd_nil ?_
                    go_wp2
                    exact ⟨⟨j + 1, by omega, by go_num, HVD.out⟩, by simp [intOf]; omega⟩
                  · obtain rfl : j = m := by omega
                    go_wp2
                    exact ⟨⟨j + 1, by omega, by go_num, HV.out⟩, by simp [intOf]; omega⟩
              · obtain ⟨p1, p2, p3⟩ := HPX.out hx
                have HHAS : Hid _ := p3
                have hw5 : whereF b l i x = 5 := (W5.out x hx0).2 ⟨p1, p2⟩
                have CX : Hid _ := CWh.out x
                rw [hw5] at CX
                clear hw5 p1 p2 p3 HPX
                go_wp2
                refine wp_region_ord (S := fun u => QS w u gy g Y N d) [(0, true), (1, true), (2, true), (3, true), (4, true), (5, true), (6, true), (7, true), (8, true), (9, true), (10, true), (11, true), (12, false), (13, true), (14, true)]
                  (by kernel_rfl) rfl (by kernel_rfl) (fun d _ _ _ _ h => by cases d <;> exact h) HQ.out.drew ?_
                have HQD : Hid _ := HQ.out.drew
                clear HQ
                generalize wr.drew = wd at *
                simp only [inOrd, List.getElem?_cons_zero, List.getElem?_cons_succ]
                refine wpOrd_yield (v := .slice (some ⟨g, 0, none⟩) 12 cap) rfl (fun u _ => by simp [execOp, Act.eval]) ?_
                simp only [Act.put, List.setIfInBounds_toArray, List.set_cons_succ, List.set_cons_zero]
                refine wpOrd_yield (v := .int .i64 (m : Int)) rfl (fun u _ => by simp [execOp, Act.eval]) ?_
                simp only [Act.put, List.setIfInBounds_toArray, List.set_cons_succ, List.set_cons_zero]
                refine wpOrd_yield (v := .pointer (some ⟨g, m, none⟩)) rfl (fun u _ => by first | (go_simp; done) | (go_simp; intro q; omega)) ?_
                simp only [Act.put, List.setIfInBounds_toArray, List.set_cons_succ, List.set_cons_zero]
                refine wpOrd_ldCT 24 (fun w => Try.isAgg24 w) rfl _ rfl _ _ rfl (.int .u32 x) (fun u hu => by rw [hu.cells m (by omega), HXX.out]) ?_
                simp only [Act.put, List.setIfInBounds_toArray, List.set_cons_succ, List.set_cons_zero]
                refine wpOrd_yield (v := .bool true) rfl (fun u _ => by go_simp) ?_
                simp only [Act.put, List.setIfInBounds_toArray, List.set_cons_succ, List.set_cons_zero]
                refine wpOrd_yield (v := .bool true) rfl (fun u _ => by simp [execOp, Act.eval]) ?_
                simp only [Act.put, List.setIfInBounds_toArray, List.set_cons_succ, List.set_cons_zero]
                refine wpOrd_ldRT 43 Try.underlying43 rfl rfl _ rfl _ rfl Y 43 (0, 0) HY43.out (fun u hu => hu.lay) ?_
                simp only [Act.put, List.setIfInBounds_toArray, List.set_cons_succ, List.set_cons_zero]
                refine wpOrd_yield (v := .slice (some ⟨g, 0, none⟩) 12 cap) rfl (fun u _ => by simp [execOp, Act.eval]) ?_
                simp only [Act.put, List.setIfInBounds_toArray, List.set_cons_succ, List.set_cons_zero]
                refine wpOrd_yield (v := .int .i64 (m : Int)) rfl (fun u _ => by simp [execOp, Act.eval]) ?_
                simp only [Act.put, List.setIfInBounds_toArray, List.set_cons_succ, List.set_cons_zero]
                refine wpOrd_yield (v := .pointer (some ⟨g, m, none⟩)) rfl (fun u _ => by first | (go_simp; done) | (go_simp; intro q; omega)) ?_
                simp only [Act.put, List.setIfInBounds_toArray, List.set_cons_succ, List.set_cons_zero]
                refine wpOrd_ldCT 24 (fun w => Try.isAgg24 w) rfl _ rfl _ _ rfl (.int .u32 x) (fun u hu => by rw [hu.cells m (by omega), HXX.out]) ?_
                simp only [Act.put, List.setIfInBounds_toArray, List.set_cons_succ, List.set_cons_zero]
                refine wpOrd_yield (v := .int .i64 x) rfl (fun u _ => by go_simp) ?_
                simp only [Act.put, List.setIfInBounds_toArray, List.set_cons_succ, List.set_cons_zero]
                refine wpOrd_call rfl 20 _ _ rfl Try.call20 [.agg Y, .int .i64 x] rfl ?_
                refine (CX.out _).mono ?_
                rintro e' X1 ⟨rfl, hb⟩
                have HQE : Hid _ := HQD.out.call hb
                clear hb HQD
                refine ⟨_, rfl, HQE.out, ?_⟩
                simp only [Act.put, List.setIfInBounds_toArray, List.set_cons_succ, List.set_cons_zero]
                refine wpOrd_yield (v := .bool false) rfl (fun u _ => by go_simp) ?_
                simp only [Act.put, List.setIfInBounds_toArray, List.set_cons_succ, List.set_cons_zero]
                refine wpOrd_yield (v := .bool false) rfl (fun u _ => by go_simp) ?_
                simp only [Act.put, List.setIfInBounds_toArray, List.set_cons_succ, List.set_cons_zero]
                refine wpOrd_nil ?_
                have HQD : Hid _ := HQE.out
                clear HQE
                go_wp2
                go_loopw [15] (fun s15 wx => ∃ j : Nat, j ≤ m ∧ s15 = .int .i64 j ∧ QS w wx gy g Y N d) (fun s15 _ => m - (intOf s15).toNat)
                case atStart => exact ⟨0, by omega, rfl, HQD.out⟩
                case round =>
                  obtain ⟨j, hj, rfl, hqs⟩ := hrel
                  have HV : Hid _ := hqs
                  clear hqs HQD
                  by_cases hjm : (j : Int) < m
                  · have HNE : Hid (d j ≠ x) := fun q => by
                      have h1 := HHAS.out
                      rw [(hasB_iff d m x).2 ⟨j, by omega, q⟩] at h1
                      cases h1
                    generalize hzz : d j = z at *
                    have HZZ : Hid _ := hzz
                    clear hzz
                    go_wp2
                    refine wp_region_ord (S := fun u => QS w u gy g Y N d) [(0, true), (1, true), (2, true), (3, true), (4, true), (5, true), (6, true), (7, true), (8, true), (9, true), (10, true), (11, true), (12, true), (13, true), (14, true), (15, true)]
                      (by kernel_rfl) rfl (by kernel_rfl) (fun d _ _ _ _ h => by cases d <;> exact h) HV.out.drew ?_
                    have HVD : Hid _ := HV.out.drew
                    clear HV
                    generalize wr.drew = we at *
                    simp only [inOrd, List.getElem?_cons_zero, List.getElem?_cons_succ]
                    refine wpOrd_yield (v := .slice (some ⟨g, 0, none⟩) 12 cap) rfl (fun u _ => by simp [execOp, Act.eval]) ?_
                    simp only [Act.put, List.setIfInBounds_toArray, List.set_cons_succ, List.set_cons_zero]
                    refine wpOrd_yield (v := .int .i64 (m : Int)) rfl (fun u _ => by simp [execOp, Act.eval]) ?_
                    simp only [Act.put, List.setIfInBounds_toArray, List.set_cons_succ, List.set_cons_zero]
                    refine wpOrd_yield (v := .pointer (some ⟨g, m, none⟩)) rfl (fun u _ => by first | (go_simp; done) | (go_simp; intro q; omega)) ?_
                    simp only [Act.put, List.setIfInBounds_toArray, List.set_cons_succ, List.set_cons_zero]
                    refine wpOrd_ldCT 24 (fun w => Try.isAgg24 w) rfl _ rfl _ _ rfl (.int .u32 x) (fun u hu => by rw [hu.cells m (by omega), HXX.out]) ?_
                    simp only [Act.put, List.setIfInBounds_toArray, List.set_cons_succ, List.set_cons_zero]
                    refine wpOrd_yield (v := .bool true) rfl (fun u _ => by go_simp) ?_
                    simp only [Act.put, List.setIfInBounds_toArray, List.set_cons_succ, List.set_cons_zero]
                    refine wpOrd_yield (v := .bool true) rfl (fun u _ => by simp [execOp, Act.eval]) ?_
                    simp only [Act.put, List.setIfInBounds_toArray, List.set_cons_succ, List.set_cons_zero]
                    refine wpOrd_yield (v := .slice (some ⟨g, 0, none⟩) 12 cap) rfl (fun u _ => by simp [execOp, Act.eval]) ?_
                    simp only [Act.put, List.setIfInBounds_toArray, List.set_cons_succ, List.set_cons_zero]
                    refine wpOrd_yield (v := .int .i64 (m : Int)) rfl (fun u _ => by simp [execOp, Act.eval]) ?_
                    simp only [Act.put, List.setIfInBounds_toArray, List.set_cons_succ, List.set_cons_zero]
                    refine wpOrd_yield (v := .pointer (some ⟨g, m, none⟩)) rfl (fun u _ => by first | (go_simp; done) | (go_simp; intro q; omega)) ?_
                    simp only [Act.put, List.setIfInBounds_toArray, List.set_cons_succ, List.set_cons_zero]
                    refine wpOrd_ldCT 24 (fun w => Try.isAgg24 w) rfl _ rfl _ _ rfl (.int .u32 x) (fun u hu => by rw [hu.cells m (by omega), HXX.out]) ?_
                    simp only [Act.put, List.setIfInBounds_toArray, List.set_cons_succ, List.set_cons_zero]
                    refine wpOrd_yield (v := .slice (some ⟨g, 0, none⟩) 12 cap) rfl (fun u _ => by simp [execOp, Act.eval]) ?_
                    simp only [Act.put, List.setIfInBounds_toArray, List.set_cons_succ, List.set_cons_zero]
                    refine wpOrd_yield (v := .int .i64 (j : Int)) rfl (fun u _ => by simp [execOp, Act.eval]) ?_
                    simp only [Act.put, List.setIfInBounds_toArray, List.set_cons_succ, List.set_cons_zero]
                    refine wpOrd_yield (v := .pointer (some ⟨g, j, none⟩)) rfl (fun u _ => by first | (go_simp; done) | (go_simp; intro q; omega)) ?_
                    simp only [Act.put, List.setIfInBounds_toArray, List.set_cons_succ, List.set_cons_zero]
                    refine wpOrd_ldCT 24 (fun w => Try.isAgg24 w) rfl _ rfl _ _ rfl (.int .u32 z) (fun u hu => by rw [hu.cells j (by omega), HZZ.out]) ?_
                    simp only [Act.put, List.setIfInBounds_toArray, List.set_cons_succ, List.set_cons_zero]
                    refine wpOrd_yield (v := .bool false) rfl (fun u _ => by go_simp; exact fun q => HNE.out q.symm) ?_
                    simp only [Act.put, List.setIfInBounds_toArray, List.set_cons_succ, List.set_cons_zero]
                    refine wpOrd_yield (v := .bool false) rfl (fun u _ => by go_simp) ?_
                    simp only [Act.put, List.setIfInBounds_toArray, List.set_cons_succ, List.set_cons_zero]
                    refine wpOrd_nil ?_
                    go_wp2
                    exact ⟨⟨j + 1, by omega, by go_num, HVD.out⟩, by simp [intOf]; omega⟩
                  · obtain rfl : j = m := by omega
                    go_wp2
                    exact ⟨⟨j + 1, by omega, by go_num, HV.out⟩, by simp [intOf]; omega⟩
            · obtain rfl : m = 12 := by omega
              have c0 := HQ.out.nodeAt 0 _ N0.out
              have c1 := HQ.out.nodeAt 1 _ N1.out
              have c2 := HQ.out.nodeAt 2 _ N2.out
              have hlt : w.heap.size + 1 < wr.heap.size := (Array.getElem?_eq_some_iff.1 HQ.out.node).1
              have HKK : Hid _ := hK
              clear hK hm
              by_cases hk2 : k = 2
              all_goals
                have hs16 : k = 2 → s % 16 = 0 := HKK.out
                simp only [hk2, forall_const, false_implies] at hs16
                by_cases q1 : kk < 0
                · go_wp2
                  go_ret
                  exact ⟨rfl, HQ.out.bel⟩
                · by_cases q2 : 12 ≤ kk
                  · go_wp2
                    go_ret
                    exact ⟨rfl, HQ.out.bel⟩
                  · by_cases q3 : v = 0
                    · go_wp2
                      go_ret
                      exact ⟨rfl, HQ.out.bel⟩
                    · have CV : Hid _ := CWh.out v
                      have q3' : (v == 0) = false := by simpa using q3
                      have hvi : IntKind.i64.wrap v = v := by rw [IntKind.wrap_i64]; omega
                      have HW5 : Hid _ := W5.out v hv0
                      clear CWh W5
                      by_cases q4 : whereF b l i v = 5
                      · rw [q4] at CV
                        go_wp2_with (first | refine wpList_ldR 43 Try.underlying43 rfl rfl _ rfl _ rfl _ 43 (0, 0) HY43.out HQ.out.lay ?_ | (go_at_call 20; fail))
                        refine (CV.out _).mono ?_
                        rintro e' X1 ⟨rfl, hbx⟩
                        have HQ3 : Hid _ := HQ.out.call hbx
                        clear hbx HQ
                        go_wp2
                        go_ret
                        exact ⟨rfl, HQ3.out.bel⟩
                      · have HSP : Hid _ := fun j (hj : j < 12) => SP.out j hj q3 (fun q => q4 (HW5.out.2 q))
                        generalize whereF b l i v = wv at *
                        clear SP HW5
                        go_wp2_with (first | refine wpList_ldR 43 Try.underlying43 rfl rfl _ rfl _ rfl _ 43 (0, 0) HY43.out HQ.out.lay ?_ | (go_at_call 20; fail))
                        refine (CV.out _).mono ?_
                        rintro e' X1 ⟨rfl, hbx⟩
                        have HQ3 : Hid _ := HQ.out.call hbx
                        clear hbx HQ CV c0 c1 c2 hlt hs16 HKK hk2
                        obtain ⟨j, hj⟩ : ∃ j : Nat, kk = (j : Int) := ⟨kk.toNat, by omega⟩
                        subst hj
                        have hj12 : j < 12 := by omega
                        have HS4 : Hid _ := NS.out j hj12
                        have CJ : Hid _ := CK.out (upd d j v) (fun i => by unfold upd; split; exact ⟨hv0, hv1⟩; exact HD.out i)
                        rw [if_pos (HSP.out j hj12)] at CJ
                        have HZ : Hid ((Try.prog.info? 27).map (·.size) = some (node16 k l' s b' (upd d j v)).size) := size27
                        have HNS : Hid (N.size = 16) := by rw [← HNN.out]; rfl
                        have HNO : Hid (N.all (·.oneCell') = true) := by rw [← HNN.out]; exact node_one _ _ _ _ _
                        have HNZ : Hid ((node16 0 0 0 0 nought).size = N.size) := by rw [HNS.out]; rfl
                        have HNI : Hid ((Try.prog.info? 27).map (·.size) = some N.size) := by rw [HNS.out]; exact size27
                        have HG1 : Hid ((X1.alloc (.cells N 27)).heap[X1.heap.size]? = some (.cells N 27)) := heap_alloc_new _ _
                        have HG2 : Hid (((X1.alloc (.cells N 27)).setRow X1.heap.size (node16 k l' s b' (upd d j v))).heap[X1.heap.size]? = some (.cells (node16 k l' s b' (upd d j v)) 27)) := setRow_heap _ _ _ _ _ _ HG1.out
                        have HG3 : Hid (((X1.alloc (.cells N 27)).setRow X1.heap.size (node16 k l' s b' (upd d j v))).heap[gy]? = some (.cells Y 43)) := (setRow_other _ _ _ _ (by have := (Array.getElem?_eq_some_iff.1 HQ3.out.lay).1; omega)).trans (heap_kept HQ3.out.lay (below_new _ _))
                        have HG4 : Hid (Below w.heap.size w ((X1.alloc (.cells N 27)).setRow X1.heap.size (node16 k l' s b' (upd d j v)))) := below_setRow (below_next HQ3.out.bel (below_new _ _)) HQ3.out.bel.size _
                        clear CK HSP HD NS
                        go_wp2_with (first | refine wpList_ldR 27 Try.underlying27 rfl rfl _ rfl _ rfl _ 27 (0, 0) HNI.out HQ3.out.node ?_ | refine wpList_ldR 27 Try.underlying27 rfl rfl _ rfl _ rfl _ 27 (0, 0) HNI.out (heap_kept HQ3.out.node (below_new _ _)) ?_ | (refine wpList_stNew 27 rfl _ _ rfl _ N _ 27 HNI.out HNZ.out HNO.out rfl rfl rfl ?_; refine Hid.out ?_))
                        unfold Hid
                        by_cases j10 : (j : Int) < 10
                        · go_wp2_with (first | (refine wpList_stC rfl _ _ rfl X1.heap.size (4 + j) N 27 v (by rw [HNS.out]; omega) (by simp [Act.eval]) rfl HG1.out ?_; rw [HS4.out]; refine Hid.out ?_))
                          unfold Hid
                          generalize (X1.alloc (.cells N 27)).setRow X1.heap.size (node16 k l' s b' (upd d j v)) = X5 at *
                          go_wp2_with (first | refine wpList_ldR 43 Try.underlying43 rfl rfl _ rfl _ rfl _ 43 (0, 0) HY43.out HG3.out ?_ | refine wpList_ldR 27 Try.underlying27 rfl rfl _ rfl _ rfl _ 27 (0, 0) HZ.out HG2.out ?_ | (go_at_call 16; fail))
                          refine (CJ.out _).mono ?_
                          rintro e' X2 ⟨rfl, hbz⟩
                          have HB9 : Hid _ := below_next HG4.out hbz
                          clear hbz CJ
                          go_wp2
                          go_ret
                          exact ⟨rfl, HB9.out⟩
                        · by_cases j11 : (j : Int) = 10
                          · obtain rfl : j = 10 := by omega
                            go_wp2_with (first | (refine wpList_stC rfl _ _ rfl X1.heap.size (4 + 10) N 27 v (by rw [HNS.out]; omega) rfl rfl HG1.out ?_; rw [HS4.out]; refine Hid.out ?_))
                            unfold Hid
                            generalize (X1.alloc (.cells N 27)).setRow X1.heap.size (node16 k l' s b' (upd d 10 v)) = X5 at *
                            go_wp2_with (first | refine wpList_ldR 43 Try.underlying43 rfl rfl _ rfl _ rfl _ 43 (0, 0) HY43.out HG3.out ?_ | refine wpList_ldR 27 Try.underlying27 rfl rfl _ rfl _ rfl _ 27 (0, 0) HZ.out HG2.out ?_ | (go_at_call 16; fail))
                            refine (CJ.out _).mono ?_
                            rintro e' X2 ⟨rfl, hbz⟩
                            have HB9 : Hid _ := below_next HG4.out hbz
                            clear hbz CJ
                            go_wp2
                            go_ret
                            exact ⟨rfl, HB9.out⟩
                          · obtain rfl : j = 11 := by omega
                            go_wp2_with (first | (refine wpList_stC rfl _ _ rfl X1.heap.size (4 + 11) N 27 v (by rw [HNS.out]; omega) rfl rfl HG1.out ?_; rw [HS4.out]; refine Hid.out ?_))
                            unfold Hid
                            generalize (X1.alloc (.cells N 27)).setRow X1.heap.size (node16 k l' s b' (upd d 11 v)) = X5 at *
                            go_wp2_with (first | refine wpList_ldR 43 Try.underlying43 rfl rfl _ rfl _ rfl _ 43 (0, 0) HY43.out HG3.out ?_ | refine wpList_ldR 27 Try.underlying27 rfl rfl _ rfl _ rfl _ 27 (0, 0) HZ.out HG2.out ?_ | (go_at_call 16; fail))
                            refine (CJ.out _).mono ?_
                            rintro e' X2 ⟨rfl, hbz⟩
                            have HB9 : Hid _ := below_next HG4.out hbz
                            clear hbz CJ
                            go_wp2
                            go_ret
                            exact ⟨rfl, HB9.out⟩
  · rw [show ofV b l i = layZ from if_neg hf, show ofE b l i = 2 from if_neg hf] at hof
    unfold layZ at hof
    have HY43 : Hid ((Try.prog.info? 43).map (·.size) = some (lay9 0 0 0 0 0 0 0 0 0).size) := size43
    have HYO : Hid ((lay9 0 0 0 0 0 0 0 0 0).all (·.oneCell') = true) := by show _ = _; simp [lay9, Value.oneCell']
    generalize lay9 0 0 0 0 0 0 0 0 0 = O at *
    clear h hb hf hv
    generalize node16 k l' s b' d = N at *
    unfold geoV at *
    go_enter Try.func6, Try.ntmps6
    go_wp2_with (first | (go_at_call 18; fail))
    refine (haw _).mono ?_
    rintro e' W1 ⟨rfl, hb1⟩
    have G1 : Hid _ := heap_kept (heap_alloc2_old w _ _) hb1
    have B1 : Hid _ := below_next (bel_al (below_new w (.cells #[.int .i64 b, .int .i64 l, .int .i64 i] 41)) (.cells N 27)) hb1
    clear haw hb1
    go_wp2_with (first | refine wpList_ldR 41 Try.underlying41 rfl rfl _ rfl _ rfl _ 41 (0, 0) (by exact size41) G1.out ?_ | (go_at_call 19; fail))
    refine (hof _).mono ?_
    rintro e' W2 ⟨rfl, hb2⟩
    have B2 : Hid _ := below_next (below_next B1.out hb2) (below_new W2 (.cells O 43))
    clear hof hb2 G1 B1
    go_wp2_with (first | refine wpList_stNew 43 rfl _ _ rfl _ _ _ 43 HY43.out rfl HYO.out rfl rfl rfl ?_)
    go_ret
    exact ⟨rfl, B2.out⟩
end Go.Proofs.Ytohknfoljnddjaa
