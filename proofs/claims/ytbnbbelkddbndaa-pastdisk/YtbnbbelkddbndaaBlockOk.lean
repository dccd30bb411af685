/- Block: the walk, of all that may be. -/
import Derived.Test.YtbnbbelkddbndaaBlockOf
namespace Go.Proofs.Ytbnbbelkddbndaa
open Go.RowKit Go.Maps
theorem can_lastB (k : Int) {b : Nat → Int} (hb : Can b) : ∀ {l : List Cel}, (∀ x ∈ l, Can x.2) → Can (lastB k b l)
  | [], _ => hb
  | x :: t, h => by
    show Can (lastB k (if x.1 = k then x.2 else b) t)
    refine can_lastB k ?_ fun y hy => h y (List.mem_cons_of_mem _ hy)
    split
    · exact h x (by simp)
    · exact hb
theorem madeL_can {keep : List Bool} {fs : List Rec} (h : ∀ r ∈ fs, Can r.dat) : ∀ x ∈ madeL keep fs, Can x.2 := fun x hx => by
  obtain ⟨r, h1, _, rfl⟩ := madeGo_mem hx
  exact h r h1
theorem foldB_snoc (fs : List Rec) (k : Int) (ps : List Int) (l : List (Nat → Int)) {j : Nat} {x : Int} (h : ps[j]? = some x) : (ps.take (j + 1)).foldl (stepB fs k) l = stepB fs k ((ps.take j).foldl (stepB fs k) l) x := by
  rw [List.take_add_one, h]
  simp
theorem TellAt.kept {B : Nat} {w w' : World} {ca cs cb sb : Nat} {k : Int} {l : List (Nat → Int)} (h : TellAt B w ca cs cb sb k l) (hb : ∀ i, i < w.heap.size → w'.heap[i]? = w.heap[i]?) : TellAt B w' ca cs cb sb k l := by
  have hlt : ∀ {i : Nat} {o : Obj}, w.heap[i]? = some o → i < w.heap.size := fun hi => (Array.getElem?_eq_some_iff.1 hi).1
  obtain ⟨v, hv, hr⟩ := h.list
  obtain ⟨es, ck, hm⟩ := h.set.isMap
  exact ⟨(hb ca (hlt h.num)).trans h.num, (hb cs (hlt h.seen)).trans h.seen, h.set.kept (hb sb (hlt hm)), ⟨v, (hb cb (hlt hv)).trans hv, ownsRow_kept0 hr fun i hi => hb i (hr.lt i hi).2⟩, h.up⟩
/-- The list of places stays apart from what is told. -/
def Places (w : World) (cb sb : Nat) (p : Option Addr) (zs : List Int) : Prop := 0 < zs.length → ∃ b off, p = some ⟨b, off, none⟩ ∧ b < w.heap.size ∧ Off w cb sb b ∧ ∀ j x, zs[j]? = some x → w.cell? ⟨b, off + j, none⟩ = some (.int .i64 x)
theorem Places.next {w w' : World} {cb sb : Nat} {p : Option Addr} {zs : List Int} (h : Places w cb sb p zs) (hs : w.heap.size ≤ w'.heap.size) (hf : ∀ i, i < w.heap.size → Off w cb sb i → w'.heap[i]? = w.heap[i]? ∧ Off w' cb sb i) : Places w' cb sb p zs := fun h0 => by
  obtain ⟨b, off, h1, h2, h3, h4⟩ := h h0
  obtain ⟨q1, q2⟩ := hf b h2 h3
  exact ⟨b, off, h1, by omega, q2, fun j x hx => (World.cell?_of_block q1).trans (h4 j x hx)⟩
theorem slice_own {w : World} {B : Nat} {v : Value} {n : Nat} {xs : List Value} {e s : Nat} (h : w.ownsRow B e s v n xs) : ∃ p c, v = .slice p n c := by
  rcases h.2 with ⟨h1, h2⟩ | ⟨g, cap, cur, h1, _⟩
  · exact ⟨none, 0, by rw [h1, h2]⟩
  · exact ⟨_, cap, h1⟩
set_option maxRecDepth 20000 in
set_option maxHeartbeats 1000000 in
theorem block_ok (n : Int) (l : List Cel) (p : Option Addr) (cap : Nat) (ops : List Rec) (po : Option Addr) (co k : Nat) (q : Int) (w : World) (hl : l.length < 9223372036854775807) (h : ImgAt w p l) (hlo : ops.length < 34359738368) (ho : OpsAt w po ops) (hco : ops.length ≤ co) (hm : pmayB n l ops k = true) (hq : 0 ≤ q ∧ q < n)
    (hcl : ∀ c ∈ l, Can c.2) (hcr : ∀ r ∈ ops, Can r.dat) :
    Calls Try.prog 24 #[.agg #[.int .i64 n, .slice p l.length cap], .slice po ops.length co, .int .i64 k, .int .i64 q] w fun e w' => ∃ v : Value, e = .returned (.tuple #[v, .int .i64 0]) ∧ w'.ownsRow w.heap.size 40 1024 v (blockL l (ops.take k) q).length (blkCells (blockL l (ops.take k) q)) ∧ Below w.heap.size w w' := by
  have hB : Below w.heap.size w ((w.alloc (.cells #[.int .i64 n, .slice p l.length cap] 24)).alloc (.cells #[.int .i64 q] 3)) := (((Below.refl _ _).alloc (Nat.le_refl _) _).alloc (by simp) _)
  have hM := maybe_any n l p cap ops po co k _ hl (h.later hB) (by omega) (ho.later hB)
  rw [hm] at hM
  obtain ⟨hmi, hk0, hk1, hok⟩ := pmay_parts hm
  have hbn := (may_bounds hmi).1
  have hqw : (Lit.int .i64 q).wf = true := (inTop_bnd hbn hq).wf
  have hs : ((w.alloc (.cells #[.int .i64 n, .slice p l.length cap] 24)).alloc (.cells #[.int .i64 q] 3)).heap.size = w.heap.size + 2 := by simp
  have hI : ((w.alloc (.cells #[.int .i64 n, .slice p l.length cap] 24)).alloc (.cells #[.int .i64 q] 3)).heap[w.heap.size]? = some (.cells #[.int .i64 n, .slice p l.length cap] 24) := heap_kept (heap_alloc_new w _) (below_new _ _)
  have hA : ((w.alloc (.cells #[.int .i64 n, .slice p l.length cap] 24)).alloc (.cells #[.int .i64 q] 3)).heap[w.heap.size + 1]? = some (.cells #[.int .i64 q] 3) := by
    have := heap_alloc_new (w.alloc (.cells #[.int .i64 n, .slice p l.length cap] 24)) (.cells #[.int .i64 q] 3)
    rwa [show (w.alloc (.cells #[.int .i64 n, .slice p l.length cap] 24)).heap.size = w.heap.size + 1 by simp] at this
  have hmm := @run_makeMap Try.prog
  have HI : Hid (ImgAt w p l) := h
  have HO : Hid (OpsAt w po ops) := ho
  have hfl : (ops.take k).length = k := by rw [List.length_take]; omega
  have hcf : ∀ r ∈ ops.take k, Can r.dat := fun r hr => hcr r (List.mem_of_mem_take hr)
  have HC0 : Hid (Can (lastB q nought (l ++ madeL [] (ops.take k)))) := can_lastB q can_nought fun x hx => (List.mem_append.1 hx).elim (hcl x) (madeL_can hcf x)
  have HCf : Hid (∀ r ∈ ops.take k, Can r.dat) := hcf
  clear h ho hm hcl hcr hcf hok
  have HBL : Hid (blockL l (ops.take k) q = (pendL (ops.take k)).foldl (stepB (ops.take k) q) [lastB q nought (l ++ madeL [] (ops.take k))]) := rfl
  go_enter Try.func24, Try.ntmps24
  go_wp2_with (go_at_call 53; fail)
  refine hM.mono ?_
  rintro e W1 ⟨rfl, hb1⟩
  have hA1 := (hb1.block (w.heap.size + 1) (by omega)).trans hA
  have hI1 := (hb1.block w.heap.size (by omega)).trans hI
  have a0 : W1.cell? ⟨w.heap.size + 1, 0, none⟩ = some (.int .i64 q) := Joins.cell_of_block hA1 0
  have i0 : W1.cell? ⟨w.heap.size, 0, none⟩ = some (.int .i64 n) := Joins.cell_of_block hI1 0
  have hB1 := below3 hB hb1
  have hs1 : w.heap.size + 2 ≤ W1.heap.size := by have := hb1.size; omega
  obtain ⟨W4, hW4⟩ : ∃ W4, W4 = ((W1.alloc (.cells #[.slice none 0 0] 52)).alloc (.map #[] 0)).alloc (.cells #[.map (some (W1.heap.size + 1))] 92) := ⟨_, rfl⟩
  have hB4 : Below W1.heap.size W1 W4 := by
    rw [hW4]
    exact ((((Below.refl _ _).alloc (Nat.le_refl _) _).alloc (by simp) _).alloc (by simp; omega) _)
  have s1 : (W1.alloc (.cells #[.slice none 0 0] 52)).heap.size = W1.heap.size + 1 := by simp
  have s2 : ((W1.alloc (.cells #[.slice none 0 0] 52)).alloc (.map #[] 0)).heap.size = W1.heap.size + 2 := by simp
  have hs4 : W4.heap.size = W1.heap.size + 3 := by rw [hW4]; simp
  have hT : TellAt w.heap.size W4 (w.heap.size + 1) (W1.heap.size + 2) W1.heap.size (W1.heap.size + 1) q [] := by
    refine ⟨(hB4.block _ (by omega)).trans hA1, ?_, ?_, ⟨.slice none 0 0, ?_, World.ownsRow_nil _ _ _ _⟩, by omega, by omega⟩
    · rw [hW4]
      have := heap_alloc_new ((W1.alloc (.cells #[.slice none 0 0] 52)).alloc (.map #[] 0)) (.cells #[.map (some (W1.heap.size + 1))] 92)
      rwa [s2] at this
    · have := seen_made (W1.alloc (.cells #[.slice none 0 0] 52)) q
      rw [s1] at this
      rw [hW4]
      exact this.kept ((below_new _ _).block _ (by rw [s2]; omega))
    · rw [hW4]
      exact heap_kept (heap_kept (heap_alloc_new W1 _) (below_new _ _)) (below_new _ _)
  have hI4 := (hB4.block w.heap.size (by omega)).trans hI1
  have hBw4 : Below w.heap.size w W4 := hB1.trans (hB4.mono hB1.size)
  have hSB := sureBlock_of n l p cap (ops.take k) po co q W4.drew hl ((HI.out.later hBw4).later (W := W4.drew) ((Below.refl _ _).drew)) (by omega) (((HO.out.take k).later hBw4).later (W := W4.drew) ((Below.refl _ _).drew))
  rw [hfl] at hSB
  have hTd : TellAt w.heap.size W4.drew (w.heap.size + 1) (W1.heap.size + 2) W1.heap.size (W1.heap.size + 1) q [] := ⟨hT.num, hT.seen, hT.set.kept rfl, hT.list.imp fun v hv => ⟨hv.1, ownsRow_kept0 hv.2 fun _ _ => rfl⟩, hT.up⟩
  have HW4 : Hid (W4 = ((W1.alloc (.cells #[.slice none 0 0] 52)).alloc (.map #[] 0)).alloc (.cells #[.map (some (W1.heap.size + 1))] 92)) := hW4
  have HBw4 : Hid (Below w.heap.size w W4) := hBw4
  have HT : Hid (TellAt w.heap.size W4.drew (w.heap.size + 1) (W1.heap.size + 2) W1.heap.size (W1.heap.size + 1) q []) := hTd
  have HI4 : Hid (W4.heap[w.heap.size]? = some (.cells #[.int .i64 n, .slice p l.length cap] 24)) := hI4
  have HA4 : Hid (W4.heap[w.heap.size + 1]? = some (.cells #[.int .i64 q] 3)) := hT.num
  have hfirst : tellL [] (lastB q nought (l ++ madeL [] (ops.take k))) = [lastB q nought (l ++ madeL [] (ops.take k))] := by unfold tellL inB; simp
  have HL1 : Hid (tellL [] (lastB q nought (l ++ madeL [] (ops.take k))) = [lastB q nought (l ++ madeL [] (ops.take k))]) := hfirst
  clear hM hb1 hA hI hA1 hI1 hB hs hB4 s1 s2 hT hTd hI4 hBw4 hW4 hfirst hB1
  generalize lastB q nought (l ++ madeL [] (ops.take k)) = F0 at *
  go_wp2
  rw [← HW4.out]
  refine wp_region_ord (S := fun u => u.heap[w.heap.size]? = some (.cells #[.int .i64 n, .slice p l.length cap] 24) ∧ u.heap[w.heap.size + 1]? = some (.cells #[.int .i64 q] 3)) [(0, true), (1, true), (2, true), (3, true), (4, true), (5, true), (6, false), (7, false)]
    (by kernel_rfl) rfl (by kernel_rfl) (fun d _ _ _ _ h => by cases d <;> exact h) ⟨HI4.out, HA4.out⟩ ?_
  simp only [inOrd, List.getElem?_cons_zero, List.getElem?_cons_succ]
  refine wpOrd_move rfl _ rfl ?_
  simp only [Act.put, List.setIfInBounds_toArray, List.set_cons_succ, List.set_cons_zero]
  refine wpOrd_yield (v := .agg #[.int .i64 n, .slice p l.length cap]) rfl (fun u hu => by have c0 := Joins.cell_of_block hu.1 0; have c1 := Joins.cell_of_block hu.1 1; simp at c0 c1; go_simp) ?_
  simp only [Act.put, List.setIfInBounds_toArray, List.set_cons_succ, List.set_cons_zero]
  iterate 2 (refine wpOrd_move rfl _ rfl ?_; simp only [Act.put, List.setIfInBounds_toArray, List.set_cons_succ, List.set_cons_zero])
  refine wpOrd_yield (v := .slice po k co) rfl (fun u _ => by
    have hsl := slice25 po ops.length co k (by omega) u
    unfold execOp
    simp only [Option.map, Act.eval, Sem.run_bind]
    show Result.andThen ((Instr.sliceAt 25 (.slice po ops.length co) none (some (.int .i64 (k : Int))) none).run Try.prog u) _ = _
    rw [hsl]
    rfl) ?_
  simp only [Act.put, List.setIfInBounds_toArray, List.set_cons_succ, List.set_cons_zero]
  refine wpOrd_yield (v := .int .i64 q) rfl (fun u hu => by have c0 := Joins.cell_of_block hu.2 0; simp at c0; go_simp) ?_
  simp only [Act.put, List.setIfInBounds_toArray, List.set_cons_succ, List.set_cons_zero]
  refine wpOrd_call rfl 62 _ _ rfl Try.call62 [.agg #[.int .i64 n, .slice p l.length cap], .slice po k co, .int .i64 q] rfl ?_
  refine hSB.mono ?_
  rintro e W5 ⟨rfl, hb5⟩
  refine ⟨_, rfl, ⟨(hb5.block _ (by show w.heap.size < W4.heap.size; omega)).trans HI4.out, (hb5.block _ (by show w.heap.size + 1 < W4.heap.size; omega)).trans HA4.out⟩, ?_⟩
  simp only [Act.put, List.setIfInBounds_toArray, List.set_cons_succ, List.set_cons_zero]
  have hT5 := HT.out.kept (w' := W5) fun i hi => hb5.block i hi
  have hBw5 : Below w.heap.size w W5 := (HBw4.out.drew).trans (hb5.mono (by have := HBw4.out.size; exact this))
  refine wpOrd_callV rfl 61 (.tmp 32) _ _ [.pointer (some ⟨w.heap.size + 1, 0, none⟩), .pointer (some ⟨W1.heap.size + 2, 0, none⟩), .pointer (some ⟨W1.heap.size, 0, none⟩)] rfl rfl Try.call61 [.agg (blk F0)] rfl ?_
  refine (tell_any hT5 HC0.out hqw (by simp) (by have := hBw5.size; omega)).mono ?_
  rintro e W6 ⟨rfl, hT6, hb6, hoff6⟩
  rw [HL1.out] at hT6
  have hBw6 : Below w.heap.size w W6 := hBw5.trans hb6
  have hs5 : W1.heap.size + 3 ≤ W5.heap.size := by have := hb5.size; have e : W4.drew.heap.size = W4.heap.size := rfl; omega
  have hs6 : W1.heap.size + 3 ≤ W6.heap.size := by have := hb6.size; omega
  have hI6 : W6.heap[w.heap.size]? = some (.cells #[.int .i64 n, .slice p l.length cap] 24) := by
    obtain ⟨v5, hv5, hr5⟩ := hT5.list
    refine (hoff6 w.heap.size (by omega) ⟨by omega, by omega, fun v hv hw => ?_⟩).1.trans ((hb5.block _ (by show w.heap.size < W4.heap.size; omega)).trans HI4.out)
    rw [hv] at hv5
    have e : v = v5 := by
      injection hv5 with hv5
      injection hv5 with hv5
      have := congrArg Array.toList hv5
      simpa using this
    rw [e] at hw
    exact row_ne hr5 hw ((hb5.block _ (by show w.heap.size < W4.heap.size; omega)).trans HI4.out) (by decide) rfl
  refine ⟨_, rfl, ⟨hI6, hT6.num⟩, ?_⟩
  simp only [Act.put, List.setIfInBounds_toArray, List.set_cons_succ, List.set_cons_zero]
  refine wpOrd_nil ?_
  have hPd := pending_any ops po co k W6 (by omega) (HO.out.later hBw6) hco
  have eu : upTo ops.length (k : Int) = k := by unfold upTo; omega
  rw [eu] at hPd
  have HT6 : Hid (TellAt w.heap.size W6 (w.heap.size + 1) (W1.heap.size + 2) W1.heap.size (W1.heap.size + 1) q [F0]) := hT6
  have HB6 : Hid (Below w.heap.size w W6) := hBw6
  clear hT5 hBw5 hb5 hT6 hb6 hoff6 hBw6 hI6 hSB HT HI4 HA4 HW4 HBw4 HL1 hmm eu a0 i0
  go_wp2_with (go_at_call 27; fail)
  refine hPd.mono ?_
  rintro e W7 ⟨v7, rfl, hr7, hb7⟩
  obtain ⟨pp, pc, rfl, hI7, hpc, hbase⟩ := ints_of_row hr7
  have hT7 := HT6.out.kept (w' := W7) fun i hi => hb7.block i hi
  have hP7 : Places W7 W1.heap.size (W1.heap.size + 1) pp (pendL (ops.take k)) := fun h0 => by
    obtain ⟨b, off, h1, h2, h3⟩ := hI7 h0
    have hbb := hbase b off h1
    refine ⟨b, off, h1, h2, ⟨by omega, by omega, fun v hv hw => ?_⟩, h3⟩
    obtain ⟨v6, hv6, hr6⟩ := HT6.out.list
    have hv6' := (hb7.block W1.heap.size (by omega)).trans hv6
    rw [hv6'] at hv
    have e : v6 = v := by
      injection hv with hv
      injection hv with hv
      have := congrArg Array.toList hv
      simpa using this
    rw [← e] at hw
    have := (hr6.lt b hw).2
    omega
  have HT7 : Hid (TellAt w.heap.size W7 (w.heap.size + 1) (W1.heap.size + 2) W1.heap.size (W1.heap.size + 1) q (((pendL (ops.take k)).take 0).foldl (stepB (ops.take k) q) [F0])) := hT7
  have HP7 : Hid (Places W7 W1.heap.size (W1.heap.size + 1) pp (pendL (ops.take k))) := hP7
  have HB7 : Hid (Below w.heap.size w W7) := HB6.out.trans (hb7.mono (by have := HB6.out.size; omega))
  have HSp : Hid (∀ {j : Nat} {x : Int}, (pendL (ops.take k))[j]? = some x → ∃ i : Nat, x = (i : Int) ∧ i < (ops.take k).length ∧ sureN (ops.take k) ≤ i ∧ isWrite (ops.take k) i = true) := fun h => pendL_spec h
  have hplen : (pendL (ops.take k)).length ≤ k := by
    have := pendUpto_len (ops.take k) (ops.take k).length
    unfold pendL
    omega
  have HOk : Hid (OpsAt w po (ops.take k)) := HO.out.take k
  clear hPd hr7 hI7 hbase hT7 hP7 hb7 HT6 HB6 HO
  generalize hzs : pendL (ops.take k) = zs at *
  generalize hfs : ops.take k = fs at *
  go_wp2
  go_loopw [44] (fun s44 wx => ∃ j : Nat, j ≤ zs.length ∧ s44 = .int .i64 j ∧ Hid (TellAt w.heap.size wx (w.heap.size + 1) (W1.heap.size + 2) W1.heap.size (W1.heap.size + 1) q ((zs.take j).foldl (stepB fs q) [F0])) ∧ Hid (Places wx W1.heap.size (W1.heap.size + 1) pp zs) ∧ Hid (Below w.heap.size w wx)) (fun s44 _ => zs.length - (intOf s44).toNat)
  case atStart => exact ⟨0, by omega, rfl, HT7.out, HP7.out, HB7.out⟩
  case round =>
    obtain ⟨j, hj, rfl, HT, HP, HB⟩ := hrel
    clear HT7 HP7 HB7
    by_cases hj2 : (j : Int) < zs.length
    · have hc : zs[j]? = some zs[j] := List.getElem?_eq_getElem (by omega)
      have hst := foldB_snoc fs q zs [F0] hc
      obtain ⟨gp, goff, rfl, hgl, hgo, hgc⟩ := HP.out (by omega)
      have hcell := hgc j _ hc
      obtain ⟨i, hi, hif, _, _⟩ := HSp.out hc
      rw [hi] at hst hcell
      clear hgc hgo hc hi
      have hfc : fs[i]? = some fs[i] := List.getElem?_eq_getElem hif
      obtain ⟨b, off, rfl, hlt, hC⟩ := HOk.out (by omega)
      have hcan := HCf.out fs[i] (List.getElem_mem hif)
      generalize fs[i] = r at hfc hcan
      have hiops : (i : Int) < ops.length := by omega
      obtain ⟨_, q2, q3⟩ := (hC.later HB.out hlt) i r hfc
      have hstep : stepB fs q ((zs.take j).foldl (stepB fs q) [F0]) (i : Int) = if r.pos = q then tellL ((zs.take j).foldl (stepB fs q) [F0]) r.dat else (zs.take j).foldl (stepB fs q) [F0] := by
        unfold stepB
        rw [Int.toNat_natCast, hfc]
      rw [hstep] at hst
      have hll := foldB_len fs q (zs.take j) [F0]
      have hl2 : ((zs.take j).foldl (stepB fs q) [F0]).length < 68719476735 := by
        have : (zs.take j).length ≤ j := by rw [List.length_take]; omega
        simp only [List.length_singleton] at hll
        omega
      have a0 : wr.cell? ⟨w.heap.size + 1, 0, none⟩ = some (.int .i64 q) := Joins.cell_of_block HT.out.num 0
      clear hC hstep hll hfc
      generalize (zs.take j).foldl (stepB fs q) [F0] = T0 at *
      by_cases hrq : r.pos = q
      · rw [if_pos hrq] at hst
        have htell : ∀ qn, Calls Try.prog 61 #[.agg (blk r.dat), .pointer (some ⟨w.heap.size + 1, 0, none⟩), .pointer (some ⟨W1.heap.size + 2, 0, none⟩), .pointer (some ⟨W1.heap.size, 0, none⟩)] (wr.drewN qn) fun e w' => e = .returned (.tuple #[]) ∧ TellAt w.heap.size w' (w.heap.size + 1) (W1.heap.size + 2) W1.heap.size (W1.heap.size + 1) q ((zs.take (j + 1)).foldl (stepB fs q) [F0]) ∧ Places w' W1.heap.size (W1.heap.size + 1) (some ⟨gp, goff, none⟩) zs ∧ Below w.heap.size w w' := fun qn => by
          have hTq : TellAt w.heap.size (wr.drewN qn) (w.heap.size + 1) (W1.heap.size + 2) W1.heap.size (W1.heap.size + 1) q T0 := HT.out.kept fun _ _ => rfl
          refine (tell_any hTq hcan hqw hl2 (by have := HB.out.size; exact this)).mono ?_
          rintro e w' ⟨h1, h2, h3, h4⟩
          rw [hst]
          refine ⟨h1, h2, ?_, (belowN HB.out qn).trans h3⟩
          exact Places.next (w := wr.drewN qn) (fun h0 => HP.out h0) h3.size h4
        have HTell : Hid (∀ qn, Calls Try.prog 61 #[.agg (blk r.dat), .pointer (some ⟨w.heap.size + 1, 0, none⟩), .pointer (some ⟨W1.heap.size + 2, 0, none⟩), .pointer (some ⟨W1.heap.size, 0, none⟩)] (wr.drewN qn) fun e w' => e = .returned (.tuple #[]) ∧ TellAt w.heap.size w' (w.heap.size + 1) (W1.heap.size + 2) W1.heap.size (W1.heap.size + 1) q ((zs.take (j + 1)).foldl (stepB fs q) [F0]) ∧ Places w' W1.heap.size (W1.heap.size + 1) (some ⟨gp, goff, none⟩) zs ∧ Below w.heap.size w w') := htell
        have q3q : ∀ qn, BlkAt (wr.drewN qn) b (off + i * 1026 + 2) r.dat := fun _ => q3
        rw [hrq] at q2
        have g0 : decide (q = q) = true := by simp
        clear htell hst q3 HT HP hcan hrq hl2
        go_wp2
        go_quiet (fail)
        go_wp2_with (first | (with_reducible refine isLoad 40 ?_; refine wpList_loadM rfl _ rfl b (off + i * 1026 + 2) rfl r.dat (q3q _) ?_) | (go_at_call 61; fail))
        refine (HTell.out _).mono ?_
        rintro e W8 ⟨rfl, t1, t2, t3⟩
        have T1 : Hid (TellAt w.heap.size W8 (w.heap.size + 1) (W1.heap.size + 2) W1.heap.size (W1.heap.size + 1) q ((zs.take (j + 1)).foldl (stepB fs q) [F0])) := t1
        have T2 : Hid (Places W8 W1.heap.size (W1.heap.size + 1) (some ⟨gp, goff, none⟩) zs) := t2
        have T3 : Hid (Below w.heap.size w W8) := t3
        clear t1 t2 t3 HTell
        go_wp2
        exact ⟨⟨j + 1, by omega, by go_num, T1.out, T2.out, T3.out⟩, by simp [intOf]; omega⟩
      · rw [if_neg hrq] at hst
        have HN : Hid (∀ qn, TellAt w.heap.size (wr.drewN qn) (w.heap.size + 1) (W1.heap.size + 2) W1.heap.size (W1.heap.size + 1) q ((zs.take (j + 1)).foldl (stepB fs q) [F0]) ∧ Places (wr.drewN qn) W1.heap.size (W1.heap.size + 1) (some ⟨gp, goff, none⟩) zs) := fun qn => by
          rw [hst]
          exact ⟨HT.out.kept fun _ _ => rfl, fun h0 => HP.out h0⟩
        have g0 : decide (r.pos = q) = false := decide_eq_false hrq
        clear hst q3 HT HP hcan hl2
        go_wp2
        go_quiet (fail)
        go_wp2
        exact ⟨⟨j + 1, by omega, by go_num, (HN.out _).1, (HN.out _).2, belowN HB.out _⟩, by simp [intOf]; omega⟩
    · obtain rfl : j = zs.length := by omega
      have hT := HT.out
      rw [List.take_length] at hT
      obtain ⟨v, hv, hr⟩ := hT.list
      have c0 : wr.cell? ⟨W1.heap.size, 0, none⟩ = some v := Joins.cell_of_block hv 0
      have HR : Hid (wr.ownsRow w.heap.size 40 1024 v (zs.foldl (stepB fs q) [F0]).length (blkCells (zs.foldl (stepB fs q) [F0]))) := hr
      obtain ⟨vp, vc, rfl⟩ := slice_own hr
      clear hT hv hr HT HP
      go_wp2
      go_ret2
      exact ⟨_, rfl, by rw [HBL.out]; exact HR.out, HB.out⟩
end Go.Proofs.Ytbnbbelkddbndaa
