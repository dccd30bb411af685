import Derived.Test.YtbnbbelkddbndaaTellOf
import Derived.Test.YtbnbbelkddbndaaSame
/- Block: all that a block may be; no condition but a bound that no list of this program passes. -/
namespace Go.Proofs.Ytbnbbelkddbndaa
open Go.RowKit Go.Maps
/-- Numbers that lie in memory. -/
def IntsAt (w : World) (p : Option Addr) (zs : List Int) : Prop := 0 < zs.length → ∃ b off, p = some ⟨b, off, none⟩ ∧ b < w.heap.size ∧ ∀ j x, zs[j]? = some x → w.cell? ⟨b, off + j, none⟩ = some (.int .i64 x)
theorem ints_of_row {w : World} {base : Nat} {v : Value} {zs : List Int} (h : w.ownsRow base 3 1 v zs.length (zs.map (Value.int .i64))) : ∃ p c, v = .slice p zs.length c ∧ IntsAt w p zs ∧ zs.length ≤ c ∧ ∀ b off, p = some ⟨b, off, none⟩ → base ≤ b := by
  rcases h.2 with ⟨h1, h2⟩ | ⟨g, cap, cur, h1, hg, hh, hc, _⟩
  · exact ⟨none, 0, by rw [h1, h2], fun q => by omega, by omega, fun _ _ q => by cases q⟩
  · refine ⟨_, cap, h1, fun _ => ⟨g, 0, rfl, (h.lt g (by rw [h1]; rfl)).2, fun j x hx => ?_⟩, hc, fun b off q => by injection q with q; injection q with q1; omega⟩
    have q := h.cells (g := g) (by rw [h1]; rfl) j (.int .i64 x) (by rw [List.getElem?_map, hx]; rfl)
    rw [Go.WideShapes.add_plain] at q
    exact q
theorem IntsAt.later {w W : World} {p : Option Addr} {l : List Int} (h : IntsAt w p l) (hb : Below w.heap.size w W) : IntsAt W p l := fun h0 => by
  obtain ⟨b, off, h1, h2, h3⟩ := h h0
  exact ⟨b, off, h1, Nat.lt_of_lt_of_le h2 hb.size, fun j x hx => (hb.cell (p := ⟨b, off + j, none⟩) h2).trans (h3 j x hx)⟩
/-- One pending place more is looked at. -/
def stepB (fs : List Rec) (k : Int) (l : List (Nat → Int)) (i : Int) : List (Nat → Int) := match fs[i.toNat]? with
  | some r => if r.pos = k then tellL l r.dat else l
  | none => l
/-- All that Block tells of block k. -/
def blockL (l : List Cel) (fs : List Rec) (k : Int) : List (Nat → Int) := (pendL fs).foldl (stepB fs k) [lastB k nought (l ++ madeL [] fs)]
theorem pendL_spec {fs : List Rec} {j : Nat} {x : Int} (h : (pendL fs)[j]? = some x) : ∃ i : Nat, x = (i : Int) ∧ i < fs.length ∧ sureN fs ≤ i ∧ isWrite fs i = true := by
  have hm := List.mem_of_getElem? h
  unfold pendL pendUpto at hm
  obtain ⟨i, hi, rfl⟩ := List.mem_map.1 hm
  rw [List.mem_filter] at hi
  obtain ⟨h1, h2⟩ := hi
  simp only [Bool.and_eq_true, decide_eq_true_eq] at h2
  exact ⟨i, rfl, List.mem_range.1 h1, h2.1, h2.2⟩
theorem stepB_len (fs : List Rec) (k : Int) (l : List (Nat → Int)) (i : Int) : (stepB fs k l i).length ≤ l.length + 1 := by
  unfold stepB
  split
  · split
    · unfold tellL
      split
      · omega
      · simp
    · omega
  · omega
theorem foldB_len (fs : List Rec) (k : Int) : ∀ (ps : List Int) (l : List (Nat → Int)), (ps.foldl (stepB fs k) l).length ≤ l.length + ps.length
  | [], l => by simp
  | i :: t, l => by
    have h1 := foldB_len fs k t (stepB fs k l i)
    have h2 := stepB_len fs k l i
    simp only [List.foldl_cons, List.length_cons]
    omega
section
variable {P : Program} {ops : Array Oper} {Q : Exit → Act → World → Prop} {S : World → Prop}
theorem wpOrd_callV {r : List (Bool × Oper)} {a : Act} {w : World} {o : Oper} (hw : Region.wanted o (yielded ops a.tmps) = true) (f : FuncId) (x : Operand) (xs : List Operand) (ts : Array TypeId) (cap : List Value)
    (ho : o.op = .call { callee := .value x, args := xs.toArray, argTypes := ts }) (hf : a.eval x = .func (.func f) #[] cap.toArray) (hc : ∀ args u, (callFunc f args).run P u = .ok (.enter f args) u) (args : List Value) (hx : xs.map a.eval = args)
    (h : Calls P f (args ++ cap).toArray w fun e w' => ∃ v, e = .returned v ∧ S w' ∧ wpOrd P ops Q S r (a.put o.dst v) w') : wpOrd P ops Q S ((false, o) :: r) a w := by
  simp only [wpOrd, hw, if_true]
  unfold Oper.wp execOp
  have e : (do let d ← resolve a.eval { callee := .value x, args := xs.toArray, argTypes := ts } o.type; invoke d.target d.args : Sem Next).run P w = .ok (.enter f (args ++ cap).toArray) w := by
    have hx' : xs.toArray.map a.eval = args.toArray := by rw [← hx]; simp
    simp only [resolve, hx', hf]
    simp [Deferred.ofValue, invoke, hc]
  simp only [ho]
  rw [e]
  unfold Oper.upon
  exact h.mono fun e w' ⟨v, he, h1, h2⟩ => by subst he; exact ⟨h1, h2⟩
end
set_option maxRecDepth 20000 in
set_option maxHeartbeats 1000000 in
theorem block_bad (n : Int) (l : List Cel) (p : Option Addr) (cap : Nat) (ops : List Rec) (po : Option Addr) (co : Nat) (k : Int) (q : Int) (w : World) (hl : l.length < 9223372036854775807) (h : ImgAt w p l) (hlo : ops.length < 9223372036854775807) (ho : OpsAt w po ops) (hm : pmayB n l ops k = false ∨ q < 0 ∨ n ≤ q) :
    Calls Try.prog 24 #[.agg #[.int .i64 n, .slice p l.length cap], .slice po ops.length co, .int .i64 k, .int .i64 q] w fun e w' => e = .returned (.tuple #[.slice none 0 0, .int .i64 2]) ∧ Below w.heap.size w w' := by
  have hB : Below w.heap.size w ((w.alloc (.cells #[.int .i64 n, .slice p l.length cap] 24)).alloc (.cells #[.int .i64 q] 3)) := (((Below.refl _ _).alloc (Nat.le_refl _) _).alloc (by simp) _)
  have hM := maybe_any n l p cap ops po co k _ hl (h.later hB) hlo (ho.later hB)
  have hs : ((w.alloc (.cells #[.int .i64 n, .slice p l.length cap] 24)).alloc (.cells #[.int .i64 q] 3)).heap.size = w.heap.size + 2 := by simp
  have hI : ((w.alloc (.cells #[.int .i64 n, .slice p l.length cap] 24)).alloc (.cells #[.int .i64 q] 3)).heap[w.heap.size]? = some (.cells #[.int .i64 n, .slice p l.length cap] 24) := heap_kept (heap_alloc_new w _) (below_new _ _)
  have hA : ((w.alloc (.cells #[.int .i64 n, .slice p l.length cap] 24)).alloc (.cells #[.int .i64 q] 3)).heap[w.heap.size + 1]? = some (.cells #[.int .i64 q] 3) := by
    have := heap_alloc_new (w.alloc (.cells #[.int .i64 n, .slice p l.length cap] 24)) (.cells #[.int .i64 q] 3)
    rwa [show (w.alloc (.cells #[.int .i64 n, .slice p l.length cap] 24)).heap.size = w.heap.size + 1 by simp] at this
  clear h ho
  cases hp : pmayB n l ops k
  · rw [hp] at hM
    clear hm
    go_enter Try.func24, Try.ntmps24
    go_wp2_with (go_at_call 53; refine hM.mono ?_; rintro e W1 ⟨rfl, hb1⟩)
    go_ret2
    exact ⟨rfl, below3 hB hb1⟩
  · rw [hp] at hM
    have hm' : q < 0 ∨ (0 ≤ q ∧ n ≤ q) := by
      rcases hm with h | h | h
      · rw [hp] at h; cases h
      · exact .inl h
      · by_cases q0 : q < 0
        · exact .inl q0
        · exact .inr ⟨by omega, h⟩
    clear hm
    go_enter Try.func24, Try.ntmps24
    go_wp2_with (go_at_call 53; fail)
    refine hM.mono ?_
    rintro e W1 ⟨rfl, hb1⟩
    have hA1 := (hb1.block (w.heap.size + 1) (by omega)).trans hA
    have hI1 := (hb1.block w.heap.size (by omega)).trans hI
    have a0 : W1.cell? ⟨w.heap.size + 1, 0, none⟩ = some (.int .i64 q) := Joins.cell_of_block hA1 0
    have i0 : W1.cell? ⟨w.heap.size, 0, none⟩ = some (.int .i64 n) := Joins.cell_of_block hI1 0
    have HB1 : Hid (Below w.heap.size w W1) := below3 hB hb1
    clear hM hb1 hA hI hA1 hI1 hB hs
    rcases hm' with h0 | ⟨h0, h1⟩
    · go_wp2
      go_ret2
      exact ⟨rfl, HB1.out⟩
    · go_wp2
      go_ret2
      exact ⟨rfl, HB1.out⟩
end Go.Proofs.Ytbnbbelkddbndaa
/- Block: the walk, of all that may be. -/
namespace Go.Proofs.Ytbnbbelkddbndaa
open Go.RowKit Go.Maps
theorem can_lastB (k : Int) {b : Nat → Int} (hb : Can b) : ∀ {l : List Cel}, (∀ x ∈ l, Can x.2) → Can (lastB k b l)
  | [], _ => hb
  | x :: t, h => by
    show Can (lastB k (if x.1 = k then x.2 else b) t)
    refine can_lastB k ?_ fun y hy => h y (List.mem_cons_of_mem _ hy)
    split
    · exact h x (by simp)
    · exact hb
theorem madeL_can {keep : List Bool} {fs : List Rec} (h : ∀ r ∈ fs, Can r.dat) : ∀ x ∈ madeL keep fs, Can x.2 := fun x hx => by
  obtain ⟨r, h1, _, rfl⟩ := madeGo_mem hx
  exact h r h1
theorem foldB_snoc (fs : List Rec) (k : Int) (ps : List Int) (l : List (Nat → Int)) {j : Nat} {x : Int} (h : ps[j]? = some x) : (ps.take (j + 1)).foldl (stepB fs k) l = stepB fs k ((ps.take j).foldl (stepB fs k) l) x := by
  rw [List.take_add_one, h]
  simp
theorem TellAt.kept {B : Nat} {w w' : World} {ca cs cb sb : Nat} {k : Int} {l : List (Nat → Int)} (h : TellAt B w ca cs cb sb k l) (hb : ∀ i, i < w.heap.size → w'.heap[i]? = w.heap[i]?) : TellAt B w' ca cs cb sb k l := by
  have hlt : ∀ {i : Nat} {o : Obj}, w.heap[i]? = some o → i < w.heap.size := fun hi => (Array.getElem?_eq_some_iff.1 hi).1
  obtain ⟨v, hv, hr⟩ := h.list
  obtain ⟨es, ck, hm⟩ := h.set.isMap
  exact ⟨(hb ca (hlt h.num)).trans h.num, (hb cs (hlt h.seen)).trans h.seen, h.set.kept (hb sb (hlt hm)), ⟨v, (hb cb (hlt hv)).trans hv, ownsRow_kept0 hr fun i hi => hb i (hr.lt i hi).2⟩, h.up⟩
/-- The list of places stays apart from what is told. -/
def Places (w : World) (cb sb : Nat) (p : Option Addr) (zs : List Int) : Prop := 0 < zs.length → ∃ b off, p = some ⟨b, off, none⟩ ∧ b < w.heap.size ∧ Off w cb sb b ∧ ∀ j x, zs[j]? = some x → w.cell? ⟨b, off + j, none⟩ = some (.int .i64 x)
theorem Places.next {w w' : World} {cb sb : Nat} {p : Option Addr} {zs : List Int} (h : Places w cb sb p zs) (hs : w.heap.size ≤ w'.heap.size) (hf : ∀ i, i < w.heap.size → Off w cb sb i → w'.heap[i]? = w.heap[i]? ∧ Off w' cb sb i) : Places w' cb sb p zs := fun h0 => by
  obtain ⟨b, off, h1, h2, h3, h4⟩ := h h0
  obtain ⟨q1, q2⟩ := hf b h2 h3
  exact ⟨b, off, h1, by omega, q2, fun j x hx => (World.cell?_of_block q1).trans (h4 j x hx)⟩
theorem slice_own {w : World} {B : Nat} {v : Value} {n : Nat} {xs : List Value} {e s : Nat} (h : w.ownsRow B e s v n xs) : ∃ p c, v = .slice p n c := by
  rcases h.2 with ⟨h1, h2⟩ | ⟨g, cap, cur, h1, _⟩
  · exact ⟨none, 0, by rw [h1, h2]⟩
  · exact ⟨_, cap, h1⟩
set_option maxRecDepth 20000 in
set_option maxHeartbeats 1000000 in
theorem block_ok (n : Int) (l : List Cel) (p : Option Addr) (cap : Nat) (ops : List Rec) (po : Option Addr) (co k : Nat) (q : Int) (w : World) (hl : l.length < 9223372036854775807) (h : ImgAt w p l) (hlo : ops.length < 34359738368) (ho : OpsAt w po ops) (hco : ops.length ≤ co) (hm : pmayB n l ops k = true) (hq : 0 ≤ q ∧ q < n)
    (hcl : ∀ c ∈ l, Can c.2) (hcr : ∀ r ∈ ops, Can r.dat) :
    Calls Try.prog 24 #[.agg #[.int .i64 n, .slice p l.length cap], .slice po ops.length co, .int .i64 k, .int .i64 q] w fun e w' => ∃ v : Value, e = .returned (.tuple #[v, .int .i64 0]) ∧ w'.ownsRow w.heap.size 40 1024 v (blockL l (ops.take k) q).length (blkCells (blockL l (ops.take k) q)) ∧ Below w.heap.size w w' := by
  have hB : Below w.heap.size w ((w.alloc (.cells #[.int .i64 n, .slice p l.length cap] 24)).alloc (.cells #[.int .i64 q] 3)) := (((Below.refl _ _).alloc (Nat.le_refl _) _).alloc (by simp) _)
  have hM := maybe_any n l p cap ops po co k _ hl (h.later hB) (by omega) (ho.later hB)
  rw [hm] at hM
  obtain ⟨hmi, hk0, hk1, hok⟩ := pmay_parts hm
  have hbn := (may_bounds hmi).1
  have hqw : (Lit.int .i64 q).wf = true := (inTop_bnd hbn hq).wf
  have hs : ((w.alloc (.cells #[.int .i64 n, .slice p l.length cap] 24)).alloc (.cells #[.int .i64 q] 3)).heap.size = w.heap.size + 2 := by simp
  have hI : ((w.alloc (.cells #[.int .i64 n, .slice p l.length cap] 24)).alloc (.cells #[.int .i64 q] 3)).heap[w.heap.size]? = some (.cells #[.int .i64 n, .slice p l.length cap] 24) := heap_kept (heap_alloc_new w _) (below_new _ _)
  have hA : ((w.alloc (.cells #[.int .i64 n, .slice p l.length cap] 24)).alloc (.cells #[.int .i64 q] 3)).heap[w.heap.size + 1]? = some (.cells #[.int .i64 q] 3) := by
    have := heap_alloc_new (w.alloc (.cells #[.int .i64 n, .slice p l.length cap] 24)) (.cells #[.int .i64 q] 3)
    rwa [show (w.alloc (.cells #[.int .i64 n, .slice p l.length cap] 24)).heap.size = w.heap.size + 1 by simp] at this
  have hmm := @run_makeMap Try.prog
  have HI : Hid (ImgAt w p l) := h
  have HO : Hid (OpsAt w po ops) := ho
  have hfl : (ops.take k).length = k := by rw [List.length_take]; omega
  have hcf : ∀ r ∈ ops.take k, Can r.dat := fun r hr => hcr r (List.mem_of_mem_take hr)
  have HC0 : Hid (Can (lastB q nought (l ++ madeL [] (ops.take k)))) := can_lastB q can_nought fun x hx => (List.mem_append.1 hx).elim (hcl x) (madeL_can hcf x)
  have HCf : Hid (∀ r ∈ ops.take k, Can r.dat) := hcf
  clear h ho hm hcl hcr hcf hok
  have HBL : Hid (blockL l (ops.take k) q = (pendL (ops.take k)).foldl (stepB (ops.take k) q) [lastB q nought (l ++ madeL [] (ops.take k))]) := rfl
  go_enter Try.func24, Try.ntmps24
  go_wp2_with (go_at_call 53; fail)
  refine hM.mono ?_
  rintro e W1 ⟨rfl, hb1⟩
  have hA1 := (hb1.block (w.heap.size + 1) (by omega)).trans hA
  have hI1 := (hb1.block w.heap.size (by omega)).trans hI
  have a0 : W1.cell? ⟨w.heap.size + 1, 0, none⟩ = some (.int .i64 q) := Joins.cell_of_block hA1 0
  have i0 : W1.cell? ⟨w.heap.size, 0, none⟩ = some (.int .i64 n) := Joins.cell_of_block hI1 0
  have hB1 := below3 hB hb1
  have hs1 : w.heap.size + 2 ≤ W1.heap.size := by have := hb1.size; omega
  obtain ⟨W4, hW4⟩ : ∃ W4, W4 = ((W1.alloc (.cells #[.slice none 0 0] 52)).alloc (.map #[] 0)).alloc (.cells #[.map (some (W1.heap.size + 1))] 92) := ⟨_, rfl⟩
  have hB4 : Below W1.heap.size W1 W4 := by
    rw [hW4]
    exact ((((Below.refl _ _).alloc (Nat.le_refl _) _).alloc (by simp) _).alloc (by simp; omega) _)
  have s1 : (W1.alloc (.cells #[.slice none 0 0] 52)).heap.size = W1.heap.size + 1 := by simp
  have s2 : ((W1.alloc (.cells #[.slice none 0 0] 52)).alloc (.map #[] 0)).heap.size = W1.heap.size + 2 := by simp
  have hs4 : W4.heap.size = W1.heap.size + 3 := by rw [hW4]; simp
  have hT : TellAt w.heap.size W4 (w.heap.size + 1) (W1.heap.size + 2) W1.heap.size (W1.heap.size + 1) q [] := by
    refine ⟨(hB4.block _ (by omega)).trans hA1, ?_, ?_, ⟨.slice none 0 0, ?_, World.ownsRow_nil _ _ _ _⟩, by omega, by omega⟩
    · rw [hW4]
      have := heap_alloc_new ((W1.alloc (.cells #[.slice none 0 0] 52)).alloc (.map #[] 0)) (.cells #[.map (some (W1.heap.size + 1))] 92)
      rwa [s2] at this
    · have := seen_made (W1.alloc (.cells #[.slice none 0 0] 52)) q
      rw [s1] at this
      rw [hW4]
      exact this.kept ((below_new _ _).block _ (by rw [s2]; omega))
    · rw [hW4]
      exact heap_kept (heap_kept (heap_alloc_new W1 _) (below_new _ _)) (below_new _ _)
  have hI4 := (hB4.block w.heap.size (by omega)).trans hI1
  have hBw4 : Below w.heap.size w W4 := hB1.trans (hB4.mono hB1.size)
  have hSB := sureBlock_of n l p cap (ops.take k) po co q W4.drew hl ((HI.out.later hBw4).later (W := W4.drew) ((Below.refl _ _).drew)) (by omega) (((HO.out.take k).later hBw4).later (W := W4.drew) ((Below.refl _ _).drew))
  rw [hfl] at hSB
  have hTd : TellAt w.heap.size W4.drew (w.heap.size + 1) (W1.heap.size + 2) W1.heap.size (W1.heap.size + 1) q [] := ⟨hT.num, hT.seen, hT.set.kept rfl, hT.list.imp fun v hv => ⟨hv.1, ownsRow_kept0 hv.2 fun _ _ => rfl⟩, hT.up⟩
  have HW4 : Hid (W4 = ((W1.alloc (.cells #[.slice none 0 0] 52)).alloc (.map #[] 0)).alloc (.cells #[.map (some (W1.heap.size + 1))] 92)) := hW4
  have HBw4 : Hid (Below w.heap.size w W4) := hBw4
  have HT : Hid (TellAt w.heap.size W4.drew (w.heap.size + 1) (W1.heap.size + 2) W1.heap.size (W1.heap.size + 1) q []) := hTd
  have HI4 : Hid (W4.heap[w.heap.size]? = some (.cells #[.int .i64 n, .slice p l.length cap] 24)) := hI4
  have HA4 : Hid (W4.heap[w.heap.size + 1]? = some (.cells #[.int .i64 q] 3)) := hT.num
  have hfirst : tellL [] (lastB q nought (l ++ madeL [] (ops.take k))) = [lastB q nought (l ++ madeL [] (ops.take k))] := by unfold tellL inB; simp
  have HL1 : Hid (tellL [] (lastB q nought (l ++ madeL [] (ops.take k))) = [lastB q nought (l ++ madeL [] (ops.take k))]) := hfirst
  clear hM hb1 hA hI hA1 hI1 hB hs hB4 s1 s2 hT hTd hI4 hBw4 hW4 hfirst hB1
  generalize lastB q nought (l ++ madeL [] (ops.take k)) = F0 at *
  go_wp2
  rw [← HW4.out]
  refine wp_region_ord (S := fun u => u.heap[w.heap.size]? = some (.cells #[.int .i64 n, .slice p l.length cap] 24) ∧ u.heap[w.heap.size + 1]? = some (.cells #[.int .i64 q] 3)) [(0, true), (1, true), (2, true), (3, true), (4, true), (5, true), (6, false), (7, false)]
    (by kernel_rfl) rfl (by kernel_rfl) (fun d _ _ _ _ h => by cases d <;> exact h) ⟨HI4.out, HA4.out⟩ ?_
  simp only [inOrd, List.getElem?_cons_zero, List.getElem?_cons_succ]
  refine wpOrd_move rfl _ rfl ?_
  simp only [Act.put, List.setIfInBounds_toArray, List.set_cons_succ, List.set_cons_zero]
  refine wpOrd_yield (v := .agg #[.int .i64 n, .slice p l.length cap]) rfl (fun u hu => by have c0 := Joins.cell_of_block hu.1 0; have c1 := Joins.cell_of_block hu.1 1; simp at c0 c1; go_simp) ?_
  simp only [Act.put, List.setIfInBounds_toArray, List.set_cons_succ, List.set_cons_zero]
  iterate 2 (refine wpOrd_move rfl _ rfl ?_; simp only [Act.put, List.setIfInBounds_toArray, List.set_cons_succ, List.set_cons_zero])
  refine wpOrd_yield (v := .slice po k co) rfl (fun u _ => by
    have hsl := slice25 po ops.length co k (by omega) u
    unfold execOp
    simp only [Option.map, Act.eval, Sem.run_bind]
    show Result.andThen ((Instr.sliceAt 25 (.slice po ops.length co) none (some (.int .i64 (k : Int))) none).run Try.prog u) _ = _
    rw [hsl]
    rfl) ?_
  simp only [Act.put, List.setIfInBounds_toArray, List.set_cons_succ, List.set_cons_zero]
  refine wpOrd_yield (v := .int .i64 q) rfl (fun u hu => by have c0 := Joins.cell_of_block hu.2 0; simp at c0; go_simp) ?_
  simp only [Act.put, List.setIfInBounds_toArray, List.set_cons_succ, List.set_cons_zero]
  refine wpOrd_call rfl 62 _ _ rfl Try.call62 [.agg #[.int .i64 n, .slice p l.length cap], .slice po k co, .int .i64 q] rfl ?_
  refine hSB.mono ?_
  rintro e W5 ⟨rfl, hb5⟩
  refine ⟨_, rfl, ⟨(hb5.block _ (by show w.heap.size < W4.heap.size; omega)).trans HI4.out, (hb5.block _ (by show w.heap.size + 1 < W4.heap.size; omega)).trans HA4.out⟩, ?_⟩
  simp only [Act.put, List.setIfInBounds_toArray, List.set_cons_succ, List.set_cons_zero]
  have hT5 := HT.out.kept (w' := W5) fun i hi => hb5.block i hi
  have hBw5 : Below w.heap.size w W5 := (HBw4.out.drew).trans (hb5.mono (by have := HBw4.out.size; exact this))
  refine wpOrd_callV rfl 61 (.tmp 32) _ _ [.pointer (some ⟨w.heap.size + 1, 0, none⟩), .pointer (some ⟨W1.heap.size + 2, 0, none⟩), .pointer (some ⟨W1.heap.size, 0, none⟩)] rfl rfl Try.call61 [.agg (blk F0)] rfl ?_
  refine (tell_any hT5 HC0.out hqw (by simp) (by have := hBw5.size; omega)).mono ?_
  rintro e W6 ⟨rfl, hT6, hb6, hoff6⟩
  rw [HL1.out] at hT6
  have hBw6 : Below w.heap.size w W6 := hBw5.trans hb6
  have hs5 : W1.heap.size + 3 ≤ W5.heap.size := by have := hb5.size; have e : W4.drew.heap.size = W4.heap.size := rfl; omega
  have hs6 : W1.heap.size + 3 ≤ W6.heap.size := by have := hb6.size; omega
  have hI6 : W6.heap[w.heap.size]? = some (.cells #[.int .i64 n, .slice p l.length cap] 24) := by
    obtain ⟨v5, hv5, hr5⟩ := hT5.list
    refine (hoff6 w.heap.size (by omega) ⟨by omega, by omega, fun v hv hw => ?_⟩).1.trans ((hb5.block _ (by show w.heap.size < W4.heap.size; omega)).trans HI4.out)
    rw [hv] at hv5
    have e : v = v5 := by
      injection hv5 with hv5
      injection hv5 with hv5
      have := congrArg Array.toList hv5
      simpa using this
    rw [e] at hw
    exact row_ne hr5 hw ((hb5.block _ (by show w.heap.size < W4.heap.size; omega)).trans HI4.out) (by decide) rfl
  refine ⟨_, rfl, ⟨hI6, hT6.num⟩, ?_⟩
  simp only [Act.put, List.setIfInBounds_toArray, List.set_cons_succ, List.set_cons_zero]
  refine wpOrd_nil ?_
  have hPd := pending_any ops po co k W6 (by omega) (HO.out.later hBw6) hco
  have eu : upTo ops.length (k : Int) = k := by unfold upTo; omega
  rw [eu] at hPd
  have HT6 : Hid (TellAt w.heap.size W6 (w.heap.size + 1) (W1.heap.size + 2) W1.heap.size (W1.heap.size + 1) q [F0]) := hT6
  have HB6 : Hid (Below w.heap.size w W6) := hBw6
  clear hT5 hBw5 hb5 hT6 hb6 hoff6 hBw6 hI6 hSB HT HI4 HA4 HW4 HBw4 HL1 hmm eu a0 i0
  go_wp2_with (go_at_call 27; fail)
  refine hPd.mono ?_
  rintro e W7 ⟨v7, rfl, hr7, hb7⟩
  obtain ⟨pp, pc, rfl, hI7, hpc, hbase⟩ := ints_of_row hr7
  have hT7 := HT6.out.kept (w' := W7) fun i hi => hb7.block i hi
  have hP7 : Places W7 W1.heap.size (W1.heap.size + 1) pp (pendL (ops.take k)) := fun h0 => by
    obtain ⟨b, off, h1, h2, h3⟩ := hI7 h0
    have hbb := hbase b off h1
    refine ⟨b, off, h1, h2, ⟨by omega, by omega, fun v hv hw => ?_⟩, h3⟩
    obtain ⟨v6, hv6, hr6⟩ := HT6.out.list
    have hv6' := (hb7.block W1.heap.size (by omega)).trans hv6
    rw [hv6'] at hv
    have e : v6 = v := by
      injection hv with hv
      injection hv with hv
      have := congrArg Array.toList hv
      simpa using this
    rw [← e] at hw
    have := (hr6.lt b hw).2
    omega
  have HT7 : Hid (TellAt w.heap.size W7 (w.heap.size + 1) (W1.heap.size + 2) W1.heap.size (W1.heap.size + 1) q (((pendL (ops.take k)).take 0).foldl (stepB (ops.take k) q) [F0])) := hT7
  have HP7 : Hid (Places W7 W1.heap.size (W1.heap.size + 1) pp (pendL (ops.take k))) := hP7
  have HB7 : Hid (Below w.heap.size w W7) := HB6.out.trans (hb7.mono (by have := HB6.out.size; omega))
  have HSp : Hid (∀ {j : Nat} {x : Int}, (pendL (ops.take k))[j]? = some x → ∃ i : Nat, x = (i : Int) ∧ i < (ops.take k).length ∧ sureN (ops.take k) ≤ i ∧ isWrite (ops.take k) i = true) := fun h => pendL_spec h
  have hplen : (pendL (ops.take k)).length ≤ k := by
    have := pendUpto_len (ops.take k) (ops.take k).length
    unfold pendL
    omega
  have HOk : Hid (OpsAt w po (ops.take k)) := HO.out.take k
  clear hPd hr7 hI7 hbase hT7 hP7 hb7 HT6 HB6 HO
  generalize hzs : pendL (ops.take k) = zs at *
  generalize hfs : ops.take k = fs at *
  go_wp2
  go_loopw [44] (fun s44 wx => ∃ j : Nat, j ≤ zs.length ∧ s44 = .int .i64 j ∧ Hid (TellAt w.heap.size wx (w.heap.size + 1) (W1.heap.size + 2) W1.heap.size (W1.heap.size + 1) q ((zs.take j).foldl (stepB fs q) [F0])) ∧ Hid (Places wx W1.heap.size (W1.heap.size + 1) pp zs) ∧ Hid (Below w.heap.size w wx)) (fun s44 _ => zs.length - (intOf s44).toNat)
  case atStart => exact ⟨0, by omega, rfl, HT7.out, HP7.out, HB7.out⟩
  case round =>
    obtain ⟨j, hj, rfl, HT, HP, HB⟩ := hrel
    clear HT7 HP7 HB7
    by_cases hj2 : (j : Int) < zs.length
    · have hc : zs[j]? = some zs[j] := List.getElem?_eq_getElem (by omega)
      have hst := foldB_snoc fs q zs [F0] hc
      obtain ⟨gp, goff, rfl, hgl, hgo, hgc⟩ := HP.out (by omega)
      have hcell := hgc j _ hc
      obtain ⟨i, hi, hif, _, _⟩ := HSp.out hc
      rw [hi] at hst hcell
      clear hgc hgo hc hi
      have hfc : fs[i]? = some fs[i] := List.getElem?_eq_getElem hif
      obtain ⟨b, off, rfl, hlt, hC⟩ := HOk.out (by omega)
      have hcan := HCf.out fs[i] (List.getElem_mem hif)
      generalize fs[i] = r at hfc hcan
      have hiops : (i : Int) < ops.length := by omega
      obtain ⟨_, q2, q3⟩ := (hC.later HB.out hlt) i r hfc
      have hstep : stepB fs q ((zs.take j).foldl (stepB fs q) [F0]) (i : Int) = if r.pos = q then tellL ((zs.take j).foldl (stepB fs q) [F0]) r.dat else (zs.take j).foldl (stepB fs q) [F0] := by
        unfold stepB
        rw [Int.toNat_natCast, hfc]
      rw [hstep] at hst
      have hll := foldB_len fs q (zs.take j) [F0]
      have hl2 : ((zs.take j).foldl (stepB fs q) [F0]).length < 68719476735 := by
        have : (zs.take j).length ≤ j := by rw [List.length_take]; omega
        simp only [List.length_singleton] at hll
        omega
      have a0 : wr.cell? ⟨w.heap.size + 1, 0, none⟩ = some (.int .i64 q) := Joins.cell_of_block HT.out.num 0
      clear hC hstep hll hfc
      generalize (zs.take j).foldl (stepB fs q) [F0] = T0 at *
      by_cases hrq : r.pos = q
      · rw [if_pos hrq] at hst
        have htell : ∀ qn, Calls Try.prog 61 #[.agg (blk r.dat), .pointer (some ⟨w.heap.size + 1, 0, none⟩), .pointer (some ⟨W1.heap.size + 2, 0, none⟩), .pointer (some ⟨W1.heap.size, 0, none⟩)] (wr.drewN qn) fun e w' => e = .returned (.tuple #[]) ∧ TellAt w.heap.size w' (w.heap.size + 1) (W1.heap.size + 2) W1.heap.size (W1.heap.size + 1) q ((zs.take (j + 1)).foldl (stepB fs q) [F0]) ∧ Places w' W1.heap.size (W1.heap.size + 1) (some ⟨gp, goff, none⟩) zs ∧ Below w.heap.size w w' := fun qn => by
          have hTq : TellAt w.heap.size (wr.drewN qn) (w.heap.size + 1) (W1.heap.size + 2) W1.heap.size (W1.heap.size + 1) q T0 := HT.out.kept fun _ _ => rfl
          refine (tell_any hTq hcan hqw hl2 (by have := HB.out.size; exact this)).mono ?_
          rintro e w' ⟨h1, h2, h3, h4⟩
          rw [hst]
          refine ⟨h1, h2, ?_, (belowN HB.out qn).trans h3⟩
          exact Places.next (w := wr.drewN qn) (fun h0 => HP.out h0) h3.size h4
        have HTell : Hid (∀ qn, Calls Try.prog 61 #[.agg (blk r.dat), .pointer (some ⟨w.heap.size + 1, 0, none⟩), .pointer (some ⟨W1.heap.size + 2, 0, none⟩), .pointer (some ⟨W1.heap.size, 0, none⟩)] (wr.drewN qn) fun e w' => e = .returned (.tuple #[]) ∧ TellAt w.heap.size w' (w.heap.size + 1) (W1.heap.size + 2) W1.heap.size (W1.heap.size + 1) q ((zs.take (j + 1)).foldl (stepB fs q) [F0]) ∧ Places w' W1.heap.size (W1.heap.size + 1) (some ⟨gp, goff, none⟩) zs ∧ Below w.heap.size w w') := htell
        have q3q : ∀ qn, BlkAt (wr.drewN qn) b (off + i * 1026 + 2) r.dat := fun _ => q3
        rw [hrq] at q2
        have g0 : decide (q = q) = true := by simp
        clear htell hst q3 HT HP hcan hrq hl2
        go_wp2
        go_quiet (fail)
        go_wp2_with (first | (with_reducible refine isLoad 40 ?_; refine wpList_loadM rfl _ rfl b (off + i * 1026 + 2) rfl r.dat (q3q _) ?_) | (go_at_call 61; fail))
        refine (HTell.out _).mono ?_
        rintro e W8 ⟨rfl, t1, t2, t3⟩
        have T1 : Hid (TellAt w.heap.size W8 (w.heap.size + 1) (W1.heap.size + 2) W1.heap.size (W1.heap.size + 1) q ((zs.take (j + 1)).foldl (stepB fs q) [F0])) := t1
        have T2 : Hid (Places W8 W1.heap.size (W1.heap.size + 1) (some ⟨gp, goff, none⟩) zs) := t2
        have T3 : Hid (Below w.heap.size w W8) := t3
        clear t1 t2 t3 HTell
        go_wp2
        exact ⟨⟨j + 1, by omega, by go_num, T1.out, T2.out, T3.out⟩, by simp [intOf]; omega⟩
      · rw [if_neg hrq] at hst
        have HN : Hid (∀ qn, TellAt w.heap.size (wr.drewN qn) (w.heap.size + 1) (W1.heap.size + 2) W1.heap.size (W1.heap.size + 1) q ((zs.take (j + 1)).foldl (stepB fs q) [F0]) ∧ Places (wr.drewN qn) W1.heap.size (W1.heap.size + 1) (some ⟨gp, goff, none⟩) zs) := fun qn => by
          rw [hst]
          exact ⟨HT.out.kept fun _ _ => rfl, fun h0 => HP.out h0⟩
        have g0 : decide (r.pos = q) = false := decide_eq_false hrq
        clear hst q3 HT HP hcan hl2
        go_wp2
        go_quiet (fail)
        go_wp2
        exact ⟨⟨j + 1, by omega, by go_num, (HN.out _).1, (HN.out _).2, belowN HB.out _⟩, by simp [intOf]; omega⟩
    · obtain rfl : j = zs.length := by omega
      have hT := HT.out
      rw [List.take_length] at hT
      obtain ⟨v, hv, hr⟩ := hT.list
      have c0 : wr.cell? ⟨W1.heap.size, 0, none⟩ = some v := Joins.cell_of_block hv 0
      have HR : Hid (wr.ownsRow w.heap.size 40 1024 v (zs.foldl (stepB fs q) [F0]).length (blkCells (zs.foldl (stepB fs q) [F0]))) := hr
      obtain ⟨vp, vc, rfl⟩ := slice_own hr
      clear hT hv hr HT HP
      go_wp2
      go_ret2
      exact ⟨_, rfl, by rw [HBL.out]; exact HR.out, HB.out⟩
end Go.Proofs.Ytbnbbelkddbndaa
/- What the law itself makes and looks up: a block of one byte; the block of an image at a number; two lists of numbers held against each other; no condition but that lists are not longer than lists can be. -/
namespace Go.Proofs.Ytbnbbelkddbndaa
open Go.RowKit Go.Maps
/-- A block of one byte. -/
def letF (v : Int) : Nat → Int := fun i => if i < 1024 then v else 0
theorem letF_can {v : Int} (h : 0 ≤ v ∧ v ≤ 255) : Can (letF v) := ⟨fun i => by unfold letF; split <;> omega, fun i hi => by unfold letF; rw [if_neg (by omega)]⟩
theorem letF_ne {v : Int} (h : v ≠ 0) : letF v ≠ nought := fun q => h (by have := congrFun q 0; simpa [letF, nought] using this)
theorem letF_inj {u v : Int} (h : letF u = letF v) : u = v := by
  have := congrFun h 0
  simpa [letF] using this
def letU (v : Int) (k : Nat) : Nat → Int := fun i => if i < k then v else 0
theorem letU_next (v : Int) (k : Nat) : upd (letU v k) k v = letU v (k + 1) := by
  funext j
  unfold upd letU
  by_cases h : j = k
  · subst h; simp
  · by_cases h2 : j < k
    · simp [h, h2, show j < k + 1 by omega]
    · simp [h, h2, show ¬ j < k + 1 by omega]
theorem letU_zero (v : Int) : letU v 0 = nought := by funext j; simp [letU, nought]
set_option maxRecDepth 20000 in
set_option maxHeartbeats 1000000 in
theorem letter_any (v : Int) (w : World) : Calls Try.prog 30 #[.int .u8 v] w fun e w' => e = .returned (.agg (blk (letF v))) ∧ Below w.heap.size w w' := by
  obtain ⟨N, hz, eN⟩ : ∃ N, (∀ w : World, (zeroValue 40).run Try.prog w = .ok (.agg (blk N)) w) ∧ N = nought := ⟨nought, zero25, rfl⟩
  obtain ⟨W0, hW0⟩ : ∃ W0, W0 = (w.alloc (.cells (blk N) 40)).alloc (.cells (blk N) 40) := ⟨_, rfl⟩
  have hB : Below w.heap.size w W0 := by
    rw [hW0]
    exact (((Below.refl _ _).alloc (Nat.le_refl _) _).alloc (by simp) _)
  have hR : W0.heap[w.heap.size]? = some (.cells (blk N) 40) := by
    rw [hW0]
    exact heap_kept (heap_alloc_new w _) (below_new _ _)
  have hC : W0.heap[w.heap.size + 1]? = some (.cells (blk (letU v 0)) 40) := by
    rw [hW0, letU_zero, ← eN]
    have := heap_alloc_new (w.alloc (.cells (blk N) 40)) (.cells (blk N) 40)
    rwa [show (w.alloc (.cells (blk N) 40)).heap.size = w.heap.size + 1 by simp] at this
  have HB : Hid (Below w.heap.size w W0) := hB
  have HR : Hid (W0.heap[w.heap.size]? = some (.cells (blk N) 40)) := hR
  have HC : Hid (W0.heap[w.heap.size + 1]? = some (.cells (blk (letU v 0)) 40)) := hC
  have HW : Hid (W0 = (w.alloc (.cells (blk N) 40)).alloc (.cells (blk N) 40)) := hW0
  clear hB hR hC hW0 eN
  go_enter Try.func30, Try.ntmps30
  go_wp2_with (fail)
  rw [← HW.out]
  go_wp2
  clear HW hz
  go_loopw [4] (fun s4 wx => ∃ k : Nat, k ≤ 1024 ∧ s4 = .int .i64 k ∧ Hid (wx.heap[w.heap.size + 1]? = some (.cells (blk (letU v k)) 40)) ∧ Hid (wx.heap[w.heap.size]? = some (.cells (blk N) 40)) ∧ Hid (Below w.heap.size w wx)) (fun s4 _ => 1024 - (intOf s4).toNat)
  case atStart => exact ⟨0, by omega, rfl, HC.out, HR.out, HB.out⟩
  case round =>
    obtain ⟨k, hk, rfl, HC1, HR1, HB1⟩ := hrel
    clear HC HR HB
    by_cases hk2 : (k : Int) < 1024
    · have hk3 : k < 1024 := by omega
      have hc : wr.cell? ⟨w.heap.size + 1, k, none⟩ = some (.int .u8 (letU v k k)) := (Joins.cell_of_block HC1.out k).trans (blk_get _ k hk3)
      have hf : wr.frozen? ⟨w.heap.size + 1, k, none⟩ = false := Joins.unfrozen_of_block HC1.out k
      have HC2 : Hid ((wr.setCell ⟨w.heap.size + 1, k, none⟩ (.int .u8 v)).heap[w.heap.size + 1]? = some (.cells (blk (letU v (k + 1))) 40)) := by
        have := Joins.block_setCell HC1.out (i := k) (.int .u8 v)
        rw [blk_set, letU_next] at this
        exact this
      have HR2 : Hid ((wr.setCell ⟨w.heap.size + 1, k, none⟩ (.int .u8 v)).heap[w.heap.size]? = some (.cells (blk N) 40)) := (Below.heap_setCell _ _ _ _ (by show w.heap.size ≠ w.heap.size + 1; omega)).trans HR1.out
      have HB2 : Hid (Below w.heap.size w (wr.setCell ⟨w.heap.size + 1, k, none⟩ (.int .u8 v))) := HB1.out.setCell (by show w.heap.size ≤ w.heap.size + 1; omega) _
      generalize letU v k k = y at *
      clear HC1 HR1 HB1
      go_wp2
      exact ⟨⟨k + 1, by omega, by go_num, HC2.out, HR2.out, HB2.out⟩, by simp [intOf]; omega⟩
    · obtain rfl : k = 1024 := by omega
      have hC : wr.heap[w.heap.size + 1]? = some (.cells (blk (letF v)) 40) := HC1.out
      have hR := HR1.out
      clear HC1 HR1
      go_wp2_with (first | refine wpList_load25 rfl _ rfl (w.heap.size + 1) rfl _ hC ?_ | refine wpList_store25 rfl _ _ rfl w.heap.size _ rfl rfl _ hR ?_)
      exact ret25 rfl w.heap.size _ rfl (setRow_heap _ _ _ _ _ _ hR) rfl ⟨rfl, below_setRow HB1.out (Nat.le_refl _) _⟩
set_option maxRecDepth 20000 in
set_option maxHeartbeats 1000000 in
theorem blockAt_any (n : Int) (l : List Cel) (p : Option Addr) (cap : Nat) (k : Int) (w : World) (hl : l.length < 9223372036854775807) (h : ImgAt w p l) :
    Calls Try.prog 26 #[.agg #[.int .i64 n, .slice p l.length cap], .int .i64 k] w fun e w' => e = .returned (.agg (blk (atL l k))) ∧ Below w.heap.size w w' := by
  obtain ⟨N, hz, hbd, eN⟩ : ∃ N, (∀ w : World, (zeroValue 40).run Try.prog w = .ok (.agg (blk N)) w) ∧ (∀ u : World, (Instr.build 40 #[]).run Try.prog u = .ok (.agg (blk N)) u) ∧ N = nought := ⟨nought, zero25, built58, rfl⟩
  obtain ⟨W0, hW0⟩ : ∃ W0, W0 = (w.alloc (.cells #[.int .i64 n, .slice p l.length cap] 24)).alloc (.cells (blk N) 40) := ⟨_, rfl⟩
  have hB : Below w.heap.size w W0 := by
    rw [hW0]
    exact (((Below.refl _ _).alloc (Nat.le_refl _) _).alloc (by simp) _)
  have hI : W0.heap[w.heap.size]? = some (.cells #[.int .i64 n, .slice p l.length cap] 24) := by
    rw [hW0]
    exact heap_kept (heap_alloc_new w _) (below_new _ _)
  have hR : W0.heap[w.heap.size + 1]? = some (.cells (blk N) 40) := by
    rw [hW0]
    have := heap_alloc_new (w.alloc (.cells #[.int .i64 n, .slice p l.length cap] 24)) (.cells (blk N) 40)
    rwa [show (w.alloc (.cells #[.int .i64 n, .slice p l.length cap] 24)).heap.size = w.heap.size + 1 by simp] at this
  have HI : Hid (ImgAt w p l) := h
  have HR0 : Hid (atL l k = atL (l.drop 0) k) := rfl
  obtain ⟨res, hres⟩ : ∃ res, atL l k = res := ⟨_, rfl⟩
  rw [hres] at HR0 ⊢
  have HN : Hid (N = nought) := eN
  have i1 : W0.cell? ⟨w.heap.size, 1, none⟩ = some (.slice p l.length cap) := Joins.cell_of_block hI 1
  have HW : Hid (W0 = (w.alloc (.cells #[.int .i64 n, .slice p l.length cap] 24)).alloc (.cells (blk N) 40)) := hW0
  clear hW0 eN h hres
  go_enter Try.func26, Try.ntmps26
  go_wp2_with (fail)
  rw [← HW.out]
  go_wp2
  clear HW hz
  go_loopw [5] (fun s5 wx => ∃ j : Nat, j ≤ l.length ∧ s5 = .int .i64 j ∧ wx = W0 ∧ Hid (res = atL (l.drop j) k)) (fun s5 _ => l.length - (intOf s5).toNat)
  case atStart => exact ⟨0, by omega, rfl, rfl, HR0.out⟩
  case round =>
    obtain ⟨j, hj, rfl, rfl, HR1⟩ := hrel
    clear HR0
    by_cases hj2 : (j : Int) < l.length
    · have hc : l[j]? = some l[j] := List.getElem?_eq_getElem (by omega)
      obtain ⟨b, off, rfl, hlt, hCl⟩ := HI.out (by omega)
      have hd : l.drop j = l[j] :: l.drop (j + 1) := List.drop_eq_getElem_cons (by omega)
      generalize l[j] = c at hc hd
      obtain ⟨q1, q2⟩ := (hCl.later hB hlt) j c hc
      obtain ⟨y, f⟩ := c
      have hR2 := HR1.out
      rw [hd] at hR2
      unfold atL at hR2
      simp only at q1 q2
      clear hCl hd hc HR1
      by_cases hk : y = k
      · rw [if_pos hk] at hR2
        subst hR2
        subst hk
        go_wp2_with (first | (with_reducible refine isLoad 40 ?_; refine wpList_loadM rfl _ rfl b (off + j * 1025 + 1) rfl res q2 ?_) | (with_reducible refine isStore 40 ?_; refine wpList_store25 rfl _ _ rfl (w.heap.size + 1) _ rfl rfl _ hR ?_))
        exact ret25 rfl (w.heap.size + 1) _ rfl (setRow_heap _ _ _ _ _ _ hR) rfl ⟨rfl, below_setRow hB (by omega) _⟩
      · rw [if_neg hk] at hR2
        have HR3 : Hid (res = atL (l.drop (j + 1)) k) := hR2
        have g0 : decide (y = k) = false := decide_eq_false hk
        clear hR2 q2
        go_wp2
        exact ⟨⟨j + 1, by omega, by go_num, by trivial, HR3.out⟩, by simp [intOf]; omega⟩
    · obtain rfl : j = l.length := by omega
      have hR2 := HR1.out
      rw [List.drop_length] at hR2
      have e : res = N := by rw [hR2, HN.out]; rfl
      subst e
      clear hR2 HR1
      go_wp2_with (first | (with_reducible refine isBuild 40 ?_; refine wpList_build58 rfl rfl hbd ?_) | (with_reducible refine isStore 40 ?_; refine wpList_store25 rfl _ _ rfl (w.heap.size + 1) _ rfl rfl _ hR ?_))
      exact ret25 rfl (w.heap.size + 1) _ rfl (setRow_heap _ _ _ _ _ _ hR) rfl ⟨rfl, below_setRow hB (by omega) _⟩
set_option maxRecDepth 20000 in
set_option maxHeartbeats 1000000 in
theorem sameInts_any (s t : List Int) (p q : Option Addr) (cp cq : Nat) (w : World) (hls : s.length < 9223372036854775807) (hs : IntsAt w p s) (ht : IntsAt w q t) :
    Calls Try.prog 29 #[.slice p s.length cp, .slice q t.length cq] w fun e w' => e = .returned (.bool (decide (s = t))) ∧ Below w.heap.size w w' := by
  by_cases hl : s.length = t.length
  · have HS : Hid (IntsAt w p s) := hs
    have HT : Hid (IntsAt w q t) := ht
    have HR : Hid (decide (s = t) = decide (s.drop 0 = t.drop 0)) := rfl
    generalize decide (s = t) = res at *
    obtain ⟨n, hn⟩ : ∃ n, s.length = n := ⟨_, rfl⟩
    have hn2 : t.length = n := by omega
    rw [hn, hn2]
    rw [hn] at hls
    have HL : Hid (s.length = n ∧ t.length = n) := ⟨hn, hn2⟩
    clear hs ht hl hn hn2
    go_enter Try.func29, Try.ntmps29
    go_wp2
    go_loopw [5] (fun s5 wx => ∃ k : Nat, k ≤ n ∧ s5 = .int .i64 k ∧ Hid (Below w.heap.size w wx) ∧ Hid (res = decide (s.drop k = t.drop k))) (fun s5 _ => n - (intOf s5).toNat)
    case atStart => exact ⟨0, by omega, rfl, Below.refl _ _, HR.out⟩
    case round =>
      obtain ⟨k, hk, rfl, HB, HR2⟩ := hrel
      clear HR
      by_cases hk2 : (k : Int) < n
      · obtain ⟨hn, hn2⟩ := HL.out
        have hc : s[k]? = some s[k] := List.getElem?_eq_getElem (by omega)
        have hd : t[k]? = some t[k] := List.getElem?_eq_getElem (by omega)
        have hcd : s.drop k = s[k] :: s.drop (k + 1) := List.drop_eq_getElem_cons (by omega)
        have hdd : t.drop k = t[k] :: t.drop (k + 1) := List.drop_eq_getElem_cons (by omega)
        obtain ⟨b1, o1, rfl, l1, C1⟩ := HS.out (by omega)
        obtain ⟨b2, o2, rfl, l2, C2⟩ := HT.out (by omega)
        generalize s[k] = c at hc hcd
        generalize t[k] = d at hd hdd
        have q1 : wr.cell? ⟨b1, o1 + k, none⟩ = some (.int .i64 c) := (HB.out.cell (p := ⟨b1, o1 + k, none⟩) l1).trans (C1 k c hc)
        have q2 : wr.cell? ⟨b2, o2 + k, none⟩ = some (.int .i64 d) := (HB.out.cell (p := ⟨b2, o2 + k, none⟩) l2).trans (C2 k d hd)
        have hR := HR2.out
        rw [hcd, hdd] at hR
        clear HR2 C1 C2 hcd hdd hc hd hn hn2
        by_cases hcdd : c = d
        · subst hcdd
          have HR3 : Hid (res = decide (s.drop (k + 1) = t.drop (k + 1))) := by
            have e : res = decide (s.drop (k + 1) = t.drop (k + 1)) := by rw [hR]; simp
            exact e
          have g0 : decide (c = c) = true := by simp
          clear hR
          go_wp2
          go_quiet (fail)
          go_wp2
          exact ⟨⟨k + 1, by omega, by go_num, belowN HB.out _, HR3.out⟩, by simp [intOf]; omega⟩
        · have hr0 : res = false := by rw [hR]; simp [hcdd]
          have g0 : decide (c = d) = false := decide_eq_false hcdd
          clear hR
          subst hr0
          go_wp2
          go_quiet (fail)
          go_wp2
          go_ret
          exact ⟨rfl, belowN HB.out _⟩
      · obtain rfl : k = n := by omega
        have hr0 : res = true := by
          obtain ⟨hn, hn2⟩ := HL.out
          rw [HR2.out, List.drop_of_length_le (by omega), List.drop_of_length_le (by omega)]
          rfl
        subst hr0
        go_wp2
        go_ret
        exact ⟨rfl, HB.out⟩
  · have e : decide (s = t) = false := decide_eq_false fun q => hl (by rw [q])
    rw [e]
    have hlI : ¬ ((s.length : Int) = t.length) := by omega
    clear e hs ht
    go_enter Try.func29, Try.ntmps29
    go_wp2
    go_ret
    exact ⟨rfl, Below.refl _ _⟩
end Go.Proofs.Ytbnbbelkddbndaa
/- The chapter's five ops: in memory, and what After, Block and Pending make of them; no condition. -/
namespace Go.Proofs.Ytbnbbelkddbndaa
open Go.RowKit Go.Maps
def partsFrom : Nat → List (Array Value) → List (Nat × Value)
  | _, [] => []
  | k, c :: t => (k, .agg c) :: partsFrom (k + 1) t
theorem fill_seq (n : Nat) : ∀ (cs : List (Array Value)) (k : Nat) (z : Array Value), (∀ c ∈ cs, c.size = n) → z.size = (k + cs.length) * n → Instr.fill (fun i => some (i * n, n)) z (partsFrom k cs) = some (z.toList.take (k * n) ++ cs.flatMap (·.toList)).toArray
  | [], k, z, _, hz => by
    unfold partsFrom Instr.fill
    simp only [List.length_nil, Nat.add_zero] at hz
    rw [List.flatMap_nil, List.append_nil, List.take_of_length_le (by rw [Array.length_toList, hz]; omega)]
  | c :: t, k, z, hc, hz => by
    have h0 : c.size = n := hc c (by simp)
    have hle : k * n + n ≤ z.size := by
      rw [hz, List.length_cons, show (k + (t.length + 1)) = (k + 1) + t.length by omega, Nat.add_mul (k + 1), Nat.succ_mul]
      omega
    unfold partsFrom Instr.fill
    simp only
    rw [if_neg (by simp [Value.cells, h0]; omega)]
    simp only [Value.cells]
    rw [fold_over (k * n) c z (by omega)]
    have hs : (z.toList.take (k * n) ++ (c.toList ++ z.toList.drop (k * n + c.size))).toArray.size = z.size := by
      rw [List.size_toArray, List.length_append, List.length_append, List.length_take, List.length_drop, Array.length_toList, Array.length_toList]
      omega
    rw [fill_seq n t (k + 1) _ (fun d hd => hc d (by simp [hd])) (by rw [hs, hz, List.length_cons]; congr 1; omega)]
    congr 2
    rw [List.toList_toArray]
    have hl : (z.toList.take (k * n) ++ c.toList).length = (k + 1) * n := by
      rw [List.length_append, List.length_take, Array.length_toList, Array.length_toList, Nat.succ_mul]
      omega
    rw [← List.append_assoc, ← hl, List.take_left, List.flatMap_cons, List.append_assoc]
theorem build5 (rs : List Rec) (h5 : rs.length = 5) (u : World) : (Instr.buildSlice 25 5 (partsFrom 0 (rs.map fun r => (recCells r).toArray)).toArray).run Try.prog u = .ok (.slice (some ⟨u.heap.size, 0, none⟩) 5 5) (u.alloc (.cells (opCells rs).toArray 42)) := by
  refine run_buildSlice_gen u 25 42 5 1026 _ _ _ Try.underlying25 (Try.sizeOf42 u) (by omega) (by omega) (zero108 u) ?_
  rw [List.toList_toArray, fill_seq 1026 _ 0 _ (fun c hc => ?_) (by rw [Array.size_map, Array.size_range, List.length_map, h5])]
  · rw [Nat.zero_mul, List.take_zero, List.nil_append]
    congr 2
    unfold opCells
    rw [List.flatMap_map]
  · obtain ⟨r, _, rfl⟩ := List.mem_map.1 hc
    exact rec_size r
theorem recs_row {w : World} {g : Nat} {rs : List Rec} {t : TypeId} (h : w.heap[g]? = some (.cells (opCells rs).toArray t)) : RecsAt w g 0 rs := fun k r hr => by
  have key : ∀ j, j < 1026 → w.cell? ⟨g, 0 + k * 1026 + j, none⟩ = (recCells r)[j]? := fun j hj => by
    rw [cell_of_row w g _ _ t _ h, List.getElem?_toArray, Nat.zero_add, opCells_get rs k j r hr hj]
  refine ⟨(key 0 (by omega)).trans rfl, (key 1 (by omega)).trans rfl, fun j v hv => ?_⟩
  have hj : j < 1024 := by have := (List.getElem?_eq_some_iff.1 hv).1; rwa [blk_list_len] at this
  have := key (j + 2) (by omega)
  rw [show 0 + k * 1026 + 2 + j = 0 + k * 1026 + (j + 2) by omega, this]
  rw [show (recCells r)[j + 2]? = (blk r.dat).toList[j]? by simp only [recCells, List.getElem?_cons_succ]]
  exact hv
theorem ops_row {w : World} {g : Nat} {rs : List Rec} {t : TypeId} (h : w.heap[g]? = some (.cells (opCells rs).toArray t)) : OpsAt w (some ⟨g, 0, none⟩) rs := fun _ => ⟨g, 0, rfl, (Array.getElem?_eq_some_iff.1 h).1, recs_row h⟩
theorem cels_row {w : World} {g : Nat} {l : List Cel} {t : TypeId} (h : w.heap[g]? = some (.cells (celCells l).toArray t)) : CelsAt w g 0 l := fun k c hc => by
  have key : ∀ j, j < 1025 → w.cell? ⟨g, 0 + k * 1025 + j, none⟩ = (celRow c)[j]? := fun j hj => by
    have hin : k * 1025 + j < (celCells l).length := by
      have := (List.getElem?_eq_some_iff.1 hc).1
      rw [celCells_len]
      simp only [Nat.mul_comm _ 1025] at *
      omega
    rw [cell_of_row w g _ _ t _ h, List.getElem?_toArray, Nat.zero_add]
    have gen : ∀ (l : List Cel) (k : Nat), l[k]? = some c → (celCells l)[k * 1025 + j]? = (celRow c)[j]? := by
      intro l
      induction l with
      | nil => intro k hk; simp at hk
      | cons x t ih =>
        intro k hk
        show (celRow x ++ celCells t)[k * 1025 + j]? = _
        cases k with
        | zero =>
          have e : x = c := by simpa using hk
          subst e
          rw [Nat.zero_mul, Nat.zero_add, List.getElem?_append_left (by rw [celRow_len]; exact hj)]
        | succ k =>
          rw [List.getElem?_append_right (by rw [celRow_len, Nat.succ_mul]; omega), celRow_len, show (k + 1) * 1025 + j - 1025 = k * 1025 + j by rw [Nat.succ_mul]; omega]
          exact ih k (by simpa using hk)
    exact gen l k hc
  refine ⟨(key 0 (by omega)).trans rfl, fun j v hv => ?_⟩
  have hj : j < 1024 := by have := (List.getElem?_eq_some_iff.1 hv).1; rwa [blk_list_len] at this
  rw [show 0 + k * 1025 + 1 + j = 0 + k * 1025 + (j + 1) by omega, key (j + 1) (by omega)]
  unfold celRow
  rw [List.getElem?_cons_succ]
  exact hv
theorem img_row {w : World} {g : Nat} {l : List Cel} {t : TypeId} (h : w.heap[g]? = some (.cells (celCells l).toArray t)) : ImgAt w (some ⟨g, 0, none⟩) l := fun _ => ⟨g, 0, rfl, (Array.getElem?_eq_some_iff.1 h).1, cels_row h⟩
theorem img_unique {n : Int} {c : Con} {l l' : List Cel} (h : IsImg n c l) (hr : Rise (-1) l') (hs : Sound l') (ha : ∀ k, atL l' k = (c k).getD nought) : l = l' :=
  rise_ext h.rise hr h.sound hs fun k => (h.at_ k).trans (ha k).symm
section
variable (A B C : Nat → Int)
/-- The chapter's ops. -/
def fiveR : List Rec := [⟨1, 1, A⟩, ⟨2, 0, nought⟩, ⟨1, 1, B⟩, ⟨1, 2, C⟩, ⟨1, 1, A⟩]
end
variable {A B C : Nat → Int}
theorem five_sure : sureN (fiveR A B C) = 2 := rfl
theorem five_take : (fiveR A B C).take 5 = fiveR A B C := rfl
theorem five_may {n : Int} (h : n = 4) (k : Int) (hk : 0 ≤ k ∧ k ≤ 5) : pmayB n [] (fiveR A B C) k = true := by
  subst h
  unfold pmayB mayB bndB risesB
  simp [fiveR, opOk]
  omega
theorem five_can (hA : Can A) (hB : Can B) (hC : Can C) : ∀ r ∈ fiveR A B C, Can r.dat := fun r hr => by
  simp only [fiveR, List.mem_cons, List.not_mem_nil, or_false] at hr
  rcases hr with rfl | rfl | rfl | rfl | rfl
  · exact hA
  · exact can_nought
  · exact hB
  · exact hC
  · exact hA
theorem five_made : madeL [] (fiveR A B C) = [(1, A)] := rfl
theorem five_made1 : madeL [true] (fiveR A B C) = [(1, A), (1, B)] := rfl
theorem five_made2 : madeL [false, true] (fiveR A B C) = [(1, A), (2, C)] := rfl
theorem five_pend : pendL (fiveR A B C) = [2, 3, 4] := rfl
theorem five_block (hA : Can A) (hB : Can B) (hAB : A ≠ B) : blockL [] (fiveR A B C) 1 = [A, B] := by
  have hl : lastB 1 nought ([] ++ madeL [] (fiveR A B C)) = A := by rw [five_made]; rfl
  have h1 : sameB A B = false := by
    cases q : sameB A B
    · rfl
    · exact absurd ((hA.same hB).1 q) hAB
  unfold blockL
  rw [hl, five_pend]
  have s2 : stepB (fiveR A B C) 1 [A] 2 = [A, B] := by
    have e : (fiveR A B C)[(2 : Int).toNat]? = some ⟨1, 1, B⟩ := rfl
    unfold stepB
    rw [e]
    simp only [if_true]
    unfold tellL inB
    simp [h1]
  have s3 : stepB (fiveR A B C) 1 [A, B] 3 = [A, B] := rfl
  have s4 : stepB (fiveR A B C) 1 [A, B] 4 = [A, B] := by
    have e : (fiveR A B C)[(4 : Int).toNat]? = some ⟨1, 1, A⟩ := rfl
    unfold stepB
    rw [e]
    simp only [if_true]
    unfold tellL inB
    simp [sameB_self]
  simp only [List.foldl_cons, List.foldl_nil, s2, s3, s4]
theorem sound1 {k : Int} {X : Nat → Int} (h : Can X) (hn : X ≠ nought) : Sound [(k, X)] := sound_one h hn
theorem five_img1 {n : Int} {l : List Cel} (hA : Can A) (hB : Can B) (hnB : B ≠ nought) (h : IsImg n (afterC [] ((fiveR A B C).take 5) [true]) l) : l = [(1, B)] := by
  refine img_unique h ⟨by omega, trivial⟩ (sound_one hB hnB) fun k => ?_
  unfold afterC
  rw [five_take, List.nil_append, five_made1, lastB_hold k _ _ (by intro x hx; simp at hx; rcases hx with rfl | rfl; exact hA; exact hB)]
  show (if (1 : Int) = k then B else nought) = if (1 : Int) = k then B else if (1 : Int) = k then A else nought
  split <;> rfl
end Go.Proofs.Ytbnbbelkddbndaa
/- What is cut at a barrier is the whole; an image that After tells may be; no condition. -/
namespace Go.Proofs.Ytbnbbelkddbndaa
open Go.RowKit Go.Maps
theorem rises_of {n : Int} : ∀ {l : List Cel} {m : Int}, Rise m l → Sound l → (∀ c ∈ l, c.1 < n) → risesB n m l = true
  | [], _, _, _, _ => rfl
  | c :: t, m, hr, hs, ht => by
    have h1 : m < c.1 := hr.1
    have h2 := ht c (by simp)
    have h3 := hs c (by simp)
    have h4 : blankB c.2 = false := blank_no h3.1 h3.2
    unfold risesB
    rw [rises_of hr.2 (fun d hd => hs d (List.mem_cons_of_mem _ hd)) (fun d hd => ht d (List.mem_cons_of_mem _ hd)), h4]
    simp
    omega
theorem may_img {n : Int} {c : Con} {l : List Cel} (hn : bndB n = true) (h : IsImg n c l) : mayB n l = true := by
  unfold mayB
  have e : risesB n (-1) l = true := rises_of h.rise h.sound h.top
  rw [hn, e]
  rfl
theorem rise_len {n : Int} : ∀ {l : List Cel} {m : Int}, Rise m l → (∀ c ∈ l, c.1 < n) → m < n → (l.length : Int) ≤ n - m - 1
  | [], _, _, _, h => by simp; omega
  | c :: t, m, hr, ht, h => by
    have h1 : m < c.1 := hr.1
    have h2 := ht c (by simp)
    have ih := rise_len hr.2 (fun d hd => ht d (List.mem_cons_of_mem _ hd)) h2
    simp only [List.length_cons]
    omega
theorem img_len {n : Int} {c : Con} {l : List Cel} (hn : bndB n = true) (h : IsImg n c l) : l.length ≤ 1048576 := by
  have h1 : 1 ≤ n ∧ n ≤ 1048576 := by simpa [bndB] using hn
  have := rise_len h.rise h.top (by show (-1 : Int) < n; omega)
  show l.length ≤ 1048576
  have e : ((conS n c).n) = n := rfl
  rw [e] at this
  omega
theorem img_can {n : Int} {c : Con} {l : List Cel} (h : IsImg n c l) : ∀ d ∈ l, Can d.2 := fun d hd => (h.sound d hd).1
/-- In a rising list the last that has a number is the first. -/
theorem lastB_rise (k : Int) : ∀ {l : List Cel} {m : Int} {b : Nat → Int}, Rise m l → lastB k b l = if k ∈ l.map (·.1) then atL l k else b
  | [], _, _, _ => rfl
  | (i, x) :: t, m, b, hr => by
    show lastB k (if i = k then x else b) t = _
    rw [lastB_rise k hr.2]
    by_cases e : i = k
    · subst e
      have hn : i ∉ t.map (·.1) := fun hm => by
        have gen : ∀ {t : List Cel} {m : Int}, Rise m t → ∀ y ∈ t.map (·.1), m < y := by
          intro t
          induction t with
          | nil => intro m _ y hy; simp at hy
          | cons c t ih =>
            intro m hr y hy
            rcases List.mem_cons.1 hy with rfl | hy
            · exact hr.1
            · have := ih hr.2 y hy
              have := hr.1
              omega
        have := gen hr.2 i hm
        omega
      simp [hn, atL]
    · by_cases hm : k ∈ t.map (·.1)
      · simp [hm, atL, e]
      · have hm2 : k ∉ ((i, x) :: t).map (·.1) := by
          simp only [List.map_cons, List.mem_cons]
          rintro (q | q)
          · exact e q.symm
          · exact hm q
        rw [if_neg hm, if_neg hm2, if_neg e]
theorem atL_none {k : Int} : ∀ {l : List Cel}, k ∉ l.map (·.1) → atL l k = nought
  | [], _ => rfl
  | (i, x) :: t, h => by
    unfold atL
    rw [if_neg fun e => h (by simp [e]), atL_none fun q => h (by simp only [List.map_cons, List.mem_cons]; exact .inr q)]
theorem lastB_at (k : Int) {l : List Cel} {m : Int} (hr : Rise m l) : lastB k nought l = atL l k := by
  rw [lastB_rise k hr]
  split
  · rfl
  · rename_i h
    exact (atL_none h).symm
/-- What stands at a number in what After tells. -/
theorem after_at {n : Int} {l l' : List Cel} {fs : List Rec} {keep : List Bool} (hl : ∀ c ∈ l, Can c.2) (hf : ∀ r ∈ fs, Can r.dat) (h : IsImg n (afterC l fs keep) l') (k : Int) : atL l' k = lastB k nought (l ++ madeL keep fs) := by
  rw [h.at_ k]
  show ((holdCs noC (l ++ madeL keep fs)) k).getD nought = _
  rw [lastB_hold k _ _ fun x hx => (List.mem_append.1 hx).elim (hl x) (madeL_can hf x)]
  rfl
theorem sureN_append : ∀ (a m : List Rec), sureN (a ++ m) = if sureN m = 0 then sureN a else a.length + sureN m
  | [], m => by simp [sureN]
  | r :: t, m => by
    have ih := sureN_append t m
    show (if sureN (t ++ m) = 0 then (if r.kind = 2 then 1 else 0) else sureN (t ++ m) + 1) = _
    rw [ih]
    by_cases h : sureN m = 0
    · simp only [h, if_true]
      rfl
    · simp only [h, if_false, List.length_cons]
      rw [if_neg (by omega)]
      omega
theorem sureN_bar (a : List Rec) : sureN (a ++ [⟨2, 0, nought⟩]) = a.length + 1 := by
  rw [sureN_append]
  rfl
theorem madeGo_all {keep keep' : List Bool} {N N' : Nat} : ∀ (l : List Rec) (i : Nat), i + l.length ≤ N → i + l.length ≤ N' → madeGo keep N i l = madeGo keep' N' i l
  | [], _, _, _ => rfl
  | r :: t, i, h, h' => by
    simp only [List.length_cons] at h h'
    have e : isMade keep N i r = isMade keep' N' i r := by
      unfold isMade
      rw [decide_eq_true (show i < N by omega), decide_eq_true (show i < N' by omega)]
      rfl
    unfold madeGo
    rw [e, madeGo_all (keep := keep) (keep' := keep') (N := N) (N' := N') t (i + 1) (by omega) (by omega)]
theorem madeGo_shift {keep : List Bool} (d N : Nat) : ∀ (l : List Rec) (i : Nat), madeGo keep (d + N) (d + i) l = madeGo keep N i l
  | [], _ => rfl
  | r :: t, i => by
    have e : isMade keep (d + N) (d + i) r = isMade keep N i r := by
      unfold isMade
      rw [show d + i - (d + N) = i - N by omega]
      congr 2
      simp
    unfold madeGo
    rw [e, Nat.add_assoc, madeGo_shift d N t (i + 1)]
/-- Cut at a barrier. -/
theorem made_cut (keep : List Bool) (a m : List Rec) : madeL keep (a ++ [⟨2, 0, nought⟩] ++ m) = madeL [] (a ++ [⟨2, 0, nought⟩]) ++ madeL keep m := by
  unfold madeL
  have hs : sureN (a ++ [⟨2, 0, nought⟩] ++ m) = (a ++ [(⟨2, 0, nought⟩ : Rec)]).length + sureN m := by
    rw [sureN_append, sureN_bar]
    split
    · rename_i h
      rw [h]
      simp
    · rfl
  rw [hs, madeGo_append, sureN_bar]
  congr 1
  · exact madeGo_all _ _ (by omega) (by simp)
  · rw [Nat.zero_add]
    have := madeGo_shift (keep := keep) (a ++ [(⟨2, 0, nought⟩ : Rec)]).length (sureN m) m 0
    rwa [Nat.add_zero] at this
theorem cut_same {n : Int} {l la lb lw : List Cel} {a m : List Rec} {keep : List Bool} (hl : ∀ c ∈ l, Can c.2) (ha : ∀ r ∈ a, Can r.dat) (hm : ∀ r ∈ m, Can r.dat)
    (h1 : IsImg n (afterC l (a ++ [⟨2, 0, nought⟩]) []) la) (h2 : IsImg n (afterC la m keep) lb) (h3 : IsImg n (afterC l (a ++ [⟨2, 0, nought⟩] ++ m) keep) lw) : lb = lw := by
  have hab : ∀ r ∈ a ++ [(⟨2, 0, nought⟩ : Rec)], Can r.dat := fun r hr => (List.mem_append.1 hr).elim (ha r) fun q => by
    have e : r = ⟨2, 0, nought⟩ := by simpa using q
    rw [e]
    exact can_nought
  have habm : ∀ r ∈ a ++ [(⟨2, 0, nought⟩ : Rec)] ++ m, Can r.dat := fun r hr => (List.mem_append.1 hr).elim (hab r) (hm r)
  refine rise_ext h2.rise h3.rise h2.sound h3.sound fun k => ?_
  rw [after_at (img_can h1) hm h2 k, after_at hl habm h3 k, lastB_append, lastB_at k h1.rise, after_at hl hab h1 k, made_cut, ← List.append_assoc, lastB_append k _ (l ++ _)]
theorem all_cut {n : Int} {l : List Cel} {a m : List Rec} : pmayB n l (a ++ m) ((a ++ m).length : Nat) = (pmayB n l a (a.length : Nat) && m.all (opOk n)) := by
  unfold pmayB
  rw [List.all_append]
  have e1 : decide ((((a ++ m).length : Nat) : Int) < 0) = false := decide_eq_false (by omega)
  have e2 : decide (((a.length : Nat) : Int) < 0) = false := decide_eq_false (by omega)
  have e3 : decide ((((a ++ m).length : Nat) : Int) > (((a ++ m).length : Nat) : Int)) = false := decide_eq_false (by omega)
  have e4 : decide (((a.length : Nat) : Int) > ((a.length : Nat) : Int)) = false := decide_eq_false (by omega)
  rw [e1, e2, e3, e4]
  cases mayB n l <;> cases a.all (opOk n) <;> simp
end Go.Proofs.Ytbnbbelkddbndaa
