/- Several texts joined, each with its own remark; no condition. -/
import Derived.Test.YtencclpcebpgmaaP11
import Derived.Test.YtencclpcebpgmaaP6
import Derived.Test.YtencclpcebpgmaaP5
import Derived.Test.YtencclpcebpgmaaP4
import Derived.Test.YtencclpcebpgmaaP7
import Derived.Test.YtencclpcebpgmaaP10
import Derived.Test.YtencclpcebpgmaaP8
import Derived.Test.YtencclpcebpgmaaP1
import Derived.Deep.Cut
import Derived.Deep.CutRange
/- The document's cache: Read; lists up to a million. -/
namespace Go.Proofs.Ytencclpcebpgmaa
open Go.RowKit Go.Maps
variable {w w' : World} {g d n g0 : Nat} {v : Value} {s : CSt} {R : RL} {t : RD}
def nowR (t : RD) (k : Int) : Nat → Int := t.now.getD k.toNat nought
def reB (n : Nat) (s : CSt) (t : RD) (k : Int) : Nat → Int := if uE n s t k = 0 then (match atR s.row k with | some h => h.dat | none => nowR t k) else nought
def reC (n : Nat) (s : CSt) (t : RD) (k : Int) : CSt := if uE n s t k = 0 then (match atR s.row k with | some h => { s with row := goneR s.row k ++ [h] } | none => { s with row := placeR s.size s.row ++ [⟨k, false, nowR t k⟩] }) else s
def reD (n : Nat) (s : CSt) (t : RD) (k : Int) : RD := if uE n s t k = 0 then (match atR s.row k with | some _ => t | none => { t with reads := t.reads + 1 }) else t
theorem RPr.setRow {W : World} (h : RPr W g R v n s t) (hne : ∀ k, R.has k ∨ rcHas g v k → k ≠ g0) (cs : Array Value) : RPr (W.setRow g0 cs) g R v n s t :=
  ⟨h.c.kept fun k hk => setRow_other W g0 k cs (hne k (.inr hk)), h.d.kept fun k hk => setRow_other W g0 k cs (hne k (.inl hk))⟩
theorem Fr.outRow {T : Nat → Prop} {W : World} (h : Fr T w W) (hg : w.heap.size ≤ g0) (cs : Array Value) : Fr T w (W.setRow g0 cs) :=
  h.trans (Fr.setRow W g0 cs) fun i hi (q : i = g0) => by omega
theorem exec_b103f {o : Oper} {a : Act} {x y : Operand} {p : Int} {f : Nat → Int} {W : World} (ho : o.op = .build 103 #[(0, x), (1, y)]) (hx : a.eval x = .int .i64 p) (hy : a.eval y = .agg (blk f)) : (execOp a.eval o).run Try.prog W = .ok (.value (.agg (enH ⟨p, false, f⟩).toArray)) W := by
  have e := build103f p f W
  generalize (enH ⟨p, false, f⟩).toArray = Z at *
  generalize blk f = Y at *
  simp [execOp, ho, hx, hy, e]
theorem wpList_stNewH {ops : Array Oper} {rest : List Oper} {o : Oper} {a : Act} {W : World} {Q : Exit → Act → World → Prop} (hgd : o.guard = none) (x y : Operand) (ho : o.op = .store 103 x y)
    (c c0 : Hld) (b : Nat) (hb : b = W.heap.size) (hx : a.eval x = .pointer (some ⟨b, 0, none⟩)) (hy : a.eval y = .agg (enH c).toArray)
    (h : wpList Try.prog ops Q rest (a.put o.dst undef) (W.alloc (.cells (enH c).toArray 103))) : wpList Try.prog ops Q (o :: rest) a (W.alloc (.cells (enH c0).toArray 103)) := by
  subst hb
  refine wpList_plain hgd fun _ hK => ?_
  have h1 : (enH c).toArray.all (·.oneCell') = true := by
    rw [Array.all_eq_true_iff_forall_mem]
    intro u hu
    exact oneH c u (by simpa using hu)
  have e := run_storeVar_row (P := Try.prog) (W.alloc (.cells (enH c0).toArray 103)) W.heap.size 103 103 (enH c0).toArray (enH c).toArray (heap_alloc_new _ _) (by rw [enH_size]; exact size103) (by rw [enH_size, enH_size]) h1
  rw [World.setRow_alloc_new] at e
  unfold Oper.wp execOp
  simp only [ho, hx, hy, Instr.storeAt, Instr.sureAddr, Sem.run_bind, Sem.run_pure, Result.andThen_ok, e]
  exact hK _ _ h
theorem RCk.rng (h : RCk w g d v s) {i b c : Nat} {x : Hld} (hx : s.row[i]? = some x) (hv : v = .slice (some ⟨b, 0, none⟩) s.row.length c) : RngH w b (i * 1026) x := by
  subst hv
  exact own_get lenH h.own hx
theorem RngH.dat {b off : Nat} {x : Hld} (h : RngH w b off x) : BlkAt w b (off + 1) x.dat := fun j u hu => by
  have := h (1 + j) u (enH_dat x j u hu)
  rwa [← Nat.add_assoc] at this
theorem RDk.has (h : RDk w R n t) {m : Nat} (hm : m < n) : t.now[m]? = some (nowR t m) := by
  have := h.ln
  unfold nowR
  rw [Int.toNat_natCast, List.getD_eq_getElem?_getD, List.getElem?_eq_getElem (by omega)]
  rfl
set_option maxRecDepth 20000 in
set_option maxHeartbeats 1000000 in
theorem read6 (h : RPr w g R v n s t) (hn : s.row.length ≤ 1000000) (hr : 0 ≤ t.reads ∧ t.reads < 9223372036854775807) (k : Int) : Calls Try.prog 44 #[.pointer (some ⟨g, 0, none⟩), .int .i64 k] w fun e w' => e = .returned (.tuple #[.agg (blk (reB n s t k)), .int .i64 (uE n s t k)]) ∧ ∃ v', RPr w' g R v' n (reC n s t k) (reD n s t k) ∧ Fr (fun i => rcHas g v i ∨ R.has i) w w' ∧ ∀ k, v'.ownBlock = some k → v.ownBlock = some k ∨ w.heap.size ≤ k := by
  have hb0 := below_new w (.cells (blk nought) 59)
  have h1 := h.later hb0
  have HB0 := hidd hb0
  have hg1 := heap_alloc_new w (.cells (blk nought) 59)
  have hsz1 : w.heap.size < (w.alloc (.cells (blk nought) 59)).heap.size := by simp
  have c0 : (w.alloc (.cells (blk nought) 59)).cell? ⟨g, 0, none⟩ = some (.pointer (some ⟨R.g, 0, none⟩)) := h1.c.cell 0
  have c1 : (w.alloc (.cells (blk nought) 59)).cell? ⟨g, 1, none⟩ = some (.int .i64 s.size) := h1.c.cell 1
  have c2 : (w.alloc (.cells (blk nought) 59)).cell? ⟨g, 2, none⟩ = some v := h1.c.cell 2
  have hW := wrong6 h1.d k
  have hFi := find6 h1.c k hn
  have hbd := built58
  have z25 := zero25
  have HP := hidd h
  have H1 := hidd h1
  have HNE : Hid (∀ i, R.has i ∨ rcHas g v i → i ≠ w.heap.size) := fun i hi q => by
    rcases hi with hi | hi
    · have := h.d.lt hi; omega
    · have := h.c.lt hi; omega
  have hgw : g < w.heap.size := h.c.lt (.inl rfl)
  have HF0 : Hid (Fr (fun i => rcHas g v i ∨ R.has i) w (w.alloc (.cells (blk nought) 59))) := Fr.ofBelow hb0
  clear h h1 hb0
  by_cases hz : wrE n t k = 0
  · rw [hz] at hW
    rcases idxR_gone s.row k with ⟨e1, e2, e3⟩ | ⟨i, e1, e2, e3, e4, e5⟩
    · rw [e1] at hFi
      by_cases hfu : (fastN s.row : Int) = s.size
      · have eu : uE n s t k = 160 := by unfold uE; rw [if_pos hz, if_pos ⟨e2, hfu⟩]
        have eb : reB n s t k = nought := by unfold reB; rw [eu, if_neg (by omega)]
        have ec : reC n s t k = s := by unfold reC; rw [eu, if_neg (by omega)]
        have ed : reD n s t k = t := by unfold reD; rw [eu, if_neg (by omega)]
        rw [eu, eb, ec, ed]
        have hq : ∀ m, Calls Try.prog 28 #[.pointer (some ⟨g, 0, none⟩)] ((w.alloc (.cells (blk nought) 59)).drewN m) fun e w' => e = .returned (.int .i64 s.size) ∧ w' = (w.alloc (.cells (blk nought) 59)).drewN m := fun m => by
          have := fast6 (H1.out.later (below_drewN _ m)).c hn
          rwa [hfu] at this
        clear hz e1 e2 e3 hgw eu eb ec ed hfu c2
        generalize s.size = sz at *
        generalize nought = N at *
        go_enter Try.func44, Try.ntmps44
        go_wp2_with (first | (go_at_call 59; refine hW.mono ?_; rintro e W ⟨rfl, rfl⟩) | (go_at_call 60; refine hFi.mono ?_; rintro e W ⟨rfl, rfl⟩))
        go_quiet (first | (go_at_call 28; refine Calls.quiet_of_same (hq _)))
        have HB := hidd (below_drewN (w.alloc (.cells (blk N) 59)) nq)
        have hR0 : ((w.alloc (.cells (blk N) 59)).drewN nq).heap[w.heap.size]? = some (.cells (blk N) 59) := (HB.out.block _ hsz1).trans hg1
        have HC := hidd ((H1.out.later HB.out).setRow HNE.out (blk N))
        have HF := hidd (Fr.outRow (HF0.out.trans (Fr.ofBelow (T := fun _ => False) HB.out) fun _ _ q => q.elim) (Nat.le_refl _) (blk N))
        clear hq
        generalize (w.alloc (.cells (blk N) 59)).drewN nq = V at *
        go_wp2_with (first | refine wpList_build58 rfl rfl hbd ?_ | refine wpList_store25 rfl (.tmp 4) (.tmp 43) rfl w.heap.size N rfl rfl _ hR0 ?_)
        exact retBT rfl w.heap.size N rfl (setRow_heap _ _ _ _ _ _ hR0) rfl ⟨rfl, _, HC.out, HF.out, fun _ q => .inl q⟩
      · have eu : uE n s t k = 0 := by unfold uE; rw [if_pos hz, if_neg (fun q => hfu q.2)]
        have eb : reB n s t k = nowR t k := by unfold reB; rw [eu, if_pos rfl, e2]
        have ec : reC n s t k = { s with row := placeR s.size s.row ++ [⟨k, false, nowR t k⟩] } := by unfold reC; rw [eu, if_pos rfl, e2]
        have ed : reD n s t k = { t with reads := t.reads + 1 } := by unfold reD; rw [eu, if_pos rfl, e2]
        rw [eu, eb, ec, ed]
        obtain ⟨hk0, hkn⟩ := wrE_zero hz
        obtain ⟨m, rfl⟩ : ∃ m : Nat, k = m := ⟨k.toNat, by omega⟩
        have HM := hidd (H1.out.d.has (m := m) (by omega))
        have hq : ∀ j, Calls Try.prog 28 #[.pointer (some ⟨g, 0, none⟩)] ((w.alloc (.cells (blk nought) 59)).drewN j) fun e w' => e = .returned (.int .i64 (fastN s.row : Int)) ∧ w' = (w.alloc (.cells (blk nought) 59)).drewN j := fun j => fast6 (H1.out.later (below_drewN _ j)).c hn
        have hne : ((fastN s.row : Int) == s.size) = false := by simp [hfu]
        have HG := hidd (gone_place (m := s.size) e2)
        have HPl : Hid (∀ j, Calls Try.prog 62 #[.pointer (some ⟨g, 0, none⟩)] ((w.alloc (.cells (blk nought) 59)).drewN j) _) := fun j => place6 (H1.out.later (below_drewN _ j)).c hn
        have hw : IntKind.i64.wrap (t.reads + 1) = t.reads + 1 := by rw [IntKind.wrap_i64]; omega
        have hvlt : ∀ i, v.ownBlock = some i → i < w.heap.size := fun i q => HP.out.c.lt (.inr q)
        clear hz e1 e2 e3 eu eb ec ed hfu c2 hr
        generalize nowR t m = f at *
        generalize hX : (enH ⟨m, false, f⟩).toArray = X at *
        generalize (fastN s.row : Int) = fz at *
        generalize hszz : s.size = sz at *
        generalize nought = N at *
        go_enter Try.func44, Try.ntmps44
        go_wp2_with (first | (go_at_call 59; refine hW.mono ?_; rintro e W ⟨rfl, rfl⟩) | (go_at_call 60; refine hFi.mono ?_; rintro e W ⟨rfl, rfl⟩))
        go_quiet (first | (go_at_call 28; refine Calls.quiet_of_same (hq _)))
        have HB := hidd (below_drewN (w.alloc (.cells (blk N) 59)) nq)
        go_wp2_with (go_at_call 62; fail)
        refine (HPl.out nq).mono ?_
        rintro e W2 ⟨rfl, v1, hC1, hF1, hN1⟩
        have hH1 := H1.out.later HB.out
        generalize hw1 : w.alloc (.cells (blk N) 59) = w1 at *
        generalize hVV : w1.drewN nq = V at *
        have hs1 : w1.heap.size ≤ V.heap.size := HB.out.size
        have hs2 : V.heap.size ≤ W2.heap.size := hF1.size
        have hP1 := hH1.ofC hC1 (hF1.mono fun i _ (q : i = g) => (.inl q : rcHas g v i))
        have hD2 := hP1.d.set (j := 4) (u := .int .i64 (t.reads + 1)) (s' := { t with reads := t.reads + 1 }) rfl rfl rfl
        have hFs := Fr.setCell W2 R.g 4 (.int .i64 (t.reads + 1))
        have hP2 := hP1.ofD hD2 (hFs.mono fun i _ (q : i = R.g) => (.inl q : R.has i))
        have a0 : W2.cell? ⟨g, 0, none⟩ = some (.pointer (some ⟨R.g, 0, none⟩)) := hP1.c.cell 0
        have r4 : W2.cell? ⟨R.g, 4, none⟩ = some (.int .i64 t.reads) := hP1.d.cell 4
        have f4 := hP1.d.free 4
        have hRg : R.g < w.heap.size := HP.out.d.lt (.inl rfl)
        have hR2 : (W2.setCell ⟨R.g, 4, none⟩ (.int .i64 (t.reads + 1))).heap[w.heap.size]? = some (.cells (blk N) 59) := (hFs.block _ (by omega) fun (q : w.heap.size = R.g) => by omega).trans ((hF1.block _ (by omega) fun (q : w.heap.size = g) => by omega).trans ((HB.out.block _ hsz1).trans hg1))
        have hs3 : W2.heap.size ≤ (W2.setCell ⟨R.g, 4, none⟩ (.int .i64 (t.reads + 1))).heap.size := hFs.size
        have hFa : Fr (fun i => (rcHas g v i ∨ R.has i) ∨ V.heap.size ≤ i) w (W2.setCell ⟨R.g, 4, none⟩ (.int .i64 (t.reads + 1))) := (((HF0.out.mono fun i _ q => .inl q).trans (Fr.ofBelow (T := fun _ => False) HB.out) fun _ _ q => q.elim).trans hF1 fun i _ (q : i = g) => .inl (.inl (.inl q))).trans hFs fun i _ (q : i = R.g) => .inl (.inr (.inl q))
        generalize hV2 : W2.setCell ⟨R.g, 4, none⟩ (.int .i64 (t.reads + 1)) = V2 at *
        have a0' : V2.cell? ⟨g, 0, none⟩ = some (.pointer (some ⟨R.g, 0, none⟩)) := hP2.c.cell 0
        have d0' : V2.cell? ⟨R.g, 0, none⟩ = some (.slice (some ⟨R.pn, 0, none⟩) n R.cn) := hP2.d.cell 0
        have bk' : BlkAt V2 R.pn (m * 1024) f := hP2.d.atNow HM.out
        have HLa := hidd (last6 hP2.c (Nat.le_trans (place_len _ _) hn) ⟨m, false, f⟩)
        rw [hX] at HLa
        have HP2 := hidd hP2
        have HFa := hidd hFa
        have HN1 := hidd hN1
        clear hC1 hF1 hN1 hq HPl hg1 hP1 hD2 hFs hP2 hFa hH1 hW hFi c0 c1
        go_wp2_with (first | refine wpList_loadM rfl (.tmp 66) rfl R.pn (m * 1024) rfl f bk' ?_ | (refine wpList_exec rfl (exec_b103f (x := .tmp 57) (y := .tmp 67) (p := m) (f := f) rfl rfl rfl) ?_; rw [hX]) | (go_at_call 61; fail))
        refine HLa.out.mono ?_
        rintro e W4 ⟨rfl, v', hC, hF, hN⟩
        have hP4 := HP2.out.ofC hC hF
        have b0 : W4.cell? ⟨g, 0, none⟩ = some (.pointer (some ⟨R.g, 0, none⟩)) := hP4.c.cell 0
        have e0 : W4.cell? ⟨R.g, 0, none⟩ = some (.slice (some ⟨R.pn, 0, none⟩) n R.cn) := hP4.d.cell 0
        have bk4 : BlkAt W4 R.pn (m * 1024) f := hP4.d.atNow HM.out
        have hv1 : ∀ i, v1.ownBlock = some i → i ≠ w.heap.size := fun i q => by
          rcases HN1.out i q with q | q
          · have := hvlt i q
            omega
          · omega
        have hR0 : W4.heap[w.heap.size]? = some (.cells (blk N) 59) := (hF.block _ (by omega) fun q => by
          rcases q with q | q
          · omega
          · exact hv1 _ q rfl).trans hR2
        have hFF : Fr (fun i => rcHas g v i ∨ R.has i) w W4 := by
          refine (HFa.out.trans hF fun i _ q => ?_).mono fun i hi q => q.resolve_right (by omega)
          rcases q with q | q
          · exact .inl (.inl (.inl q))
          · exact (HN1.out i q).imp (fun q => .inl (.inr q)) id
        have HC : Hid (RPr (W4.setRow w.heap.size (blk f)) g R v' n ⟨sz, placeR sz s.row ++ [⟨m, false, f⟩]⟩ { t with reads := t.reads + 1 }) := by
          have hset := hP4.setRow (g0 := w.heap.size) (fun i hi => by
            rcases hi with hi | hi | hi
            · exact HNE.out i (.inl hi)
            · omega
            · rcases hN i hi with q | q
              · exact hv1 i q
              · omega) (blk f)
          have e : goneR (placeR sz s.row) m = placeR sz s.row := HG.out
          rw [e] at hset
          exact hset
        have HF := hidd (Fr.outRow hFF (Nat.le_refl _) (blk f))
        have HN : Hid (∀ i, v'.ownBlock = some i → v.ownBlock = some i ∨ w.heap.size ≤ i) := fun i hi => by
          rcases hN i hi with q | q
          · exact (HN1.out i q).imp id fun q => by omega
          · exact .inr (by omega)
        clear hC hF hN hFF hP4 HLa HP2 HFa HN1 hv1 a0 r4 f4 a0' d0' bk' hR2 HNE HF0 hvlt z25 hbd
        generalize hg0 : w.heap.size = g0 at *
        go_wp2_with (first | refine wpList_loadM rfl (.tmp 78) rfl R.pn (m * 1024) rfl f bk4 ?_ | refine wpList_store25 rfl (.tmp 4) (.tmp 79) rfl g0 f rfl rfl _ hR0 ?_)
        subst hg0
        exact retBT rfl _ f rfl (setRow_heap _ _ _ _ _ _ hR0) rfl ⟨rfl, _, HC.out, HF.out, HN.out⟩
    · have hx0 := Option.isSome_iff_exists.1 e5
      obtain ⟨x, hx⟩ := hx0
      rw [hx] at e4
      have eu : uE n s t k = 0 := by
        unfold uE
        rw [if_pos hz, if_neg]
        intro q
        rw [hx] at q
        simp at q
      have eb : reB n s t k = x.dat := by unfold reB; rw [eu, if_pos rfl, hx]
      have ec : reC n s t k = { s with row := goneR s.row k ++ [x] } := by unfold reC; rw [eu, if_pos rfl, hx]
      have ed : reD n s t k = t := by unfold reD; rw [eu, if_pos rfl, hx]
      have hxk : x.pos = k := by
        unfold atR at hx
        have := List.find?_some hx
        simpa using this
      rw [eu, eb, ec, ed]
      rw [e1] at hFi
      obtain ⟨b, c, hv, _⟩ := H1.out.c.at e4
      have hRg := H1.out.c.rng e4 hv
      have HLa := hidd (last6 (H1.out.later (below_new _ (.cells (enH x).toArray 103))).c hn x)
      rw [hxk] at HLa
      have HB1 := hidd (below_new (w.alloc (.cells (blk nought) 59)) (.cells (enH x).toArray 103))
      have hg8 := heap_alloc_new (w.alloc (.cells (blk nought) 59)) (.cells (enH x).toArray 103)
      have hsz2 : (w.alloc (.cells (blk nought) 59)).heap.size < ((w.alloc (.cells (blk nought) 59)).alloc (.cells (enH x).toArray 103)).heap.size := by simp
      have hB8 := RngH.of hg8
      have hs8 : (w.alloc (.cells (blk nought) 59)).heap.size = w.heap.size + 1 := by simp
      rw [hs8] at hB8
      have HS8 := hidd hs8.symm
      clear hs8
      have hi0 : ¬ ((i : Int) < 0) := by omega
      have hi3 : (i : Int) < s.row.length := by omega
      have z103 := zero103
      have hvlt : ∀ i, v.ownBlock = some i → i < w.heap.size := fun i q => HP.out.c.lt (.inr q)
      subst hv
      clear hz e1 e2 e3 e4 e5 eu eb ec ed hx
      generalize (⟨0, false, nought⟩ : Hld) = h0 at *
      generalize nought = N at *
      go_enter Try.func44, Try.ntmps44
      go_wp2_with (first | (go_at_call 59; refine hW.mono ?_; rintro e W ⟨rfl, rfl⟩) | (go_at_call 60; refine hFi.mono ?_; rintro e W ⟨rfl, rfl⟩) | refine wpList_loadH rfl (.tmp 29) rfl b (i * 1026) rfl x hRg ?_ | refine wpList_stNewH rfl (.tmp 8) (.tmp 30) rfl x h0 (w.heap.size + 1) HS8.out rfl rfl ?_ | refine wpList_loadH rfl (.tmp 8) rfl (w.heap.size + 1) 0 rfl x hB8 ?_ | (go_at_call 61; fail))
      refine HLa.out.mono ?_
      rintro e W3 ⟨rfl, v', hC, hF, hN⟩
      generalize hw2 : (w.alloc (.cells (blk N) 59)).alloc (.cells (enH x).toArray 103) = w2 at *
      generalize hw1 : w.alloc (.cells (blk N) 59) = w1 at *
      have hB := ((RngH.of ((hF.block _ hsz2 fun q => by
        rcases q with q | q
        · omega
        · have := hvlt _ q
          omega).trans hg8)) : RngH W3 w1.heap.size 0 x).dat
      have hR0 : W3.heap[w.heap.size]? = some (.cells (blk N) 59) := (hF.block _ (by omega) fun q => HNE.out _ (.inr q) rfl).trans ((HB1.out.block _ hsz1).trans hg1)
      have hFF := ((Fr.ofBelow (T := rcHas g (.slice (some ⟨b, 0, none⟩) s.row.length c)) HB0.out).trans (Fr.ofBelow (T := rcHas g (.slice (some ⟨b, 0, none⟩) s.row.length c)) HB1.out) fun _ _ q => q).trans hF fun _ _ q => q
      have hPx := HP.out.ofC hC hFF
      have HC := hidd (hPx.setRow (g0 := w.heap.size) (fun i hi => by
        rcases hi with hi | hi | hi
        · exact HNE.out i (.inl hi)
        · omega
        · rcases hN i hi with q | q
          · have := hvlt _ q
            omega
          · omega) (blk x.dat))
      have HF := hidd (Fr.outRow (hFF.mono fun i _ q => (.inl q : rcHas g (.slice (some ⟨b, 0, none⟩) s.row.length c) i ∨ R.has i)) (Nat.le_refl _) (blk x.dat))
      have HN : Hid (∀ i, v'.ownBlock = some i → (Value.slice (some ⟨b, 0, none⟩) s.row.length c).ownBlock = some i ∨ w.heap.size ≤ i) := fun i hi => (hN i hi).imp id fun q => by omega
      clear hC hF hN hFF hPx HLa hW hFi hRg hB8 c0 c1 c2 HNE HF0 hg1 hg8 hvlt z25 z103 hbd
      generalize hg0 : w.heap.size = g0 at *
      rw [← HS8.out, Nat.zero_add] at hB
      go_wp2_with (first | refine wpList_loadM rfl (.tmp 34) rfl (g0 + 1) 1 rfl x.dat hB ?_ | refine wpList_store25 rfl (.tmp 4) (.tmp 35) rfl g0 x.dat rfl rfl _ hR0 ?_)
      subst hg0
      exact retBT rfl _ x.dat rfl (setRow_heap _ _ _ _ _ _ hR0) rfl ⟨rfl, _, HC.out, HF.out, HN.out⟩
  · have eu : uE n s t k = wrE n t k := by unfold uE; rw [if_neg hz]
    have eb : reB n s t k = nought := by unfold reB; rw [eu, if_neg hz]
    have ec : reC n s t k = s := by unfold reC; rw [eu, if_neg hz]
    have ed : reD n s t k = t := by unfold reD; rw [eu, if_neg hz]
    have hne : (wrE n t k != 0) = true := by simp [hz]
    rw [eu, eb, ec, ed]
    have HC := hidd (H1.out.setRow HNE.out (blk nought))
    have HF := hidd (Fr.outRow HF0.out (Nat.le_refl _) (blk nought))
    clear eu eb ec ed hFi hgw hz H1 HNE HF0 c1 c2
    generalize wrE n t k = r at *
    generalize nought = N at *
    go_enter Try.func44, Try.ntmps44
    go_wp2_with (first | (go_at_call 59; refine hW.mono ?_; rintro e W ⟨rfl, rfl⟩) | refine wpList_build58 rfl rfl hbd ?_ | refine wpList_store25 rfl (.tmp 4) (.tmp 17) rfl w.heap.size N rfl rfl _ hg1 ?_)
    exact retBT rfl w.heap.size N rfl (setRow_heap _ _ _ _ _ _ hg1) rfl ⟨rfl, _, HC.out, HF.out, fun _ q => .inl q⟩
end Go.Proofs.Ytencclpcebpgmaa
/- The program's disk and the document's, side by side: what each call does to both; caches of one row answer alike; no condition. -/
namespace Go.Proofs.Ytencclpcebpgmaa
open Go.RowKit Go.Maps
structure Mate (s : St) (n : Nat) (t : RD) : Prop where
  num : s.n = n
  stop : t.stopped = s.stopped
  fuse : t.fuse = s.fuse
  reads : t.reads = s.reads
  made : t.made = s.made
  ln : t.now.length = n
  lh : t.held.length = n
  now : ∀ m : Nat, m < n → nowR t m = curV s m
  held : ∀ m : Nat, m < n → t.held.getD m nought = (s.held m).getD nought
variable {s : St} {n : Nat} {t : RD} {c : CSt}
theorem Mate.wr (h : Mate s n t) (k : Int) : wrE n t k = refV s k := by
  unfold wrE refV
  rw [h.stop, h.num]
theorem Mate.lt (h : Mate s n t) : ltB t = lets s := by
  unfold ltB lets
  rw [h.fuse]
  by_cases q : s.fuse = 0 <;> simp [q]
theorem letV_cur (s : St) (k : Int) : curV (letV s) k = curV s k := by
  unfold letV
  split <;> rfl
theorem Mate.ltV (h : Mate s n t) (hf : -1 ≤ s.fuse) : Mate (letV s) n (ltV t) := by
  unfold Go.Proofs.Ytencclpcebpgmaa.ltV letV
  rw [h.fuse]
  by_cases q : s.fuse = 0
  · rw [if_pos q, if_pos q]
    exact ⟨h.num, rfl, rfl, h.reads, h.made, h.ln, h.lh, h.now, h.held⟩
  · rw [if_neg q, if_neg q]
    refine ⟨h.num, h.stop, ?_, h.reads, by show t.made + 1 = s.made + 1; rw [h.made], h.ln, h.lh, h.now, h.held⟩
    show (if 0 < s.fuse then s.fuse - 1 else s.fuse) = (if s.fuse = -1 then -1 else s.fuse - 1)
    split <;> split <;> omega
theorem Mate.light (h : Mate s n t) (k : Int) : Mate (fuseV s k) n (lgV t k) := by
  unfold fuseV lgV
  rw [h.stop]
  split
  · exact h
  · exact ⟨h.num, rfl, rfl, h.reads, h.made, h.ln, h.lh, h.now, h.held⟩
theorem Mate.read (h : Mate s n t) : Mate (readS s) n { t with reads := t.reads + 1 } :=
  ⟨h.num, h.stop, h.fuse, by show t.reads + 1 = s.reads + 1; rw [h.reads], h.made, h.ln, h.lh, h.now, h.held⟩
theorem Mate.wtE (h : Mate s n t) (k : Int) : Go.Proofs.Ytencclpcebpgmaa.wtE n t k = writeE s k := by
  unfold Go.Proofs.Ytencclpcebpgmaa.wtE writeE
  rw [h.wr, h.lt]
theorem Mate.uE (h : Mate s n t) (k : Int) : Go.Proofs.Ytencclpcebpgmaa.uE n c t k = usedE c s k := by
  unfold Go.Proofs.Ytencclpcebpgmaa.uE usedE
  rw [h.wr]
  by_cases q : refV s k = 0
  · rw [if_pos q, if_neg (c := refV s k ≠ 0) (fun e => e q)]
  · rw [if_neg q, if_pos q]
theorem Mate.ptC (h : Mate s n t) (k : Int) (f : Nat → Int) : Go.Proofs.Ytencclpcebpgmaa.ptC n c t k f = putC c s k f := by
  unfold Go.Proofs.Ytencclpcebpgmaa.ptC putC
  rw [h.uE]
theorem Mate.now' (h : Mate s n t) {k : Int} (hk : refV s k = 0) : nowR t k = curV s k := by
  obtain ⟨_, h1, h2⟩ := refV_ok hk
  obtain ⟨m, rfl⟩ : ∃ m : Nat, k = m := ⟨k.toNat, by omega⟩
  exact h.now m (by have := h.num; omega)
theorem Mate.reB (h : Mate s n t) (k : Int) : Go.Proofs.Ytencclpcebpgmaa.reB n c t k = rdB c s k := by
  unfold Go.Proofs.Ytencclpcebpgmaa.reB rdB
  rw [h.uE]
  by_cases q : usedE c s k = 0
  · rw [if_pos q, if_pos q, h.now' (used_ref q)]
    cases atR c.row k <;> rfl
  · rw [if_neg q, if_neg q]
theorem Mate.reC (h : Mate s n t) (k : Int) : Go.Proofs.Ytencclpcebpgmaa.reC n c t k = rdC c s k := by
  unfold Go.Proofs.Ytencclpcebpgmaa.reC rdC
  rw [h.uE]
  by_cases q : usedE c s k = 0
  · rw [if_pos q, if_pos q, h.now' (used_ref q)]
    cases atR c.row k <;> rfl
  · rw [if_neg q, if_neg q]
theorem Mate.reD (h : Mate s n t) (k : Int) : Mate (rdD c s k) n (Go.Proofs.Ytencclpcebpgmaa.reD n c t k) := by
  unfold Go.Proofs.Ytencclpcebpgmaa.reD rdD
  rw [h.uE]
  by_cases q : usedE c s k = 0
  · rw [if_pos q, if_pos q]
    cases atR c.row k with
    | none => exact h.read
    | some x => exact h
  · rw [if_neg q, if_neg q]
    exact h
theorem cur_writeS (s : St) (k : Int) (f : Nat → Int) (j : Int) : curV (writeS s k f) j = if k = j then f else curV s j := by
  unfold curV
  show (match lastAt (s.wait ++ [(k, f)]) j with
    | some i => match (s.wait ++ [(k, f)])[i]? with
      | some c => c.2
      | none => nought
    | none => ((letV s).held j).getD nought) = _
  rw [lastAt_snoc, letV_held]
  by_cases q : k = j
  · rw [if_pos q, if_pos q]
    simp
  · rw [if_neg q, if_neg q]
    cases hl : lastAt s.wait j with
    | none => rfl
    | some i =>
      have hi : i < s.wait.length := by
        obtain ⟨c, hc, _⟩ := lastAt_spec j _ _ hl
        exact (List.getElem?_eq_some_iff.1 hc).1
      simp only
      rw [List.getElem?_append_left hi]
      cases s.wait[i]? <;> rfl
theorem Mate.write (h : Mate s n t) (hf : -1 ≤ s.fuse) (k : Int) (f : Nat → Int) : Mate (writeV s k f) n (wtV n t k f) := by
  unfold writeV wtV
  rw [h.wr, h.lt]
  by_cases q : refV s k = 0
  · rw [if_pos q, if_pos q]
    obtain ⟨_, k0, k1⟩ := refV_ok q
    have hL := h.ltV hf
    cases lets s
    · exact hL
    · simp only [if_true]
      refine ⟨hL.num, hL.stop, hL.fuse, hL.reads, hL.made, by show (t.now.set _ f).length = n; rw [List.length_set]; exact h.ln, hL.lh, fun m hm => ?_, hL.held⟩
      rw [cur_writeS, ← h.now m hm]
      have hln := h.ln
      unfold nowR
      show (t.now.set k.toNat f).getD _ nought = _
      rw [Int.toNat_natCast, List.getD_eq_getElem?_getD, List.getElem?_set]
      by_cases e : k = m
      · rw [if_pos e, if_pos (by omega), if_pos (by omega)]
        rfl
      · rw [if_neg e, if_neg (by omega), List.getD_eq_getElem?_getD]
  · rw [if_neg q, if_neg q]
    exact h
theorem Mate.flE (h : Mate s n t) (k : Int) : Go.Proofs.Ytencclpcebpgmaa.flE n c t k = flushE c s k := by
  unfold Go.Proofs.Ytencclpcebpgmaa.flE flushE
  rw [h.wr, h.wtE]
  cases atR c.row k <;> rfl
theorem Mate.flC (h : Mate s n t) (k : Int) : Go.Proofs.Ytencclpcebpgmaa.flC n c t k = flushC c s k := by
  unfold Go.Proofs.Ytencclpcebpgmaa.flC flushC
  rw [h.wr, h.wtE]
  cases atR c.row k <;> rfl
theorem Mate.flD (h : Mate s n t) (hf : -1 ≤ s.fuse) (k : Int) : Mate (flushD c s k) n (Go.Proofs.Ytencclpcebpgmaa.flD n c t k) := by
  unfold Go.Proofs.Ytencclpcebpgmaa.flD flushD
  rw [h.wr]
  by_cases q : refV s k = 0
  · rw [if_pos q, if_pos q]
    cases atR c.row k with
    | none => exact h
    | some x =>
      simp only
      split
      · exact h.write hf k _
      · exact h
  · rw [if_neg q, if_neg q]
    exact h
/-- What a list of writes leaves at a number. -/
def endV (l : List Cel) (z : Nat → Int) (j : Int) : Nat → Int := match lastAt l j with
  | some i => match l[i]? with
    | some c => c.2
    | none => nought
  | none => z
theorem endV_snoc (l : List Cel) (c : Cel) (z : Nat → Int) (j : Int) : endV (l ++ [c]) z j = if c.1 = j then c.2 else endV l z j := by
  unfold endV
  rw [lastAt_snoc]
  by_cases q : c.1 = j
  · rw [if_pos q, if_pos q]
    simp
  · rw [if_neg q, if_neg q]
    cases hl : lastAt l j with
    | none => rfl
    | some i =>
      have hi : i < l.length := by
        obtain ⟨c, hc, _⟩ := lastAt_spec j _ _ hl
        exact (List.getElem?_eq_some_iff.1 hc).1
      simp only
      rw [List.getElem?_append_left hi]
theorem held_rev (s : St) (j : Int) : ∀ r : List Cel, (∀ c ∈ r, Can c.2) → ((holdAll s r.reverse).held j).getD nought = endV r.reverse ((s.held j).getD nought) j
  | [], _ => rfl
  | c :: r, hw => by
    rw [List.reverse_cons, holdAll_snoc, endV_snoc, ← held_rev s j r fun c hc => hw c (List.mem_cons_of_mem _ hc)]
    show (if j = c.1 then (if blankB c.2 then none else some c.2) else (holdAll s r.reverse).held j).getD nought = _
    by_cases q : c.1 = j
    · rw [if_pos q.symm, if_pos q]
      have hb := (hw c (List.mem_cons_self ..)).blank
      cases hq : blankB c.2
      · rfl
      · rw [hb.1 hq]
        rfl
    · rw [if_neg (fun e => q e.symm), if_neg q]
theorem held_all (s : St) (j : Int) (l : List Cel) (hw : ∀ c ∈ l, Can c.2) : ((holdAll s l).held j).getD nought = endV l ((s.held j).getD nought) j := by
  have := held_rev s j l.reverse fun c hc => hw c (by simpa using hc)
  rwa [List.reverse_reverse] at this
theorem cur_end (s : St) (j : Int) : curV s j = endV s.wait ((s.held j).getD nought) j := by
  unfold curV endV
  cases lastAt s.wait j with
  | none => rfl
  | some i => simp only; cases s.wait[i]? <;> rfl
theorem cur_barS (s : St) (hw : ∀ c ∈ s.wait, Can c.2) (j : Int) : ((barS s).held j).getD nought = curV s j ∧ curV (barS s) j = curV s j := by
  have e : ((holdAll (letV s) s.wait).held j).getD nought = curV s j := by
    rw [held_all _ _ _ hw, letV_held, cur_end]
  exact ⟨e, e⟩
theorem Mate.brE (h : Mate s n t) : Go.Proofs.Ytencclpcebpgmaa.brE t = barE s := by
  unfold Go.Proofs.Ytencclpcebpgmaa.brE barE
  rw [h.stop, h.lt]
theorem Mate.barrier (h : Mate s n t) (hok : Ok s) : Mate (barV s) n (brV t) := by
  unfold barV brV
  rw [h.stop, h.lt]
  have hL := h.ltV hok.fuse.1
  cases s.stopped
  · simp only [Bool.false_eq_true, if_false]
    cases lets s
    · exact hL
    · simp only [if_true]
      have hb := cur_barS s (fun c hc => (hok.wait c hc).2)
      obtain ⟨hh, e⟩ := holdAll_same s.wait (letV s)
      have e1 : (barS s).n = (letV s).n := by unfold barS; rw [e]
      have e2 : (barS s).stopped = (letV s).stopped := by unfold barS; rw [e]
      have e3 : (barS s).fuse = (letV s).fuse := by unfold barS; rw [e]
      have e4 : (barS s).reads = (letV s).reads := by unfold barS; rw [e]
      have e5 : (barS s).made = (letV s).made := by unfold barS; rw [e]
      refine ⟨e1.trans hL.num, hL.stop.trans e2.symm, hL.fuse.trans e3.symm, hL.reads.trans e4.symm, hL.made.trans e5.symm, hL.ln, h.ln, fun m hm => ?_, fun m hm => ?_⟩
      · rw [(hb m).2, ← h.now m hm]
        unfold nowR
        show (Go.Proofs.Ytencclpcebpgmaa.ltV t).now.getD _ _ = _
        rw [ltV_now]
      · rw [(hb m).1, ← h.now m hm]
        rfl
  · exact h
theorem keptL_nil : ∀ l : List Cel, keptL l [] = []
  | [] => rfl
  | _ :: _ => rfl
theorem Mate.crash (h : Mate s n t) : Mate (crashS s []) n (crV t) := by
  unfold crashS crV
  rw [keptL_nil]
  refine ⟨h.num, rfl, rfl, h.reads, h.made, h.lh, h.lh, fun m hm => ?_, h.held⟩
  have := h.held m hm
  unfold nowR
  rw [Int.toNat_natCast]
  exact this
end Go.Proofs.Ytencclpcebpgmaa
/- The program's cache with its disk, and the document's, each as a part of memory; each call beside whatever lies apart; no condition but the counts' bounds. -/
namespace Go.Proofs.Ytencclpcebpgmaa
open Go.RowKit Go.Maps
def pcP (K : KLoc) (L : Loc) (s : CSt) (t : St) : Part := ⟨fun k => K.has k ∨ L.has k, fun W => CD W K L s t⟩
theorem pcP_good (K : KLoc) (L : Loc) (s : CSt) (t : St) : (pcP K L s t).Good := fun _ _ hs _ h => ⟨hs.cache.kept fun k hk => h k (.inl hk), hs.disk.kept fun k hk => h k (.inr hk), hs.d, hs.apart⟩
def rcP (g : Nat) (R : RL) (v : Value) (n : Nat) (s : CSt) (u : RD) : Part := ⟨fun k => rcHas g v k ∨ R.has k, fun W => RPr W g R v n s u⟩
theorem rcP_good (g : Nat) (R : RL) (v : Value) (n : Nat) (s : CSt) (u : RD) : (rcP g R v n s u).Good := fun _ _ hs _ h => ⟨hs.c.kept fun k hk => h k (.inl hk), hs.d.kept fun k hk => h k (.inr hk)⟩
section
variable {w W W' : World} {K K' : KLoc} {L L' : Loc} {s s' : CSt} {t t' : St} {g : Nat} {R : RL} {v v' : Value} {n : Nat} {u u' : RD} {l : List Part}
theorem sep_goP (h : Sep w W (pcP K L s t :: l)) (hD : CD W' K' L' s' t') (hG : GoesC W W' K L K' L') : Sep w W' (pcP K' L' s' t' :: l) := by
  refine h.turn (T := fun k => K.has k ∨ L.has k) hG.fr (fun k _ q => q) (pcP_good _ _ _ _) hD ?_
  rintro k (q | q)
  · exact ⟨(hG.ownK k q).elim (fun r => .inl (.inl r)) .inr, hD.cache.lt k q⟩
  · exact ⟨(hG.ownL k q).elim (fun r => .inl (.inr r)) .inr, hD.disk.lt k q⟩
theorem sep_goR (h : Sep w W (rcP g R v n s u :: l)) (hD : RPr W' g R v' n s' u') (hF : Fr (fun i => rcHas g v i ∨ R.has i) W W') (hv : ∀ k, v'.ownBlock = some k → v.ownBlock = some k ∨ W.heap.size ≤ k) : Sep w W' (rcP g R v' n s' u' :: l) := by
  refine h.turn (T := fun i => rcHas g v i ∨ R.has i) hF (fun k _ q => q) (rcP_good _ _ _ _ _ _) hD ?_
  rintro k (q | q)
  · refine ⟨?_, hD.c.lt q⟩
    rcases q with q | q
    · exact .inl (.inl (.inl q))
    · exact (hv k q).elim (fun r => .inl (.inl (.inr r))) .inr
  · exact ⟨.inl (.inr q), hD.d.lt q⟩
theorem sep_pread (h : Sep w W (pcP K L s t :: l)) (hr : Room t) (k : Int) : Calls Try.prog 24 #[ptr K.c, .int .i64 k] W fun e W' => e = .returned (.tuple #[.agg (blk (rdB s t k)), .int .i64 (usedE s t k)]) ∧ ∃ K' L', K'.c = K.c ∧ L'.d = L.d ∧ Sep w W' (pcP K' L' (rdC s t k) (rdD s t k) :: l) :=
  (readC_of h.head hr k).mono fun _ _ ⟨he, K', L', h1, h2⟩ => ⟨he, K', L', h2.c, h2.d, sep_goP h h1 h2⟩
theorem sep_pput (h : Sep w W (pcP K L s t :: l)) (k : Int) {f : Nat → Int} (hf : Can f) : Calls Try.prog 25 #[ptr K.c, .int .i64 k, .agg (blk f)] W fun e W' => e = .returned (.int .i64 (usedE s t k)) ∧ ∃ K' L', K'.c = K.c ∧ L'.d = L.d ∧ Sep w W' (pcP K' L' (putC s t k f) t :: l) :=
  (putC_of h.head k hf).mono fun _ _ ⟨he, K', L', h1, h2⟩ => ⟨he, K', L', h2.c, h2.d, sep_goP h h1 h2⟩
theorem sep_pflush (h : Sep w W (pcP K L s t :: l)) (hr : Room t) (k : Int) : Calls Try.prog 26 #[ptr K.c, .int .i64 k] W fun e W' => e = .returned (.int .i64 (flushE s t k)) ∧ ∃ K' L', K'.c = K.c ∧ L'.d = L.d ∧ Sep w W' (pcP K' L' (flushC s t k) (flushD s t k) :: l) :=
  (flushC_of h.head hr k).mono fun _ _ ⟨he, K', L', h1, h2⟩ => ⟨he, K', L', h2.c, h2.d, sep_goP h h1 h2⟩
theorem sep_rread (h : Sep w W (rcP g R v n s u :: l)) (hn : s.row.length ≤ 1000000) (hr : 0 ≤ u.reads ∧ u.reads < 9223372036854775807) (k : Int) : Calls Try.prog 44 #[.pointer (some ⟨g, 0, none⟩), .int .i64 k] W fun e W' => e = .returned (.tuple #[.agg (blk (reB n s u k)), .int .i64 (uE n s u k)]) ∧ ∃ v', Sep w W' (rcP g R v' n (reC n s u k) (reD n s u k) :: l) :=
  (read6 h.head hn hr k).mono fun _ _ ⟨he, v', h1, h2, h3⟩ => ⟨he, v', sep_goR h h1 h2 h3⟩
theorem sep_rput (h : Sep w W (rcP g R v n s u :: l)) (hn : s.row.length ≤ 1000000) (k : Int) (f : Nat → Int) : Calls Try.prog 45 #[.pointer (some ⟨g, 0, none⟩), .int .i64 k, .agg (blk f)] W fun e W' => e = .returned (.int .i64 (uE n s u k)) ∧ ∃ v', Sep w W' (rcP g R v' n (ptC n s u k f) u :: l) :=
  (put6 h.head hn k f).mono fun _ _ ⟨he, v', h1, h2, h3⟩ => ⟨he, v', sep_goR h h1 (h2.mono fun _ _ q => .inl q) h3⟩
theorem sep_rflush (h : Sep w W (rcP g R v n s u :: l)) (hn : s.row.length ≤ 1000000) (hs : Small u) (hnd : (s.row.map (·.pos)).Nodup) (k : Int) : Calls Try.prog 46 #[.pointer (some ⟨g, 0, none⟩), .int .i64 k] W fun e W' => e = .returned (.int .i64 (flE n s u k)) ∧ Sep w W' (rcP g R v n (flC n s u k) (flD n s u k) :: l) :=
  (flush6 h.head hn hs hnd k).mono fun _ _ ⟨he, h1, h2⟩ => ⟨he, sep_goR h h1 h2 fun _ q => .inl q⟩
/-- So much was counted at most. -/
structure Cn (t : St) (i : Nat) : Prop where
  ops : t.ops.length ≤ i
  made : t.made ≤ i
  reads : t.reads ≤ i
  claims : t.claims = 0
theorem Cn.room {i : Nat} (h : Cn t i) (hi : i ≤ 1048576) : Room t := ⟨by have := h.ops; omega, by have := h.made; omega, by have := h.reads; omega, by have := h.claims; omega⟩
theorem Cn.more {i : Nat} (h : Cn t i) : Cn t (i + 1) := ⟨by have := h.ops; omega, by have := h.made; omega, by have := h.reads; omega, h.claims⟩
theorem Cn.read {i : Nat} (h : Cn t i) (s : CSt) (k : Int) : Cn (rdD s t k) (i + 1) := by
  unfold rdD
  split
  · split
    · exact h.more
    · exact ⟨by have := h.ops; show t.ops.length ≤ _; omega, by have := h.made; show t.made ≤ _; omega, by have := h.reads; show t.reads + 1 ≤ _; omega, h.claims⟩
  · exact h.more
end
end Go.Proofs.Ytencclpcebpgmaa
/- A step with a cache, of the program's and the document's side by side: the same answers, and they stand alike behind it; no condition but the counts' bounds. -/
namespace Go.Proofs.Ytencclpcebpgmaa
open Go.RowKit Go.Maps
/-- A block told whole. -/
def bxP (B : Nat) (cs : Array Value) (t : TypeId) : Part := ⟨fun k => k = B, fun W => W.heap[B]? = some (.cells cs t)⟩
theorem bxP_good (B : Nat) (cs : Array Value) (t : TypeId) : (bxP B cs t).Good := fun _ _ hs _ q => (q B rfl).trans hs
section
variable {w W : World} {l : List Part}
theorem sep_box (h : Sep w W l) (cs : Array Value) (t : TypeId) : Sep w (W.alloc (.cells cs t)) (bxP W.heap.size cs t :: l) := by
  refine h.add (below_new _ _) (bxP_good _ _ _) (heap_alloc_new _ _) ?_
  rintro k rfl
  exact ⟨Nat.le_refl _, by simp⟩
theorem sep_setBox {B : Nat} {cs : Array Value} {t : TypeId} (h : Sep w W (bxP B cs t :: l)) (i : Nat) (v : Value) : Sep w (W.setCell ⟨B, i, none⟩ v) (bxP B (cs.setIfInBounds i v) t :: l) := by
  refine h.turn (Fr.setCell W B i v) (fun k _ q => q) (bxP_good _ _ _) (heap_setCell_same _ _ _ _ _ _ h.head) ?_
  rintro k rfl
  have := (h.headLt (k := k) rfl).2
  exact ⟨.inl rfl, by simpa using this⟩
theorem sep_say {q : Part} (h : Sep w W l) (hq : q ∈ l) : q.say W := h.say q hq
end
section
variable {w W : World} {l : List Part}
theorem mv4 {a p q r : Part} (h : Sep w W (a :: p :: q :: r :: l)) : Sep w W (r :: a :: p :: q :: l) := h.perm (List.perm_middle (l₁ := [a, p, q]))
theorem mvA {f r a p q : Part} (h : Sep w W (f :: r :: a :: p :: q :: l)) : Sep w W (p :: r :: l) := by
  have h1 : Sep w W (r :: a :: p :: q :: l) := h.drop
  have h2 : Sep w W (a :: p :: q :: r :: l) := h1.perm (List.perm_middle (l₁ := [a, p, q]) (a := r) (l₂ := l)).symm
  have h3 : Sep w W (p :: q :: r :: l) := h2.drop
  exact h3.swap.drop
theorem pm1 {a2 a1 e p r x b1 b2 : Part} (h : Sep w W (a2 :: a1 :: e :: p :: r :: x :: b1 :: b2 :: l)) : Sep w W (a1 :: b1 :: a2 :: b2 :: x :: p :: r :: e :: l) := by
  have g1 := h.perm (List.perm_middle (l₁ := [a2, a1]) (a := e) (l₂ := p :: r :: x :: b1 :: b2 :: l))
  have g2 := g1.perm (List.perm_middle (l₁ := [e, a2, a1, p]) (a := r) (l₂ := x :: b1 :: b2 :: l))
  have g3 := g2.perm (List.perm_middle (l₁ := [r, e, a2, a1]) (a := p) (l₂ := x :: b1 :: b2 :: l))
  have g4 := g3.perm (List.perm_middle (l₁ := [p, r, e, a2, a1]) (a := x) (l₂ := b1 :: b2 :: l))
  have g5 := g4.perm (List.perm_middle (l₁ := [x, p, r, e, a2, a1, b1]) (a := b2) (l₂ := l))
  have g6 := g5.perm (List.perm_middle (l₁ := [b2, x, p, r, e]) (a := a2) (l₂ := a1 :: b1 :: l))
  have g7 := g6.perm (List.perm_middle (l₁ := [a2, b2, x, p, r, e, a1]) (a := b1) (l₂ := l))
  have g8 := g7.perm (List.perm_middle (l₁ := [b1, a2, b2, x, p, r, e]) (a := a1) (l₂ := l))
  exact g8
theorem pm2 {b1 a2 b2 x p r e : Part} (h : Sep w W (b1 :: a2 :: b2 :: x :: p :: r :: e :: l)) : Sep w W (x :: b1 :: a2 :: b2 :: p :: r :: e :: l) := by
  have g1 := h.perm (List.perm_middle (l₁ := [b1, a2, b2, x, p, r]) (a := e) (l₂ := l))
  have g2 := g1.perm (List.perm_middle (l₁ := [e, b1, a2, b2, x, p]) (a := r) (l₂ := l))
  have g3 := g2.perm (List.perm_middle (l₁ := [r, e, b1, a2, b2, x]) (a := p) (l₂ := l))
  have g4 := g3.perm (List.perm_middle (l₁ := [p, r, e, b1, a2]) (a := b2) (l₂ := x :: l))
  have g5 := g4.perm (List.perm_middle (l₁ := [b2, p, r, e, b1]) (a := a2) (l₂ := x :: l))
  have g6 := g5.perm (List.perm_middle (l₁ := [a2, b2, p, r, e]) (a := b1) (l₂ := x :: l))
  have g7 := g6.perm (List.perm_middle (l₁ := [b1, a2, b2, p, r, e]) (a := x) (l₂ := l))
  exact g7
theorem pm3 {x b1 a2 b2 p r e : Part} (h : Sep w W (x :: b1 :: a2 :: b2 :: p :: r :: e :: l)) : Sep w W (a2 :: b2 :: x :: b1 :: p :: r :: e :: l) := by
  have g1 := h.perm (List.perm_middle (l₁ := [x, b1, a2, b2, p, r]) (a := e) (l₂ := l))
  have g2 := g1.perm (List.perm_middle (l₁ := [e, x, b1, a2, b2, p]) (a := r) (l₂ := l))
  have g3 := g2.perm (List.perm_middle (l₁ := [r, e, x, b1, a2, b2]) (a := p) (l₂ := l))
  have g4 := g3.perm (List.perm_middle (l₁ := [p, r, e, x]) (a := b1) (l₂ := a2 :: b2 :: l))
  have g5 := g4.perm (List.perm_middle (l₁ := [b1, p, r, e]) (a := x) (l₂ := a2 :: b2 :: l))
  have g6 := g5.perm (List.perm_middle (l₁ := [x, b1, p, r, e, a2]) (a := b2) (l₂ := l))
  have g7 := g6.perm (List.perm_middle (l₁ := [b2, x, b1, p, r, e]) (a := a2) (l₂ := l))
  exact g7
theorem pm4 {b2 x b1 p r e : Part} (h : Sep w W (b2 :: x :: b1 :: p :: r :: e :: l)) : Sep w W (x :: b2 :: b1 :: p :: r :: e :: l) := by
  have g1 := h.perm (List.perm_middle (l₁ := [b2, x, b1, p, r]) (a := e) (l₂ := l))
  have g2 := g1.perm (List.perm_middle (l₁ := [e, b2, x, b1, p]) (a := r) (l₂ := l))
  have g3 := g2.perm (List.perm_middle (l₁ := [r, e, b2, x, b1]) (a := p) (l₂ := l))
  have g4 := g3.perm (List.perm_middle (l₁ := [p, r, e, b2, x]) (a := b1) (l₂ := l))
  have g5 := g4.perm (List.perm_middle (l₁ := [b1, p, r, e]) (a := b2) (l₂ := x :: l))
  have g6 := g5.perm (List.perm_middle (l₁ := [b2, b1, p, r, e]) (a := x) (l₂ := l))
  exact g6
theorem pm5 {x b2 b1 p r e : Part} (h : Sep w W (x :: b2 :: b1 :: p :: r :: e :: l)) : Sep w W (e :: p :: r :: x :: b1 :: b2 :: l) := by
  have g1 := h.perm (List.perm_middle (l₁ := [x]) (a := b2) (l₂ := b1 :: p :: r :: e :: l))
  have g2 := g1.perm (List.perm_middle (l₁ := [b2, x]) (a := b1) (l₂ := p :: r :: e :: l))
  have g3 := g2.perm (List.perm_middle (l₁ := [b1, b2]) (a := x) (l₂ := p :: r :: e :: l))
  have g4 := g3.perm (List.perm_middle (l₁ := [x, b1, b2, p]) (a := r) (l₂ := e :: l))
  have g5 := g4.perm (List.perm_middle (l₁ := [r, x, b1, b2]) (a := p) (l₂ := e :: l))
  have g6 := g5.perm (List.perm_middle (l₁ := [p, r, x, b1, b2]) (a := e) (l₂ := l))
  exact g6
end
theorem tl_ints {W : World} {x : Tl Int} (h : W.ownsRow 0 3 1 x.v x.l.length (x.l.flatMap enW)) : IntsAt W x.p x.l := by
  rw [flat_int] at h
  obtain ⟨p', c', q, h6, _⟩ := ints_of_row h
  injection q with q1
  rw [show x.p = p' from q1]
  exact h6
def xRow (d dr c g : Nat) (c1 w1 vl vk : Value) : Array Value := #[ptr d, ptr dr, ptr c, c1, ptr g, w1, vl, vk]
/-- What was told: of both sides the same, so many at most. -/
structure Told (T1 T2 : List (Tl Int)) (i : Nat) : Prop where
  same : T1.map (·.l) = T2.map (·.l)
  len : T1.length ≤ i
  each : ∀ x ∈ T1, x.l.length ≤ 4096
/-- Both sides stand alike; i steps were made at most. -/
def AskS (w W : World) (gx d dr c g n : Nat) (c1 w1 : Value) (s : CSt) (t : St) (u : RD) (i : Nat) (l : List Part) : Prop :=
  ∃ K L R v vl vk T1 T2, K.c = c ∧ L.d = d ∧ RL.g R = dr ∧ Mate t n u ∧ Cn t i ∧ Told T1 T2 i ∧ Sep w W (pcP K L s t :: rcP g R v n s u :: bxP gx (xRow d dr c g c1 w1 vl vk) 36 :: bkP enW 3 54 1 vl T1 :: bkP enW 3 54 1 vk T2 :: l)
theorem Told.more {T1 T2 : List (Tl Int)} {i : Nat} (h : Told T1 T2 i) : Told T1 T2 (i + 1) := ⟨h.same, by have := h.len; omega, h.each⟩
theorem Cn.flush {t : St} {i : Nat} (h : Cn t i) (s : CSt) (k : Int) : Cn (flushD s t k) (i + 1) := by
  have h1 := h.ops
  have h2 := h.made
  have h3 := h.reads
  have key : ∀ f, Cn (writeV t k f) (i + 1) := fun f => by
    unfold writeV
    split
    · split
      · refine ⟨?_, ?_, ?_, ?_⟩
        · unfold writeS St.ops
          simp only
          rw [letV_done]
          unfold St.ops at h1
          simp only [List.length_append, List.length_map, List.length_singleton] at h1 ⊢
          omega
        · unfold writeS letV
          split
          · show t.made ≤ _; omega
          · show t.made + 1 ≤ _; omega
        · unfold writeS letV
          split
          · show t.reads ≤ _; omega
          · show t.reads ≤ _; omega
        · unfold writeS letV
          split
          · exact h.claims
          · exact h.claims
      · unfold letV
        split
        · exact ⟨by show t.ops.length ≤ _; omega, by show t.made ≤ _; omega, by show t.reads ≤ _; omega, h.claims⟩
        · exact ⟨by show t.ops.length ≤ _; omega, by show t.made + 1 ≤ _; omega, by show t.reads ≤ _; omega, h.claims⟩
    · exact h.more
  unfold flushD
  split
  · split
    · split
      · exact key _
      · exact h.more
    · exact h.more
  · exact h.more
theorem Mate.small {t : St} {n : Nat} {u : RD} {i : Nat} (h : Mate t n u) (hc : Cn t i) (hi : i ≤ 1048576) (ok : Ok t) : Small u := ⟨by rw [h.fuse]; have := ok.fuse; omega, by rw [h.made]; have := ok.made; have := hc.made; omega⟩
end Go.Proofs.Ytencclpcebpgmaa
