/- Several texts joined, each with its own remark; no condition. -/
import Derived.Test.YtkcgbhagjkhcmaaGreatK18
import Derived.BigQuiet
import Derived.Test.YtkcgbhagjkhcmaaGreatK15
/- The names of the directories that are no orphans. -/
namespace Go.Proofs.YtkcgbhagjkhcmaaGreat
open Go.RowKit Go.Maps
abbrev OwnN (w : World) (B : Nat) (v : Value) (l : List (Int × Int)) : Prop := OwnG pc2 243 2 w B v l
theorem infoN : (Tryz.prog.info? 243).map (fun i => (i.zero, i.size, i.bytes)) = some (some (.agg #[.int .i64 0, .int .i64 0]), 2, 16) := by kernel_rfl
def nmOf (inum : Nat) (es : List (Int × ByteArray)) : List (Int × Int) := es.filterMap fun e => if e.1 = 0 then none else some ((inum : Int), e.1)
theorem nmOf_zero {inum : Nat} {es : List (Int × ByteArray)} {e : Int × ByteArray} (h : e.1 = 0) : nmOf inum (es ++ [e]) = nmOf inum es := by unfold nmOf; rw [List.filterMap_append]; simp [h]
theorem nmOf_some {inum : Nat} {es : List (Int × ByteArray)} {e : Int × ByteArray} (h : ¬ e.1 = 0) : nmOf inum (es ++ [e]) = nmOf inum es ++ [((inum : Int), e.1)] := by unfold nmOf; rw [List.filterMap_append]; simp [h]
theorem nmOf_len (inum : Nat) (es : List (Int × ByteArray)) : (nmOf inum es).length ≤ es.length := List.length_filterMap_le _ _
/-- The names that a file makes: none, if it is no directory or an orphan. -/
def nmX (ent : Fl → List (Int × ByteArray)) (x : Fl) : List (Int × Int) := if x.k = 2 ∧ ¬ x.lk = 0 then nmOf x.inum ((ent x).drop 2) else []
def namesP (ent : Fl → List (Int × ByteArray)) (L : List Fl) : List (Int × Int) := L.flatMap (nmX ent)
theorem namesP_snoc {ent : Fl → List (Int × ByteArray)} {L : List Fl} {i : Nat} {x : Fl} (h : L[i]? = some x) : namesP ent (L.take (i + 1)) = namesP ent (L.take i) ++ nmX ent x := by
  unfold namesP
  rw [take_snoc h, List.flatMap_append]
  simp
theorem namesP_le (ent : Fl → List (Int × ByteArray)) (L : List Fl) (i : Nat) : (namesP ent (L.take i)).length ≤ (namesP ent L).length := by
  have : namesP ent L = namesP ent (L.take i) ++ namesP ent (L.drop i) := by unfold namesP; rw [← List.flatMap_append, List.take_append_drop]
  rw [this, List.length_append]; omega
structure NmS (w W : World) (v : Value) (l : List (Int × Int)) : Prop where
  own : OwnN W w.heap.size v l
  bel : Below w.heap.size w W
theorem NmS.call {w W W' : World} {v : Value} {l : List (Int × Int)} (h : NmS w W v l) (hb : Below W.heap.size W W') : NmS w W' v l := ⟨h.own.later hb, below_next h.bel hb⟩
structure NmE (w W : World) (v : Value) (l : List (Int × Int)) (v2 : Value) (es : List (Int × ByteArray)) : Prop where
  st : NmS w W v l
  ent : ∃ B, OwnE W B v2 es
theorem NmE.push {w W : World} {v v2 : Value} {l : List (Int × Int)} {es : List (Int × ByteArray)} (h : NmE w W v l v2 es) (hn : l.length ≤ 10000000) (x y : Int) (ty : TypeId) :
    ∃ v' w', (Builtin.append_ #[195, 195] ty #[v, .slice (some ⟨W.heap.size, 0, none⟩) 1 1]).run Tryz.prog (W.alloc (.cells #[.int .i64 x, .int .i64 y] 243)) = .ok v' w' ∧ Hid (NmE w w' v' (l ++ [(x, y)]) v2 es) := by
  obtain ⟨i0, hi0, hz0, hz1, hz2⟩ := info_parts infoN
  obtain ⟨v', w', h1, h2, h3, h4⟩ := own_pushF pc2_len pc2_one Tryz.underlying195 hi0 hz0 hz1 hz2 rfl (by omega) (by omega) h.st.own h.st.bel.size hn (x, y) ty
  obtain ⟨B, he⟩ := h.ent
  exact ⟨v', w', h1, ⟨h2, h.st.bel.trans h3⟩, B, own_frame he h4 fun b hb hT => rows_apart (by decide) h.st.own hT he hb⟩
theorem NmE.cell {w W : World} {v : Value} {l : List (Int × Int)} {ge N ce : Nat} {es : List (Int × ByteArray)} (h : NmE w W v l (.slice (some ⟨ge, 0, none⟩) N ce) es) {k : Nat} {e : Int × ByteArray} (hk : es[k]? = some e) : W.cell? ⟨ge, k * 2, none⟩ = some (.int .u16 e.1) := by
  obtain ⟨B, ho⟩ := h.ent
  obtain ⟨pe', ce', he, hlie⟩ := OwnG.lie enE_len ho
  injection he with he1
  subst he1
  obtain ⟨g', hg, _, hce⟩ := hlie (by have := (List.getElem?_eq_some_iff.1 hk).1; omega)
  injection hg with hg
  injection hg with hg
  subst hg
  exact hce k _ hk 0 _ rfl
section
variable {o : Oper} {a : Act} {W : World}
theorem exec_slice192 {y : Operand} {p q : Int} (ho : o.op = .buildSlice 195 1 #[(0, y)]) (hy : a.eval y = .agg #[.int .i64 p, .int .i64 q]) : (execOp a.eval o).run Tryz.prog W = .ok (.value (.slice (some ⟨W.heap.size, 0, none⟩) 1 1)) (W.alloc (.cells #[.int .i64 p, .int .i64 q] 243)) := by
  have z := (zero_of_info (show (Tryz.prog.info? 243).map (fun i => (i.zero, i.size)) = some (some (.agg #[.int .i64 0, .int .i64 0]), 2) by kernel_rfl)).1
  generalize a.eval = E at *
  unfold execOp
  simp only [ho]
  simp [go_sem, hy, z]
end
theorem drop_snoc {α : Type} {l : List α} {k : Nat} {s : α} (h2 : 2 ≤ k) (h : l[k]? = some s) : (l.take (k + 1)).drop 2 = (l.take k).drop 2 ++ [s] := by
  have hlt := (List.getElem?_eq_some_iff.1 h).1
  rw [take_snoc h, List.drop_append_of_le_length (by rw [List.length_take]; omega)]
theorem EntB.bound {f : Nat → Int} {e : Int × ByteArray} (h : EntB f e) : 0 ≤ e.1 ∧ e.1 < 65536 := by
  rcases h with ⟨rfl, _⟩ | ⟨h, _⟩
  · exact ⟨Int.le_refl _, by decide⟩
  · omega
structure DirOk (l : List Cel) (ent : Fl → List (Int × ByteArray)) (x : Fl) : Prop where
  len : x.s / 16 = (ent x).length
  max : (ent x).length ≤ 100000
  all : ∀ k e, (ent x)[k]? = some e → EntB (sloP l x.sp k) e
set_option maxRecDepth 20000 in
set_option maxHeartbeats 4000000 in
theorem names29_ok {w : World} {g : Nat} {n : Int} {l : List Cel} {y : Lay} (ha : Aud w g n l y) {p : Option Addr} {L : List Fl} (c : Nat) (hL : FlsAt w p L) (hsb : ∀ x ∈ L, (0 ≤ x.s ∧ x.s ≤ 4294967295) ∧ (0 ≤ x.b ∧ x.b ≤ 4294967295)) (ent : Fl → List (Int × ByteArray)) (hent : ∀ x ∈ L, x.k = 2 → ¬ x.lk = 0 → DirOk l ent x) (htot : (namesP ent L).length ≤ 1000000) :
    Calls Tryz.prog 120 #[.pointer (some ⟨g, 0, none⟩), .slice p L.length c] w fun e w' => ∃ v, e = .returned v ∧ NmS w w' v (namesP ent L) := by
  have HA : Hid _ := ha
  have HL : Hid _ := hL
  have HS : Hid _ := hsb
  have HE : Hid _ := hent
  have HTot : Hid _ := htot
  have hlen := hL.len
  clear ha hL hsb hent htot
  have zN := (zero_of_info (show (Tryz.prog.info? 243).map (fun i => (i.zero, i.size)) = some (some (.agg #[.int .i64 0, .int .i64 0]), 2) by kernel_rfl)).1
  go_enter Tryz.func120, Tryz.ntmps120
  go_wp2
  go_loopw [5, 6, 7, 8, 9] (fun s5 s6 _ _ _ wx => ∃ i : Nat, i ≤ L.length ∧ s6 = .int .i64 i ∧ Hid (NmS w wx s5 (namesP ent (L.take i)))) (fun _ s6 _ _ _ _ => L.length - (intOf s6).toNat)
  case atStart => exact ⟨0, by omega, rfl, OwnG.nil _ _, Below.refl _ _⟩
  case round =>
    obtain ⟨i, hi, rfl, HT⟩ := hrel
    by_cases hi2 : (i : Int) < (L.length : Int)
    · have hLw := HL.out.later HT.out.bel
      obtain ⟨gf, x, rfl, hLi, hxL, hcx⟩ := hLw.at (i := i) (by omega)
      have c1 : wr.cell? ⟨gf, i * 18 + 1, none⟩ = some (.int .u16 x.k) := hcx 1 _ rfl
      have c2 : wr.cell? ⟨gf, i * 18 + 2, none⟩ = some (.int .u16 x.lk) := hcx 2 _ rfl
      have HP : Hid (namesP ent (L.take (i + 1)) = namesP ent (L.take i) ++ nmX ent x) := namesP_snoc hLi
      have hil : i < L.length := by omega
      have HGf : Hid (gf < w.heap.size) := by
        obtain ⟨g0, hg0, h, _⟩ := HL.out.lie (by omega)
        injection hg0 with hg0
        injection hg0 with hg0
        subst hg0
        exact h
      by_cases hd : x.k = 2 ∧ ¬ x.lk = 0
      · obtain ⟨hd1, hd2⟩ := hd
        have hok := HE.out x hxL hd1 hd2
        have hsx := HS.out x hxL
        have hsl := slots29_ok (HA.out.later HT.out.bel) x (hLw.get hxL hsx.1 hsx.2) (ent x) hok.len hok.max hok.all
        have HC0 : Hid (∀ W, Below w.heap.size w W → W.cell? ⟨gf, i * 18, none⟩ = some (.int .i64 (x.inum : Int))) := fun W hW => by
          obtain ⟨g', x', hp, hx', _, hc'⟩ := (HL.out.later hW).at (i := i) (by omega)
          injection hp with hp
          injection hp with hp
          subst hp
          rw [hLi] at hx'
          injection hx' with hx'
          subst hx'
          exact hc' 0 _ rfl
        have HX : Hid (nmX ent x = nmOf x.inum ((ent x).drop 2)) := by show _ = _; unfold nmX; rw [if_pos ⟨hd1, hd2⟩]
        have hnl : (namesP ent (L.take i)).length ≤ 1000000 := Nat.le_trans (namesP_le ent L i) HTot.out
        have HAll : Hid _ := hok.all
        have hmax := hok.max
        have g1 : (x.lk == 0) = false := beq_eq_false_iff_ne.2 hd2
        rw [hd1] at c1
        clear hok hsx hLw hxL hLi hd1 hd2
        generalize hN : L.length = N at *
        go_wp2_with (first | (with_reducible refine isLoadR 157 ?_; refine wpList_ldF rfl (.tmp 36) rfl gf (i * 18) x rfl hcx ?_) | (go_at_call 125; fail))
        refine hsl.mono ?_
        rintro e W1 ⟨v2, rfl, hs2⟩
        have HT1 : Hid (NmE w W1 u5 (namesP ent (L.take i)) v2 (ent x)) := ⟨HT.out.call hs2.bel, _, hs2.own⟩
        clear hsl hs2 HT c1 c2 hcx
        obtain ⟨_, ho⟩ := HT1.out.ent
        obtain ⟨pe, ce, rfl, _⟩ := OwnG.lie enE_len ho
        clear ho
        have HP2 : Hid (namesP ent (L.take (i + 1)) = namesP ent (L.take i) ++ nmOf x.inum ((ent x).drop 2)) := by show _ = _; rw [HP.out, HX.out]
        clear HP HX
        generalize hES : ent x = es at *
        obtain ⟨l0, hl0⟩ : ∃ l0, namesP ent (L.take i) = l0 := ⟨_, rfl⟩
        rw [hl0] at HT1 HP2 hnl
        clear hl0
        go_wp2
        go_loopw [5, 9] (fun s5 s9 wx => ∃ k : Nat, 2 ≤ k ∧ (k ≤ 2 ∨ k ≤ es.length) ∧ s9 = .int .i64 k ∧ Hid (NmE w wx s5 (l0 ++ nmOf x.inum ((es.take k).drop 2)) (.slice pe es.length ce) es)) (fun _ s9 _ => es.length + 2 - (intOf s9).toNat)
        case atStart =>
          refine ⟨2, by omega, by omega, rfl, ?_⟩
          have : (es.take 2).drop 2 = [] := List.drop_eq_nil_of_le (by rw [List.length_take]; omega)
          rw [this]
          show NmE _ _ _ (l0 ++ []) _ _
          rw [List.append_nil]
          exact HT1.out
        case round =>
          obtain ⟨k, hk1, hk2, rfl, HK⟩ := hrel
          by_cases hkl : (k : Int) < (es.length : Int)
          · obtain ⟨B, ho⟩ := HK.out.ent
            obtain ⟨pe', ce', he, hlie⟩ := OwnG.lie enE_len ho
            injection he with he1 he2 he3
            subst he1
            obtain ⟨ge, rfl, hgeL, hce⟩ := hlie (by omega)
            have HGe : Hid (ge < wr.heap.size ∧ gf < wr.heap.size) := ⟨hgeL, Nat.lt_of_lt_of_le HGf.out HK.out.st.bel.size⟩
            clear hgeL
            have hek : es[k]? = some es[k] := List.getElem?_eq_getElem (by omega)
            have ce0 : wr.cell? ⟨ge, k * 2, none⟩ = some (.int .u16 (es[k]).1) := hce k _ hek 0 _ rfl
            have hbd := (HAll.out k _ hek).bound
            have HZ : Hid ((es[k]).1 = 0 → nmOf x.inum ((es.take (k + 1)).drop 2) = nmOf x.inum ((es.take k).drop 2)) := fun q => by rw [drop_snoc hk1 hek, nmOf_zero q]
            have HS1 : Hid (¬ (es[k]).1 = 0 → nmOf x.inum ((es.take (k + 1)).drop 2) = nmOf x.inum ((es.take k).drop 2) ++ [((x.inum : Int), (es[k]).1)]) := fun q => by rw [drop_snoc hk1 hek, nmOf_some q]
            have hnm := nmOf_len x.inum ((es.take k).drop 2)
            rw [List.length_drop, List.length_take] at hnm
            have hc0 := HC0.out wr HK.out.st.bel
            have hkM : k < es.length := by omega
            have HQ : Hid (∃ e, es[k]? = some e ∧ e.1 = (es[k]).1) := ⟨_, hek, rfl⟩
            generalize (es[k]).1 = q at *
            clear hce hek ho hlie he2
            by_cases hq : q = 0
            · have HZ2 : Hid _ := HZ.out hq
              subst hq
              clear HZ HS1
              generalize hM : es.length = M at *
              go_wp2
              exact ⟨⟨k + 1, by omega, by omega, by go_num, by have := HZ2.out; rw [this]; exact HK.out⟩, by simp [intOf]; omega⟩
            · have HZ2 : Hid _ := HS1.out hq
              have gq : (q == 0) = false := beq_eq_false_iff_ne.2 hq
              have gq2 : (q != 0) = true := by rw [bne, gq]; rfl
              have ew : IntKind.i64.wrap q = q := by rw [IntKind.wrap_i64]; omega
              have HKd : Hid (NmE w wr.drew u5 (l0 ++ nmOf x.inum ((es.take k).drop 2)) (.slice (some ⟨ge, 0, none⟩) es.length ce) es) := ⟨HK.out.st.call (Below.refl _ _).drew, by obtain ⟨B, h⟩ := HK.out.ent; exact ⟨B, h.later (Below.refl _ _).drew⟩⟩
              obtain ⟨v', W3, R1, HK3⟩ := HKd.out.push (by rw [List.length_append]; omega) (x.inum : Int) q 195
              have HS3 : Hid (W3.cell? ⟨gf, i * 18, none⟩ = some (.int .i64 (x.inum : Int)) ∧ W3.cell? ⟨ge, k * 2, none⟩ = some (.int .u16 q)) := by
                obtain ⟨e, h1, h2⟩ := HQ.out
                exact ⟨HC0.out W3 HK3.out.st.bel, by rw [← h2]; exact HK3.out.cell h1⟩
              have HK4 : Hid (NmE w W3 v' (l0 ++ nmOf x.inum ((es.take (k + 1)).drop 2)) (.slice (some ⟨ge, 0, none⟩) es.length ce) es) := by
                rw [HZ2.out, ← List.append_assoc]; exact HK3.out
              clear HK3 HKd HZ HS1 HZ2 HK hq hnm hbd
              generalize hM : es.length = M at *
              go_upto_region 11 with fail
              refine wp_region_ord (S := fun u => u.cell? ⟨gf, i * 18, none⟩ = some (.int .i64 (x.inum : Int)) ∧ u.cell? ⟨ge, k * 2, none⟩ = some (.int .u16 q)) [(0, true), (1, true), (2, true), (3, true), (4, true), (5, true), (6, true), (7, true), (8, true), (9, true), (10, true), (11, true), (12, true), (13, false), (14, false), (15, true)] (by kernel_rfl) rfl (by kernel_rfl) (fun d _ _ _ _ h => by cases d <;> exact h) ⟨hc0, ce0⟩ ?_
              have hc0d : wr.drew.cell? ⟨gf, i * 18, none⟩ = some (.int .i64 (x.inum : Int)) := hc0
              have ce0d : wr.drew.cell? ⟨ge, k * 2, none⟩ = some (.int .u16 q) := ce0
              have hgl : gf < wr.drew.heap.size ∧ ge < wr.drew.heap.size := ⟨HGe.out.2, HGe.out.1⟩
              simp only [inOrd, List.getElem?_cons_zero, List.getElem?_cons_succ]
              refine wpOrd_yield (v := u5) rfl (fun u _ => exec_mv rfl rfl) ?_
              simp only [Act.put, List.setIfInBounds_toArray, List.set_cons_succ, List.set_cons_zero]
              refine wpOrd_yield (v := .slice (some ⟨gf, 0, none⟩) N c) rfl (fun u _ => exec_mv rfl rfl) ?_
              simp only [Act.put, List.setIfInBounds_toArray, List.set_cons_succ, List.set_cons_zero]
              refine wpOrd_yield (v := .int .i64 (i : Int)) rfl (fun u _ => exec_mv rfl rfl) ?_
              simp only [Act.put, List.setIfInBounds_toArray, List.set_cons_succ, List.set_cons_zero]
              refine wpOrd_yield (v := .pointer (some ⟨gf, i * 18, none⟩)) rfl (fun u _ => by go_simp) ?_
              simp only [Act.put, List.setIfInBounds_toArray, List.set_cons_succ, List.set_cons_zero]
              refine wpOrd_yield (v := .pointer (some ⟨gf, i * 18, none⟩)) rfl (fun u _ => by go_simp) ?_
              simp only [Act.put, List.setIfInBounds_toArray, List.set_cons_succ, List.set_cons_zero]
              refine wpOrd_yield (v := .int .i64 (x.inum : Int)) rfl (fun u hu => by have := hu.1; go_simp) ?_
              simp only [Act.put, List.setIfInBounds_toArray, List.set_cons_succ, List.set_cons_zero]
              refine wpOrd_yield (v := .slice (some ⟨ge, 0, none⟩) M ce) rfl (fun u _ => exec_mv rfl rfl) ?_
              simp only [Act.put, List.setIfInBounds_toArray, List.set_cons_succ, List.set_cons_zero]
              refine wpOrd_yield (v := .int .i64 (k : Int)) rfl (fun u _ => exec_mv rfl rfl) ?_
              simp only [Act.put, List.setIfInBounds_toArray, List.set_cons_succ, List.set_cons_zero]
              refine wpOrd_yield (v := .pointer (some ⟨ge, k * 2, none⟩)) rfl (fun u _ => by go_simp) ?_
              simp only [Act.put, List.setIfInBounds_toArray, List.set_cons_succ, List.set_cons_zero]
              refine wpOrd_yield (v := .pointer (some ⟨ge, k * 2, none⟩)) rfl (fun u _ => by go_simp) ?_
              simp only [Act.put, List.setIfInBounds_toArray, List.set_cons_succ, List.set_cons_zero]
              refine wpOrd_yield (v := .int .u16 q) rfl (fun u hu => by have := hu.2; go_simp) ?_
              simp only [Act.put, List.setIfInBounds_toArray, List.set_cons_succ, List.set_cons_zero]
              refine wpOrd_yield (v := .int .i64 q) rfl (fun u _ => by go_simp) ?_
              simp only [Act.put, List.setIfInBounds_toArray, List.set_cons_succ, List.set_cons_zero]
              refine wpOrd_yield (v := .agg #[.int .i64 (x.inum : Int), .int .i64 q]) rfl (fun u _ => by go_simp) ?_
              simp only [Act.put, List.setIfInBounds_toArray, List.set_cons_succ, List.set_cons_zero]
              refine wpOrd_act rfl (exec_slice192 rfl rfl) ?_ ?_
              · exact ⟨((below_new wr.drew _).cell (p := ⟨gf, i * 18, none⟩) hgl.1).trans hc0d, ((below_new wr.drew _).cell (p := ⟨ge, k * 2, none⟩) hgl.2).trans ce0d⟩
              simp only [Act.put, List.setIfInBounds_toArray, List.set_cons_succ, List.set_cons_zero]
              refine wpOrd_act rfl (exec_push rfl rfl rfl R1) HS3.out ?_
              simp only [Act.put, List.setIfInBounds_toArray, List.set_cons_succ, List.set_cons_zero]
              refine wpOrd_yield (v := v') rfl (fun u _ => by simp [execOp, Act.eval]) ?_
              simp only [Act.put, List.setIfInBounds_toArray, List.set_cons_succ, List.set_cons_zero]
              refine wpOrd_nil ?_
              clear hc0 ce0 hc0d ce0d hgl R1 HS3
              go_wp2
              exact ⟨⟨k + 1, by omega, by omega, by go_num, HK4.out⟩, by simp [intOf]; omega⟩
          · have HK2 : Hid (NmS w wr u5 (namesP ent (L.take (i + 1)))) := by
              have h := HK.out.st
              rw [List.take_of_length_le (by omega)] at h
              rw [HP2.out]
              exact h
            clear HK HP2
            generalize hM : es.length = M at *
            go_wp2
            exact ⟨⟨i + 1, by omega, by go_num, HK2.out⟩, by simp [intOf]; omega⟩
      · have HP2 : Hid (namesP ent (L.take (i + 1)) = namesP ent (L.take i)) := by
          show _ = _
          rw [HP.out]
          unfold nmX
          rw [if_neg hd, List.append_nil]
        clear HP hcx hLw hLi hxL
        generalize hN : L.length = N at *
        by_cases hk2 : x.k = 2
        · have hl0 : x.lk = 0 := Classical.byContradiction fun q => hd ⟨hk2, q⟩
          rw [hk2] at c1
          rw [hl0] at c2
          clear hd
          go_wp2
          exact ⟨⟨i + 1, by omega, by go_num, by have := HP2.out; rw [this]; exact HT.out⟩, by simp [intOf]; omega⟩
        · have g1 : (x.k == 2) = false := beq_eq_false_iff_ne.2 hk2
          have g2 : (x.k != 2) = true := by rw [bne, g1]; rfl
          clear hd
          go_wp2
          exact ⟨⟨i + 1, by omega, by go_num, by have := HP2.out; rw [this]; exact HT.out⟩, by simp [intOf]; omega⟩
    · obtain rfl : i = L.length := by omega
      have HR : Hid (NmS w wr u5 (namesP ent L)) := by
        have := HT.out
        rwa [List.take_length] at this
      clear HT HL HA HS HE
      generalize L.length = N at *
      go_wp2
      go_ret
      exact ⟨_, rfl, HR.out⟩
end Go.Proofs.YtkcgbhagjkhcmaaGreat
/- The entries of a directory that are as they must be: nothing is wrong with them. -/
namespace Go.Proofs.YtkcgbhagjkhcmaaGreat
open Go.RowKit Go.Maps
def bDot : ByteArray := ⟨#[46]⟩
def bDots : ByteArray := ⟨#[46, 46]⟩
structure SlotsOk (L : List Fl) (x : Fl) (es : List (Int × ByteArray)) : Prop where
  dot : es[0]? = some ((x.inum : Int), bDot)
  dots : ∃ p, es[1]? = some (p, bDots)
  used : ∀ (i : Nat) e, es[i]? = some e → ¬ e.1 = 0 → usedP L e.1 = true
  nd : ∀ (i : Nat) e, es[i]? = some e → 1 < i → ¬ e.1 = 0 → ¬ e.2 = bDot ∧ ¬ e.2 = bDots
  ne : ∀ (i k : Nat) e f, es[i]? = some e → es[k]? = some f → k < i → ¬ e.1 = 0 → ¬ f.2 = e.2
theorem ba_ne {a b : ByteArray} (h : ¬ a = b) : ¬ a.toList = b.toList := fun q => by
  rw [ByteArray.toList_eq, ByteArray.toList_eq] at q
  exact h (ByteArray.ext (Array.toList_inj.mp q))
theorem ba_neB {a b : ByteArray} (h : ¬ a = b) : (a.toList == b.toList) = false := beq_eq_false_iff_ne.2 (ba_ne h)
theorem ba_one : bDot.toList = [46] := by rw [ByteArray.toList_eq]; rfl
theorem ba_two : bDots.toList = [46, 46] := by rw [ByteArray.toList_eq]; rfl
theorem fl_info (x : Fl) : (Tryz.prog.info? 157).map (·.size) = some (flCells x).toArray.size := size155
set_option maxRecDepth 20000 in
set_option maxHeartbeats 4000000 in
theorem badSlots29_ok {w : World} {g : Nat} {n : Int} {l : List Cel} {y : Lay} (ha : Aud w g n l y) {p : Option Addr} {L : List Fl} (c : Nat) (hL : FlsAt w p L) (x : Fl) (h : FlOk w x) (hin : x.inum ≤ 65535) (es : List (Int × ByteArray)) (hm : x.s / 16 = es.length) (hes : es.length ≤ 100000) (hok : ∀ k e, es[k]? = some e → EntB (sloP l x.sp k) e) (hso : ¬ x.lk = 0 → SlotsOk L x es) :
    Calls Tryz.prog 158 #[.pointer (some ⟨g, 0, none⟩), .slice p L.length c, .agg (flCells x).toArray] w fun r w' => r = .returned (.bool false) ∧ Below w.heap.size w w' := by
  have hx := heap_alloc_new w (.cells (flCells x).toArray 157)
  have HX : Hid _ := hx
  have HB : Hid _ := below_new w (.cells (flCells x).toArray 157)
  have hsl := slots29_ok (ha.later HB.out) x ⟨h.lie.later HB.out, h.len, h.s, h.b⟩ es hm hes hok
  have HL : Hid _ := hL.later HB.out
  have HO : Hid _ := hok
  have HS : Hid _ := hso
  have hlen := hL.len
  clear ha hL h hm hok hso
  go_enter Tryz.func158, Tryz.ntmps158
  go_upto_region 1 with fail
  generalize w.alloc (.cells (flCells x).toArray 157) = V at *
  go_wp2_with (first | (with_reducible refine isLoadR 157 ?_; refine wpList_ldR 157 Tryz.underlying157 rfl rfl _ rfl w.heap.size rfl (flCells x).toArray 157 (0, 0) (fl_info x) HX.out ?_) | (go_at_call 125; fail))
  refine hsl.mono ?_
  rintro r W1 ⟨v, rfl, hs1⟩
  have hx1 := heap_kept HX.out hs1.bel
  have HB1 : Hid (Below w.heap.size w W1) := below_next HB.out hs1.bel
  have HL1 : Hid _ := HL.out.later hs1.bel
  have c2 : W1.cell? ⟨w.heap.size, 2, none⟩ = some (.int .u16 x.lk) := Joins.cell_of_block hx1 2
  have c0 : W1.cell? ⟨w.heap.size, 0, none⟩ = some (.int .i64 (x.inum : Int)) := Joins.cell_of_block hx1 0
  obtain ⟨pe, ce, rfl, hlie⟩ := OwnG.lie enE_len hs1.own
  have HE : Hid _ := hlie
  clear hx1 hs1 hlie hsl HX HL HB hx
  by_cases h0 : x.lk = 0
  · rw [h0] at c2
    clear h0 HS HO
    generalize es.length = M at *
    go_wp2
    go_ret
    exact ⟨rfl, HB1.out⟩
  · have hso := HS.out h0
    have g0 : (x.lk == 0) = false := beq_eq_false_iff_ne.2 h0
    obtain ⟨pp, hdd⟩ := hso.dots
    have hl2 : 2 ≤ es.length := by have := (List.getElem?_eq_some_iff.1 hdd).1; omega
    obtain ⟨ge, rfl, hge, hce⟩ := HE.out (by omega)
    have d0 : W1.cell? ⟨ge, 0, none⟩ = some (.int .u16 (x.inum : Int)) := hce 0 _ hso.dot 0 _ rfl
    have d1 : W1.cell? ⟨ge, 1, none⟩ = some (.string ⟨#[46]⟩) := hce 0 _ hso.dot 1 _ rfl
    have d3 : W1.cell? ⟨ge, 3, none⟩ = some (.string ⟨#[46, 46]⟩) := hce 1 _ hdd 1 _ rfl
    have e1 : IntKind.u16.wrap (x.inum : Int) = (x.inum : Int) := by rw [wrap_u16]; omega
    have HC : Hid _ := hce
    have HSo : Hid _ := hso
    clear h0 HS hso hdd hce HE
    have hM0 : (0 : Nat) < es.length := by omega
    have hM1 : (1 : Nat) < es.length := by omega
    generalize hM : es.length = M at *
    go_upto_region 6 with fail
    go_quiet (fail)
    clear d0 d1 d3 c0 c2 g0 e1
    have HW0 : Hid (∀ q, Below W1.heap.size W1 (W1.drewN q)) := fun q => belowN (Below.refl _ _) q
    go_wp2
    go_loopw [9, 10, 11] (fun s9 _ _ wx => ∃ i : Nat, i ≤ M ∧ s9 = .int .i64 i ∧ Hid (Below W1.heap.size W1 wx)) (fun s9 _ _ _ => M - (intOf s9).toNat)
    case atStart => exact ⟨0, by omega, rfl, HW0.out _⟩
    case round =>
      clear HW0
      obtain ⟨i, hi, rfl, HW⟩ := hrel
      by_cases hi2 : (i : Int) < (M : Int)
      · have hei : es[i]? = some es[i] := List.getElem?_eq_getElem (by omega)
        have q0 : wr.cell? ⟨ge, i * 2, none⟩ = some (.int .u16 (es[i]).1) := (HW.out.cell (p := ⟨ge, i * 2, none⟩) hge).trans (HC.out i _ hei 0 _ rfl)
        have q1 : wr.cell? ⟨ge, i * 2 + 1, none⟩ = some (.string (es[i]).2) := (HW.out.cell (p := ⟨ge, i * 2 + 1, none⟩) hge).trans (HC.out i _ hei 1 _ rfl)
        have hbd := (HO.out i _ hei).bound
        have HU : Hid _ := HSo.out.used i _ hei
        have HN : Hid _ := HSo.out.nd i _ hei
        have HK : Hid (∀ (k : Nat) f, es[k]? = some f → k < i → ¬ (es[i]).1 = 0 → ¬ f.2 = (es[i]).2) := fun k f hf hk h0 => HSo.out.ne i k _ f hei hf hk h0
        have hiM : i < M := by omega
        generalize es[i] = e at *
        obtain ⟨e1, e2⟩ := e
        simp only at q0 q1 hbd HU HN HK
        have HQ1 : Hid (W1.cell? ⟨ge, i * 2 + 1, none⟩ = some (.string e2)) := HC.out i _ hei 1 _ rfl
        clear hei
        by_cases h0 : e1 = 0
        · subst h0
          clear HU HN HK
          go_wp2
          exact ⟨⟨i + 1, by omega, by go_num, HW.out⟩, by simp [intOf]; omega⟩
        · have g0 : (e1 == 0) = false := beq_eq_false_iff_ne.2 h0
          have ew : IntKind.i64.wrap e1 = e1 := by rw [IntKind.wrap_i64]; omega
          have hus := used29_any c (HL1.out.later HW.out) e1
          rw [HU.out h0] at hus
          have HKf : Hid _ := fun k f hf hk => HK.out k f hf hk h0
          have HN2 : Hid _ := fun q => HN.out q h0
          clear HU HN HK hbd h0
          go_wp2_with (first | (go_at_call 174; fail))
          refine hus.mono ?_
          rintro r W2 ⟨rfl, rfl⟩
          clear hus
          by_cases h1 : 1 < i
          · have g1 : decide ((1 : Int) < (i : Int)) = true := decide_eq_true (by omega)
            have g1' : decide (1 < i) = true := decide_eq_true h1
            have hn := HN2.out h1
            have g2 : (e2.toList == [46]) = false := by rw [← ba_one]; exact ba_neB hn.1
            have g2' : decide (e2.toList = [46]) = false := by rw [← ba_one]; exact decide_eq_false (ba_ne hn.1)
            have g3 : (e2.toList == [46, 46]) = false := by rw [← ba_two]; exact ba_neB hn.2
            have g3' : decide (e2.toList = [46, 46]) = false := by rw [← ba_two]; exact decide_eq_false (ba_ne hn.2)
            clear hn HN2 h1
            go_wp2
            go_loopw [11] (fun s11 wx => ∃ k : Nat, k ≤ i ∧ s11 = .int .i64 k ∧ Hid (Below W1.heap.size W1 wx)) (fun s11 _ => i - (intOf s11).toNat)
            case atStart => exact ⟨0, by omega, rfl, HW.out⟩
            case round =>
              clear HW q0 q1
              obtain ⟨k, hk, rfl, HW⟩ := hrel
              by_cases hk2 : (k : Int) < (i : Int)
              · have hek : es[k]? = some es[k] := List.getElem?_eq_getElem (by omega)
                have r1 : wr.cell? ⟨ge, k * 2 + 1, none⟩ = some (.string (es[k]).2) := (HW.out.cell (p := ⟨ge, k * 2 + 1, none⟩) hge).trans (HC.out k _ hek 1 _ rfl)
                have q1 : wr.cell? ⟨ge, i * 2 + 1, none⟩ = some (.string e2) := (HW.out.cell (p := ⟨ge, i * 2 + 1, none⟩) hge).trans HQ1.out
                have gk : ((es[k]).2.toList == e2.toList) = false := ba_neB (HKf.out k _ hek (by omega))
                have HW2 : Hid (∀ q, Below W1.heap.size W1 (wr.drewN q)) := fun q => belowN HW.out q
                have hkM : k < M := by omega
                generalize (es[k]).2 = fk at *
                clear hek HW
                go_upto_region 18 with fail
                go_quiet (fail)
                go_wp2
                exact ⟨⟨k + 1, by omega, by go_num, HW2.out _⟩, by simp [intOf]; omega⟩
              · obtain rfl : k = i := by omega
                clear HKf
                go_wp2
                exact ⟨⟨k + 1, by omega, by go_num, HW.out⟩, by simp [intOf]; omega⟩
          · have g1 : decide ((1 : Int) < (i : Int)) = false := decide_eq_false (by omega)
            have g1' : decide (1 < i) = false := decide_eq_false h1
            clear HN2 h1
            go_wp2
            go_loopw [11] (fun s11 wx => ∃ k : Nat, k ≤ i ∧ s11 = .int .i64 k ∧ Hid (Below W1.heap.size W1 wx)) (fun s11 _ => i - (intOf s11).toNat)
            case atStart => exact ⟨0, by omega, rfl, HW.out⟩
            case round =>
              clear HW q0 q1
              obtain ⟨k, hk, rfl, HW⟩ := hrel
              by_cases hk2 : (k : Int) < (i : Int)
              · have hek : es[k]? = some es[k] := List.getElem?_eq_getElem (by omega)
                have r1 : wr.cell? ⟨ge, k * 2 + 1, none⟩ = some (.string (es[k]).2) := (HW.out.cell (p := ⟨ge, k * 2 + 1, none⟩) hge).trans (HC.out k _ hek 1 _ rfl)
                have q1 : wr.cell? ⟨ge, i * 2 + 1, none⟩ = some (.string e2) := (HW.out.cell (p := ⟨ge, i * 2 + 1, none⟩) hge).trans HQ1.out
                have gk : ((es[k]).2.toList == e2.toList) = false := ba_neB (HKf.out k _ hek (by omega))
                have HW2 : Hid (∀ q, Below W1.heap.size W1 (wr.drewN q)) := fun q => belowN HW.out q
                have hkM : k < M := by omega
                generalize (es[k]).2 = fk at *
                clear hek HW
                go_upto_region 18 with fail
                go_quiet (fail)
                go_wp2
                exact ⟨⟨k + 1, by omega, by go_num, HW2.out _⟩, by simp [intOf]; omega⟩
              · obtain rfl : k = i := by omega
                clear HKf
                go_wp2
                exact ⟨⟨k + 1, by omega, by go_num, HW.out⟩, by simp [intOf]; omega⟩
      · obtain rfl : i = M := by omega
        have HR : Hid (Below w.heap.size w wr) := below_next HB1.out HW.out
        clear HW
        go_wp2
        go_ret
        exact ⟨rfl, HR.out⟩
end Go.Proofs.YtkcgbhagjkhcmaaGreat
/- Rows of marks (true or false) as functions of their places; no condition. -/
namespace Go.Proofs.YtkcgbhagjkhcmaaGreat
open Go.RowKit Go.Maps
def rowB (f : Nat → Bool) (n : Nat) : Array Value := ((List.range n).map fun i => Value.bool (f i)).toArray
def updB (f : Nat → Bool) (i : Nat) (x : Bool) : Nat → Bool := fun j => if j = i then x else f j
theorem rowB_size (f : Nat → Bool) (n : Nat) : (rowB f n).size = n := by simp [rowB]
theorem rowB_get (f : Nat → Bool) (n i : Nat) (h : i < n) : (rowB f n)[i]? = some (.bool (f i)) := by simp [rowB, h]
theorem rowB_ext {cs : Array Value} {f : Nat → Bool} {n : Nat} (hs : cs.size = n) (h : ∀ i, i < n → cs[i]? = some (.bool (f i))) : cs = rowB f n := by
  apply Array.ext_getElem?
  intro j
  by_cases hj : j < n
  · rw [h j hj, rowB_get _ _ _ hj]
  · rw [Array.getElem?_eq_none (by omega), Array.getElem?_eq_none (by rw [rowB_size]; omega)]
theorem rowB_set (f : Nat → Bool) (n i : Nat) (x : Bool) : (rowB f n).setIfInBounds i (.bool x) = rowB (updB f i x) n := by
  refine rowB_ext (by rw [Array.size_setIfInBounds, rowB_size]) fun j hj => ?_
  rw [Array.getElem?_setIfInBounds]
  by_cases e : i = j
  · subst e; simp [rowB_size, hj, updB]
  · have e' : ¬ j = i := fun q => e q.symm
    simp [e, e', rowB_get _ _ _ hj, updB]
theorem setCell_rowB {w : World} {g m : Nat} {f : Nat → Bool} {t : TypeId} (h : w.heap[g]? = some (.cells (rowB f m) t)) (i : Nat) (x : Bool) : (w.setCell ⟨g, i, none⟩ (.bool x)).heap[g]? = some (.cells (rowB (updB f i x) m) t) := by
  rw [heap_setCell_same _ _ _ _ _ _ h, rowB_set]
theorem cell_rowB {w : World} {g m : Nat} {f : Nat → Bool} {t : TypeId} (h : w.heap[g]? = some (.cells (rowB f m) t)) {i : Nat} (hi : i < m) : w.cell? ⟨g, i, none⟩ = some (.bool (f i)) := by
  rw [cell_of_row _ _ i _ t _ h, rowB_get _ _ _ hi]
def allNo : Nat → Bool := fun _ => false
theorem made_bools (n : Nat) : madeCells #[Value.bool false] n = rowB allNo n :=
  rowB_ext (by simp [madeCells]) fun j hj => by simp [madeCells, hj, Nat.mod_one, allNo]
theorem infoB4 : (Tryz.prog.info? 4).map (fun i => (i.zero, i.size, i.bytes)) = some (some (.bool false), 1, 1) := by kernel_rfl
theorem run_makeB (u : World) (n : Nat) (hn : n ≤ 281474976710656) :
    (Instr.makeSlice 96 (.int .i64 (n : Int)) (.int .i64 (n : Int))).run Tryz.prog u = .ok (.slice (some ⟨u.heap.size, 0, none⟩) n n) (u.alloc (.cells (rowB allNo n) 4)) := by
  obtain ⟨i0, hi0, hz0, hz1, hz2⟩ := info_parts infoB4
  have h := run_make (P := Tryz.prog) u 96 4 i0 (.bool false) Tryz.underlying96 hi0 hz0 .i64 .i64 n n (by omega) (Int.le_refl _) (by rw [hz2]; omega) (by omega)
  rw [Int.toNat_natCast, hz1] at h
  rw [h]
  simp [Value.cells, made_bools]
end Go.Proofs.YtkcgbhagjkhcmaaGreat
