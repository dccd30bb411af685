/- Lists of things done held against each other: SameOps; no condition but that lists are not longer than lists can be. -/
import Derived.Test.YtichojdcoegboaaGreatK37
import Derived.Test.YtichojdcoegboaaGreatK7
namespace Go.Proofs.YtichojdcoegboaaGreatW
open Go.RowKit Go.Maps
def OpsAt (w : World) (p : Option Addr) (l : List Rec) : Prop := LiesE recCells 1026 w p l
theorem OpsAt.later {w W : World} {p : Option Addr} {l : List Rec} (h : OpsAt w p l) (hb : Below w.heap.size w W) : OpsAt W p l := fun h0 => by
 obtain ⟨b, off, h1, h2, h3⟩ := h h0
 exact ⟨b, off, h1, Nat.lt_of_lt_of_le h2 hb.size, fun k x hx j v hv => (hb.cell (p := ⟨b, off + k * 1026 + j, none⟩) h2).trans (h3 k x hx j v hv)⟩
theorem part_kind (r : Rec) (w : World) : (part 96 (recCells r).toArray 0).run Tryz.prog w = .ok (.int .u8 r.kind) w := by
 simp [part, Tryz.isAgg96, recCells]
theorem part_pos (r : Rec) (w : World) : (part 3 (recCells r).toArray 1).run Tryz.prog w = .ok (.int .i64 r.pos) w := by
 simp [part, Tryz.isAgg3, recCells]
theorem part_dat (r : Rec) (w : World) : (part 64 (recCells r).toArray 2).run Tryz.prog w = .ok (.agg (blk r.dat)) w := by
 have hs := blk_size r.dat
 have hc : (recCells r).toArray.size = 1026 := by rw [List.size_toArray, recCells_len]
 have he : (recCells r).toArray.extract 2 (2 + 1024) = blk r.dat := by
  apply Array.toList_inj.1
  have ht : (blk r.dat).toList.take 1024 = (blk r.dat).toList := List.take_of_length_le (by rw [Array.length_toList, hs]; omega)
  simp [recCells, ht]
 generalize hR : (recCells r).toArray = R at *
 simp [part, Tryz.isAgg64, Tryz.sizeOf64, hc, he]
theorem fields86 : (Tryz.prog.fieldsOf 98).toList.map (fun f => (f.name, f.type, f.offset)) = [("Kind", 96, 0), ("At", 3, 1), ("Data", 64, 2)] := by kernel_rfl
theorem under86 : Tryz.prog.underlying 98 = some (.struct (Tryz.prog.fieldsOf 98)) := by
 unfold Program.fieldsOf
 rw [Tryz.underlying98]
theorem held86 : Tryz.prog.stoodInHeld 98 = false := by kernel_rfl
def recB (a b : Rec) : Bool := (a.kind == b.kind) && ((a.pos == b.pos) && sameB a.dat b.dat)
theorem eq_rec (d : Nat) (a b : Rec) (w : World) : (Op.equalIn (d + 1 + 1 + 1) 98 (.agg (recCells a).toArray) (.agg (recCells b).toArray)).run Tryz.prog w = .ok (recB a b) w := by
 rw [run_equalIn_struct w (d + 1 + 1) 98 _ _ under86 held86]
 have hf := fields86
 generalize (Tryz.prog.fieldsOf 98).toList = fs at hf
 obtain ⟨f1, f2, f3, rfl⟩ : ∃ f1 f2 f3, fs = [f1, f2, f3] := by
  have hl : fs.length = 3 := by have := congrArg List.length hf; simpa using this
  rcases fs with _ | ⟨f1, _ | ⟨f2, _ | ⟨f3, _ | ⟨f4, t⟩⟩⟩⟩
  ·simp at hl
  ·simp at hl
  ·simp at hl
  ·exact ⟨f1, f2, f3, rfl⟩
  ·simp at hl
 ·simp only [List.map_cons, List.map_nil, List.cons.injEq, Prod.mk.injEq] at hf
  obtain ⟨⟨n1, t1, o1⟩, ⟨n2, t2, o2⟩, ⟨n3, t3, o3⟩, _⟩ := hf
  have e1 := part_kind a
  have e2 := part_kind b
  have e3 := part_pos a
  have e4 := part_pos b
  have e5 := part_dat a
  have e6 := part_dat b
  have e7 := eq25d d a.dat b.dat
  generalize (recCells a).toArray = A at *
  generalize (recCells b).toArray = B at *
  generalize blk a.dat = F at *
  generalize blk b.dat = G at *
  unfold recB
  cases hx : (a.kind == b.kind)
  ·simp [Op.eqFields, n1, t1, o1, e1, e2, run_equalIn_int _ _ _ _ _ _ _ Tryz.underlying96, hx]
  ·cases hy : (a.pos == b.pos)
   ·simp [Op.eqFields, n1, t1, o1, n2, t2, o2, e1, e2, e3, e4, run_equalIn_int _ _ _ _ _ _ _ Tryz.underlying96, run_equalIn_int _ _ _ _ _ _ _ Tryz.underlying3, hx, hy]
   ·cases hz : sameB a.dat b.dat
    ·rw [hz] at e7
     simp [Op.eqFields, n1, t1, o1, n2, t2, o2, n3, t3, o3, e1, e2, e3, e4, e5, e6, e7, run_equalIn_int _ _ _ _ _ _ _ Tryz.underlying96, run_equalIn_int _ _ _ _ _ _ _ Tryz.underlying3, hx, hy]
    ·rw [hz] at e7
     simp [Op.eqFields, n1, t1, o1, n2, t2, o2, n3, t3, o3, e1, e2, e3, e4, e5, e6, e7, run_equalIn_int _ _ _ _ _ _ _ Tryz.underlying96, run_equalIn_int _ _ _ _ _ _ _ Tryz.underlying3, hx, hy]
theorem load86 {w : World} {g off : Nat} {r : Rec} (h : w.rangeAt g off (recCells r)) : (Instr.loadAt 98 (.pointer (some ⟨g, off, none⟩))).run Tryz.prog w = .ok (.agg (recCells r).toArray) w :=
 run_loadAt_mid (P := Tryz.prog) w g off 98 (recCells r) _ h Tryz.underlying98 rfl (by rw [recCells_len]; exact size108)
theorem neqg86 (x y : Operand) (F G : Array Value) (u : World) : (eqGuard .neq 98 x y (.agg F) (.agg G)).run Tryz.prog u = .ok () u := by
 unfold eqGuard
 simp
theorem neq86 (a b : Rec) (r : Bool) (hr : recB a b = r) (u : World) : (binOp .neq 98 (.agg (recCells a).toArray) (.agg (recCells b).toArray)).run Tryz.prog u = .ok (.bool (!r)) u := by
 have h := eq_rec 9997 a b u
 rw [hr] at h
 generalize (recCells a).toArray = F at *
 generalize (recCells b).toArray = G at *
 have h' : (Op.equalIn 10000 98 (.agg F) (.agg G)).run Tryz.prog u = .ok r u := h
 simp only [binOp, Op.equal, Op.maxDepth, Sem.run_bind, h', Result.andThen_ok, Sem.run_pure]
theorem wpStill_load86 {ops : Array Oper} {Q : Act → Prop} {a : Act} {o : Oper} {rest : List Oper} {w : World} (hw : Region.wanted o (yielded ops a.tmps) = true) (x : Operand) (ho : o.op = .load 98 x)
  (g off : Nat) (hx : a.eval x = .pointer (some ⟨g, off, none⟩)) (c : Rec) (hg : w.rangeAt g off (recCells c))
  (h : wpStill Tryz.prog ops w Q rest (a.put o.dst (.agg (recCells c).toArray))) : wpStill Tryz.prog ops w Q (o :: rest) a := by
 unfold wpStill
 rw [if_pos hw]
 unfold Oper.still execOp
 simp only [ho, hx, load86 hg, Sem.run_bind, Result.andThen_ok, Sem.run_pure, Oper.stillUpon]
 exact ⟨trivial, h⟩
theorem wpStill_neq86 {ops : Array Oper} {Q : Act → Prop} {a : Act} {o : Oper} {rest : List Oper} {w : World} (hw : Region.wanted o (yielded ops a.tmps) = true) (x y : Operand) (ho : o.op = .binOp .neq 98 x y 98)
  (c d : Rec) (r : Bool) (hx : a.eval x = .agg (recCells c).toArray) (hy : a.eval y = .agg (recCells d).toArray) (hr : recB c d = r)
  (h : wpStill Tryz.prog ops w Q rest (a.put o.dst (.bool (!r)))) : wpStill Tryz.prog ops w Q (o :: rest) a := by
 have e := neq86 c d r hr w
 unfold wpStill
 rw [if_pos hw]
 unfold Oper.still execOp
 simp only [ho, hx, hy, Sem.run_bind, neqg86, e, Result.andThen_ok, Sem.run_pure, Oper.stillUpon]
 exact ⟨trivial, h⟩
def recsB : List Rec → List Rec → Bool
 | [], [] => true
 | a :: s, b :: t => recB a b && recsB s t
 | _, _ => false
theorem recsB_len : ∀ {s t : List Rec}, recsB s t = true → s.length = t.length
 | [], [], _ => rfl
 | a :: s, b :: t, h => by
  unfold recsB at h
  simp at h
  simp [recsB_len h.2]
 | [], _ :: _, h => by simp [recsB] at h
 | _ :: _, [], h => by simp [recsB] at h
theorem recB_self (r : Rec) : recB r r = true := by
 unfold recB
 rw [sameB_self]
 simp
theorem recsB_self : ∀ l : List Rec, recsB l l = true
 | [] => rfl
 | a :: t => by unfold recsB; rw [recB_self, recsB_self t]; rfl
set_option maxRecDepth 20000 in
set_option maxHeartbeats 1000000 in
theorem sameOps_any (s t : List Rec) (p q : Option Addr) (cp cq : Nat) (w : World) (hls : s.length < 9223372036854775807) (_hlt : t.length < 9223372036854775807) (hs : OpsAt w p s) (ht : OpsAt w q t) :
  Calls Tryz.prog 12 #[.slice p s.length cp, .slice q t.length cq] w fun e w' => e = .returned (.bool (recsB s t)) ∧ Below w.heap.size w w' := by
 by_cases hl : s.length = t.length
 ·have HS : Hid (OpsAt w p s) := hs
  have HT : Hid (OpsAt w q t) := ht
  have HR : Hid (recsB s t = recsB (s.drop 0) (t.drop 0)) := rfl
  generalize recsB s t = res at *
  obtain ⟨n, hn⟩ : ∃ n, s.length = n := ⟨_, rfl⟩
  have hn2 : t.length = n := by omega
  rw [hn, hn2]
  rw [hn] at hls
  have HL : Hid (s.length = n ∧ t.length = n) := ⟨hn, hn2⟩
  clear hs ht hl hn hn2
  go_enter Tryz.func12, Tryz.ntmps12
  go_wp2
  go_loopw [5] (fun s5 wx => ∃ k : Nat, k ≤ n ∧ s5 = .int .i64 k ∧ Hid (Below w.heap.size w wx) ∧ Hid (res = recsB (s.drop k) (t.drop k))) (fun s5 _ => n - (intOf s5).toNat)
  case atStart => exact ⟨0, by omega, rfl, Below.refl _ _, HR.out⟩
  case round =>
   obtain ⟨k, hk, rfl, HB, HR2⟩ := hrel
   clear HR
   by_cases hk2 : (k : Int) < n
   ·obtain ⟨hn, hn2⟩ := HL.out
    have hc : s[k]? = some s[k] := List.getElem?_eq_getElem (by omega)
    have hd : t[k]? = some t[k] := List.getElem?_eq_getElem (by omega)
    have hcd : s.drop k = s[k] :: s.drop (k + 1) := List.drop_eq_getElem_cons (by omega)
    have hdd : t.drop k = t[k] :: t.drop (k + 1) := List.drop_eq_getElem_cons (by omega)
    obtain ⟨b1, o1, rfl, l1, C1⟩ := (HS.out.later HB.out) (by omega)
    obtain ⟨b2, o2, rfl, l2, C2⟩ := (HT.out.later HB.out) (by omega)
    generalize s[k] = c at hc hcd
    generalize t[k] = d at hd hdd
    have q1 : wr.rangeAt b1 (o1 + k * 1026) (recCells c) := C1 k c hc
    have q2 : wr.rangeAt b2 (o2 + k * 1026) (recCells d) := C2 k d hd
    have hR := HR2.out
    rw [hcd, hdd] at hR
    unfold recsB at hR
    clear HR2 C1 C2 hcd hdd hc hd hn hn2
    cases hb : recB c d
    ·have hr0 : res = false := by rw [hR, hb]; rfl
     clear hR
     subst hr0
     go_wp2
     refine wp_region_still_lit (by kernel_rfl) (by kernel_rfl) ?_
     repeat still_step
     refine wpStill_load86 rfl (.tmp 19) rfl b1 (o1 + k * 1026) rfl c q1 ?_
     repeat still_step
     refine wpStill_load86 rfl (.tmp 23) rfl b2 (o2 + k * 1026) rfl d q2 ?_
     repeat still_step
     refine wpStill_neq86 rfl (.tmp 20) (.tmp 24) rfl c d false rfl rfl hb ?_
     simp only [Act.put, List.setIfInBounds_toArray, List.set_cons_succ, List.set_cons_zero, Bool.not_false]
     refine wpStill_nil ?_
     go_wp2
     go_ret
     exact ⟨rfl, HB.out.drew⟩
    ·have HR3 : Hid (res = recsB (s.drop (k + 1)) (t.drop (k + 1))) := by
      have e : res = recsB (s.drop (k + 1)) (t.drop (k + 1)) := by rw [hR, hb]; rfl
      exact e
     clear hR
     go_wp2
     refine wp_region_still_lit (by kernel_rfl) (by kernel_rfl) ?_
     repeat still_step
     refine wpStill_load86 rfl (.tmp 19) rfl b1 (o1 + k * 1026) rfl c q1 ?_
     repeat still_step
     refine wpStill_load86 rfl (.tmp 23) rfl b2 (o2 + k * 1026) rfl d q2 ?_
     repeat still_step
     refine wpStill_neq86 rfl (.tmp 20) (.tmp 24) rfl c d true rfl rfl hb ?_
     simp only [Act.put, List.setIfInBounds_toArray, List.set_cons_succ, List.set_cons_zero, Bool.not_true]
     refine wpStill_nil ?_
     go_wp2
     exact ⟨⟨k + 1, by omega, by go_num, HB.out.drew, HR3.out⟩, by simp [intOf]; omega⟩
   ·obtain rfl : k = n := by omega
    have hr0 : res = true := by
     obtain ⟨hn, hn2⟩ := HL.out
     rw [HR2.out, List.drop_of_length_le (by omega), List.drop_of_length_le (by omega)]
     rfl
    subst hr0
    go_wp2
    go_ret
    exact ⟨rfl, HB.out⟩
 ·have hr0 : recsB s t = false := by
   cases hq : recsB s t
   ·rfl
   ·exact absurd (recsB_len hq) hl
  rw [hr0]
  clear hr0 hs ht
  have hl2 : (s.length : Int) ≠ t.length := by omega
  generalize s.length = n at *
  generalize t.length = m at *
  go_enter Tryz.func12, Tryz.ntmps12
  go_wp2
  go_ret
  exact ⟨rfl, Below.refl _ _⟩
end Go.Proofs.YtichojdcoegboaaGreatW
