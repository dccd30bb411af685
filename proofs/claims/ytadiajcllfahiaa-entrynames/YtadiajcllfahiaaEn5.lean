/- Decode by the program: whatever the sixteen bytes. -/
import Derived.Test.YtadiajcllfahiaaEn4
namespace Go.Proofs.Ytadiajcllfahiaa
open Go.RowKit Go.Maps
theorem zeroEn : ∀ w, (zeroValue 24).run Try.prog w = .ok (.agg #[.int .u16 0, .string ⟨#[]⟩]) w := (zero_of_info (show (Try.prog.info? 24).map (fun i => (i.zero, i.size)) = some (some (.agg #[.int .u16 0, .string ⟨#[]⟩]), 2) by kernel_rfl)).1
theorem sizeEn : (Try.prog.info? 24).map (·.size) = some 2 := by kernel_rfl
theorem size14 : (Try.prog.info? 51).map (·.size) = some 14 := by kernel_rfl
/-- An entry's cells. -/
def enR (i : Int) (s : ByteArray) : Array Value := #[.int .u16 i, .string s]
theorem enR_size (i : Int) (s : ByteArray) : (enR i s).size = 2 := rfl
theorem enL_info (i : Int) (s : ByteArray) : (Try.prog.info? 24).map (·.size) = some (#[Value.int .u16 i, .string s] : Array Value).size := sizeEn
theorem enL_two (i i' : Int) (s s' : ByteArray) : (#[Value.int .u16 i, .string s] : Array Value).size = (#[Value.int .u16 i', .string s'] : Array Value).size := rfl
theorem enL_one (i : Int) (s : ByteArray) : (#[Value.int .u16 i, .string s] : Array Value).all (·.oneCell') = true := by simp [Value.oneCell']
theorem enR_one (i : Int) (s : ByteArray) : (enR i s).all (·.oneCell') = true := by simp [enR, Value.oneCell']
/-- The number. -/
def dcI (f : Nat → Int) : Int := f 0 + 256 * f 1
def nmF (f : Nat → Int) : Nat → Int := fun k => f (2 + k)
/-- The name. -/
def dcS (f : Nat → Int) : ByteArray := txt (nmF f) (upto (nmF f) 14)
def dcOk (f : Nat → Int) : Bool := chV (dcI f) (dcS f) == 0 && sameN 16 (encP (dcI f) (dcS f)) f
/-- What Decode answers. -/
def decR (f : Nat → Int) : Array Value := if dcOk f then enR (dcI f) (dcS f) else enR 0 ⟨#[]⟩
def decE (f : Nat → Int) : Int := if dcOk f then 0 else 4
def Byt16 (f : Nat → Int) : Prop := ∀ j, j < 16 → 0 ≤ f j ∧ f j ≤ 255
theorem lay0_e (w : World) (f : Nat → Int) (p : Value) (hp : YtadiajcllfahiaaN.Lies w p 16 f) : Calls Try.prog 17 #[.agg (blk nought), .int .i64 0, p] w fun e w' => e = .returned (.agg (blk (YtadiajcllfahiaaN.layF nought 0 16 f))) ∧ Below w.heap.size w w' := YtadiajcllfahiaaN.lay_any nought 0 p 16 f w (by omega) hp
theorem u16_e (w : World) (f : Nat → Int) (hf : Byt16 f) : Calls Try.prog 20 #[.agg (blk (YtadiajcllfahiaaN.layF nought 0 16 f)), .int .i64 0] w fun e w' => e = .returned (.int .u16 (dcI f)) ∧ Below w.heap.size w w' := by
  have h := YtadiajcllfahiaaN.u16_any (YtadiajcllfahiaaN.layF nought 0 16 f) ((0 : Nat) : Int) w fun j => by
    unfold YtadiajcllfahiaaN.layF nought
    split
    · exact hf _ (by omega)
    · omega
  rw [YtadiajcllfahiaaN.num_in _ _ _ (by omega), YtadiajcllfahiaaN.num2] at h
  exact h
theorem mid14 {w : World} {b : Nat} {f : Nat → Int} {t : TypeId} (h : w.heap[b]? = some (.cells (rowN .u8 f 16) t)) : NumsAt w .u8 b 2 (nmF f) 14 := fun i hi => cell_rowN (i := 2 + i) h (by omega)
theorem load14 {w : World} {b off : Nat} {f : Nat → Int} (h : NumsAt w .u8 b off f 14) : (Instr.loadAt 51 (.pointer (some ⟨b, off, none⟩))).run Try.prog w = .ok (.agg (rowN .u8 f 14)) w := by
  have hr : w.rangeAt b off (rowN .u8 f 14).toList := fun j v hv => by
    have hj : j < 14 := by
      have := (List.getElem?_eq_some_iff.1 hv).1
      rw [Array.length_toList, rowN_size] at this
      exact this
    rw [Array.getElem?_toList, rowN_get _ _ _ _ hj] at hv
    injection hv with hv
    rw [← hv]
    exact h j hj
  have := run_loadAt_mid (P := Try.prog) w b off 51 (rowN .u8 f 14).toList _ hr Try.underlying51 rfl (by rw [Array.length_toList, rowN_size]; exact size14)
  rwa [Array.toArray_toList] at this
theorem slice16 (b : Nat) (u : World) : (Instr.sliceAt 26 (.pointer (some ⟨b, 0, none⟩)) none none none).run Try.prog u = .ok (.slice (some ⟨b, 0, none⟩) 16 16) u := by
  have ea : Try.prog.arrayLen 26 = 16 := by kernel_rfl
  have ee : Try.prog.elem 26 = 5 := by kernel_rfl
  have h := run_sliceAt_array_all (P := Try.prog) u 26 ⟨b, 0, none⟩ (by rw [ea, ee]; exact Try.underlying26)
  rw [h, ea, ee]
  simp [Try.sizeOf5, slicedAt, Addr.add]
theorem slice16l (b : Nat) (u : World) : (Instr.sliceAt 26 (.pointer (some ⟨b, 0, none⟩)) (some (.int .i64 2)) none none).run Try.prog u = .ok (.slice (some ⟨b, 2, none⟩) 14 14) u := by
  have ea : Try.prog.arrayLen 26 = 16 := by kernel_rfl
  have ee : Try.prog.elem 26 = 5 := by kernel_rfl
  have h := run_sliceAt_array_l (P := Try.prog) u 26 ⟨b, 0, none⟩ (by rw [ea, ee]; exact Try.underlying26) .i64 2 (by omega) (by rw [ea]; omega)
  rw [h, ea, ee]
  simp [Try.sizeOf5, slicedAt, Addr.add]
section
variable {o : Oper} {a : Act} {W : World}
theorem exec_zB (ho : o.op = .build 43 #[]) : (execOp a.eval o).run Try.prog W = .ok (.value (.agg (blk nought))) W := by
  have z := zero77 W
  unfold execOp
  simp only [ho]
  simp [go_sem, z]
theorem exec_s16 {x : Operand} {b : Nat} (ho : o.op = .slice 26 x none none none) (hx : a.eval x = .pointer (some ⟨b, 0, none⟩)) : (execOp a.eval o).run Try.prog W = .ok (.value (.slice (some ⟨b, 0, none⟩) 16 16)) W := by
  have e := slice16 b W
  simp [execOp, ho, hx, e]
theorem exec_s16l {x : Operand} {b : Nat} (ho : o.op = .slice 26 x (some (.const (.int .i64 2))) none none) (hx : a.eval x = .pointer (some ⟨b, 0, none⟩)) : (execOp a.eval o).run Try.prog W = .ok (.value (.slice (some ⟨b, 2, none⟩) 14 14)) W := by
  have e := slice16l b W
  have hk : a.eval (.const (.int .i64 2)) = .int .i64 2 := rfl
  simp [execOp, ho, hx, hk, e]
theorem exec_a14 {x : Operand} {p : Option Addr} {n c : Nat} (ho : o.op = .sliceToArrayPointer 51 x) (hx : a.eval x = .slice p n c) (hn : 14 ≤ n) : (execOp a.eval o).run Try.prog W = .ok (.value (.pointer p)) W := by
  have e := run_arrayAt (P := Try.prog) W 51 _ 14 p n c Try.underlying51 hn
  simp [execOp, ho, hx, e]
theorem exec_ld14 {x : Operand} {b off : Nat} {f : Nat → Int} (ho : o.op = .load 51 x) (hx : a.eval x = .pointer (some ⟨b, off, none⟩)) (hg : NumsAt W .u8 b off f 14) : (execOp a.eval o).run Try.prog W = .ok (.value (.agg (rowN .u8 f 14))) W := by
  unfold execOp
  simp only [ho, hx, load14 hg, Sem.run_bind, Result.andThen_ok, Sem.run_pure]
theorem exec_alE (ho : o.op = .alloc 24) : (execOp a.eval o).run Try.prog W = .ok (.value (.pointer (some ⟨W.heap.size, 0, none⟩))) (W.alloc (.cells (enR 0 ⟨#[]⟩) 24)) := by
  have z := zeroEn W
  unfold execOp enR
  simp only [ho]
  simp [go_sem, z]
theorem exec_stE {x y : Operand} {g : Nat} {i j : Int} {s t : ByteArray} (ho : o.op = .store 24 x y) (hx : a.eval x = .pointer (some ⟨g, 0, none⟩)) (hy : a.eval y = .agg (enR i s)) (hg : W.heap[g]? = some (.cells (enR j t) 24)) : (execOp a.eval o).run Try.prog W = .ok .skip (W.setRow g (enR i s)) := by
  unfold execOp
  simp only [ho, hx, hy, Instr.storeAt, Instr.sureAddr, Sem.run_bind, Sem.run_pure, Result.andThen_ok, run_storeVar_row W g 24 24 (enR j t) (enR i s) hg (by rw [enR_size]; exact sizeEn) (by rw [enR_size, enR_size]) (enR_one i s)]
theorem exec_bdE {x y : Operand} {i : Int} {s : ByteArray} (ho : o.op = .build 24 #[(0, x), (1, y)]) (hx : a.eval x = .int .u16 i) (hy : a.eval y = .string s) : (execOp a.eval o).run Try.prog W = .ok (.value (.agg (enR i s))) W := by
  have z := zeroEn W
  generalize a.eval = E at *
  unfold execOp enR
  simp only [ho]
  simp [go_sem, hx, hy, z]
end
/-- What a walk of Decode holds. -/
structure Dd0 (w W : World) (f : Nat → Int) : Prop where
  row : W.heap[w.heap.size]? = some (.cells (rowN .u8 f 16) 26)
  res : W.heap[w.heap.size + 1]? = some (.cells (enR 0 ⟨#[]⟩) 24)
  bel : Below w.heap.size w W
structure Dd (w W : World) (f : Nat → Int) (g : Nat) (i : Int) (s : ByteArray) : Prop extends Dd0 w W f where
  ent : W.heap[g]? = some (.cells (enR i s) 24)
  far : w.heap.size + 1 < g
theorem Dd0.start (w : World) (f : Nat → Int) : Dd0 w ((w.alloc (.cells (rowN .u8 f 16) 26)).alloc (.cells (enR 0 ⟨#[]⟩) 24)).drew f :=
  ⟨heap_alloc2_old _ _ _, heap_alloc2_new _ _ _, (bel_al (below_new _ _) _).drew⟩
theorem Dd0.call {w W W' : World} {f : Nat → Int} (h : Dd0 w W f) (hb : Below W.heap.size W W') : Dd0 w W' f := ⟨heap_kept h.row hb, heap_kept h.res hb, below_next h.bel hb⟩
theorem Dd.call {w W W' : World} {f : Nat → Int} {g : Nat} {i : Int} {s : ByteArray} (h : Dd w W f g i s) (hb : Below W.heap.size W W') : Dd w W' f g i s := ⟨h.toDd0.call hb, heap_kept h.ent hb, h.far⟩
theorem Dd0.alloc {w W : World} {f : Nat → Int} (h : Dd0 w W f) : Dd w (W.alloc (.cells (enR 0 ⟨#[]⟩) 24)) f W.heap.size 0 ⟨#[]⟩ :=
  ⟨h.call (below_new _ _), heap_alloc_new _ _, (Array.getElem?_eq_some_iff.1 h.res).1⟩
theorem Dd.store {w W : World} {f : Nat → Int} {g : Nat} {i : Int} {s : ByteArray} (h : Dd w W f g i s) (j : Int) (t : ByteArray) : Dd w (W.setRow g (enR j t)) f g j t :=
  ⟨⟨(setRow_other _ _ _ _ (by have := h.far; omega)).trans h.row, (setRow_other _ _ _ _ (by have := h.far; omega)).trans h.res, below_setRow h.bel (by have := h.far; omega) _⟩, setRow_heap _ _ _ _ _ _ h.ent, h.far⟩
theorem lies16 {W : World} {b : Nat} {f : Nat → Int} {t : TypeId} (h : W.heap[b]? = some (.cells (rowN .u8 f 16) t)) : YtadiajcllfahiaaN.Lies W (.slice (some ⟨b, 0, none⟩) 16 16) 16 f :=
  .inr ⟨b, 0, 16, rfl, by unfold maxLen; omega, by omega, (Array.getElem?_eq_some_iff.1 h).1, fun i hi => by rw [Nat.zero_add]; exact cell_rowN h hi⟩
set_option maxRecDepth 20000 in
set_option maxHeartbeats 2000000 in
theorem dec_any (w : World) (f : Nat → Int) (hf : Byt16 f) :
    Calls Try.prog 13 #[.agg (rowN .u8 f 16)] w fun e w' => e = .returned (.tuple #[.agg (decR f), .int .i64 (decE f)]) ∧ Below w.heap.size w w' := by
  have HL : Hid _ := fun W p hp => lay0_e W f p hp
  have HU : Hid _ := fun W => u16_e W f hf
  have HX : Hid _ := fun W => text_any (nmF f) W fun k hk => hf (2 + k) (by omega)
  have hi : 0 ≤ dcI f ∧ dcI f < 65536 := by
    have h0 := hf 0 (by omega)
    have h1 := hf 1 (by omega)
    unfold dcI
    omega
  have hz : (dcS f).size ≤ 14 := by unfold dcS; rw [txt_size]; exact upto_le _ _
  have HE : Hid _ := fun W => enc_any W (dcI f) hi (dcS f) (by omega)
  have HR : Hid (decR f = if dcOk f then enR (dcI f) (dcS f) else enR 0 ⟨#[]⟩) := rfl
  have HQ : Hid (decE f = if dcOk f then 0 else 4) := rfl
  have HO : Hid (dcOk f = (chV (dcI f) (dcS f) == 0 && sameN 16 (encP (dcI f) (dcS f)) f)) := rfl
  have HX' : Hid (∀ W : World, Calls Try.prog 21 #[.agg (rowN .u8 (nmF f) 14)] W fun e w' => e = .returned (.string (dcS f)) ∧ Below W.heap.size W w') := HX.out
  clear HX hi hz hf
  generalize decR f = R at *
  generalize decE f = q at *
  generalize dcS f = s at *
  generalize dcI f = i at *
  generalize YtadiajcllfahiaaN.layF nought 0 16 f = F at *
  have zE := zeroEn
  have HD0 : Hid (Dd0 w ((w.alloc (.cells (rowN .u8 f 16) 26)).alloc (.cells #[.int .u16 0, .string ⟨#[]⟩] 24)).drew f) := Dd0.start w f
  go_enter Try.func13, Try.ntmps13
  go_wp2
  refine Code.wp_mono (Q := fun e a' w' => e = .normal ∧ ∃ g, a' = ⟨#[.agg (rowN .u8 f 16), .pointer (some ⟨w.heap.size, 0, none⟩), .pointer (some ⟨w.heap.size + 1, 0, none⟩), .int .i64 0, .pointer (some ⟨g, 0, none⟩), undef, undef, .agg (blk nought), .slice (some ⟨w.heap.size, 0, none⟩) 16 16, .agg (blk F), .int .u16 i, .slice (some ⟨w.heap.size, 2, none⟩) 14 14, .pointer (some ⟨w.heap.size, 2, none⟩), .agg (rowN .u8 (nmF f) 14), .string s, .agg (enR i s), undef, undef, undef, undef, undef, undef, undef, undef, undef, undef, undef, undef, undef, undef], []⟩ ∧ Hid (Dd w w' f g i s)) ?rest ?region
  case region =>
    refine wp_region_tree (S := fun u => u.heap[w.heap.size]? = some (.cells (rowN .u8 f 16) 26)) (rdT 0 (rdT 1 (rdT 4 (rdT 5 (rdT 6 (altT [(2, altT [(3, altT [(7, rdT 8 (altT [(9, altT [(10, finT)])])), (9, altT [(7, rdT 8 (altT [(10, finT)]))])]), (9, altT [(3, altT [(7, rdT 8 (altT [(10, finT)]))])])]), (9, altT [(2, altT [(3, altT [(7, rdT 8 (altT [(10, finT)]))])])])]))))))
      (by kernel_rfl) rfl (by kernel_rfl) (fun _ _ _ _ _ h => by cases h.1) HD0.out.row ?_
    generalize ((w.alloc (.cells (rowN .u8 f 16) 26)).alloc (.cells #[.int .u16 0, .string ⟨#[]⟩] 24)).drew = wd at *
    refine wpT_yield (v := .agg (blk nought)) rfl rfl (fun u _ => exec_zB rfl) ?_
    simp only [Act.put, List.setIfInBounds_toArray, List.set_cons_succ, List.set_cons_zero]
    refine wpT_yield (v := .slice (some ⟨w.heap.size, 0, none⟩) 16 16) rfl rfl (fun u _ => exec_s16 rfl rfl) ?_
    simp only [Act.put, List.setIfInBounds_toArray, List.set_cons_succ, List.set_cons_zero]
    refine wpT_yield (v := .slice (some ⟨w.heap.size, 2, none⟩) 14 14) rfl rfl (fun u _ => exec_s16l rfl rfl) ?_
    simp only [Act.put, List.setIfInBounds_toArray, List.set_cons_succ, List.set_cons_zero]
    refine wpT_yield (v := .pointer (some ⟨w.heap.size, 2, none⟩)) rfl rfl (fun u _ => exec_a14 rfl rfl (by omega)) ?_
    simp only [Act.put, List.setIfInBounds_toArray, List.set_cons_succ, List.set_cons_zero]
    refine wpT_yield (v := .agg (rowN .u8 (nmF f) 14)) rfl rfl (fun u hu => exec_ld14 rfl rfl (mid14 hu)) ?_
    simp only [Act.put, List.setIfInBounds_toArray, List.set_cons_succ, List.set_cons_zero]
    refine wpT_call rfl rfl 17 _ _ rfl Try.call17 [.agg (blk nought), .int .i64 0, .slice (some ⟨w.heap.size, 0, none⟩) 16 16] rfl ?_ ?_
    · refine (HL.out _ _ (lies16 HD0.out.row)).mono ?_
      rintro e' X1 ⟨rfl, hb⟩
      have H1 : Hid _ := HD0.out.call hb
      clear hb
      refine ⟨_, rfl, H1.out.row, ?_⟩
      simp only [Act.put, List.setIfInBounds_toArray, List.set_cons_succ, List.set_cons_zero]
      refine wpT_call rfl rfl 20 _ _ rfl Try.call20 [.agg (blk F), .int .i64 0] rfl ?_ ?_
      · refine (HU.out _).mono ?_
        rintro e' X2 ⟨rfl, hb⟩
        have H2 : Hid _ := H1.out.call hb
        clear hb
        refine ⟨_, rfl, H2.out.row, ?_⟩
        simp only [Act.put, List.setIfInBounds_toArray, List.set_cons_succ, List.set_cons_zero]
        refine wpT_call rfl rfl 21 _ _ rfl Try.call21 [.agg (rowN .u8 (nmF f) 14)] rfl ?_ ?_
        · refine (HX'.out _).mono ?_
          rintro e' X3 ⟨rfl, hb⟩
          have H3 : Hid _ := H2.out.call hb
          clear hb
          refine ⟨_, rfl, H3.out.row, ?_⟩
          simp only [Act.put, List.setIfInBounds_toArray, List.set_cons_succ, List.set_cons_zero]
          refine wpT_yield (v := .agg (enR i s)) rfl rfl (fun u _ => exec_bdE rfl rfl rfl) ?_
          simp only [Act.put, List.setIfInBounds_toArray, List.set_cons_succ, List.set_cons_zero]
          refine wpT_make (v := .pointer (some ⟨X3.heap.size, 0, none⟩)) (w' := X3.alloc (.cells (enR 0 ⟨#[]⟩) 24)) rfl rfl (exec_alE rfl) (H3.out.alloc).row ?_ wpT_stop
          have HA : Hid _ := H3.out.alloc
          simp only [Act.put, List.setIfInBounds_toArray, List.set_cons_succ, List.set_cons_zero]
          refine wpT_do (w' := (X3.alloc (.cells (enR 0 ⟨#[]⟩) 24)).setRow X3.heap.size (enR i s)) rfl rfl (exec_stE rfl rfl rfl HA.out.ent) (HA.out.store i s).row ?_ wpT_stop
          simp only [Act.put]
          exact wpT_fin ⟨rfl, X3.heap.size, rfl, HA.out.store i s⟩
        · refine wpT_make (v := .pointer (some ⟨X2.heap.size, 0, none⟩)) (w' := X2.alloc (.cells (enR 0 ⟨#[]⟩) 24)) rfl rfl (exec_alE rfl) (H2.out.alloc).row ?_ wpT_stop
          have HA : Hid _ := H2.out.alloc
          simp only [Act.put, List.setIfInBounds_toArray, List.set_cons_succ, List.set_cons_zero]
          generalize X2.heap.size = g at *
          generalize X2.alloc (.cells (enR 0 ⟨#[]⟩) 24) = WA at *
          refine wpT_call rfl rfl 21 _ _ rfl Try.call21 [.agg (rowN .u8 (nmF f) 14)] rfl ?_ wpT_stop
          · refine (HX'.out _).mono ?_
            rintro e' X4 ⟨rfl, hb⟩
            have H4 : Hid _ := HA.out.call hb
            clear hb
            refine ⟨_, rfl, H4.out.row, ?_⟩
            simp only [Act.put, List.setIfInBounds_toArray, List.set_cons_succ, List.set_cons_zero]
            refine wpT_yield (v := .agg (enR i s)) rfl rfl (fun u _ => exec_bdE rfl rfl rfl) ?_
            simp only [Act.put, List.setIfInBounds_toArray, List.set_cons_succ, List.set_cons_zero]
            refine wpT_do (w' := X4.setRow g (enR i s)) rfl rfl (exec_stE rfl rfl rfl H4.out.ent) (H4.out.store i s).row ?_ wpT_stop
            simp only [Act.put]
            exact wpT_fin ⟨rfl, g, rfl, H4.out.store i s⟩
      · refine wpT_make (v := .pointer (some ⟨X1.heap.size, 0, none⟩)) (w' := X1.alloc (.cells (enR 0 ⟨#[]⟩) 24)) rfl rfl (exec_alE rfl) (H1.out.alloc).row ?_ wpT_stop
        have HA : Hid _ := H1.out.alloc
        simp only [Act.put, List.setIfInBounds_toArray, List.set_cons_succ, List.set_cons_zero]
        generalize X1.heap.size = g at *
        generalize X1.alloc (.cells (enR 0 ⟨#[]⟩) 24) = WA at *
        refine wpT_call rfl rfl 20 _ _ rfl Try.call20 [.agg (blk F), .int .i64 0] rfl ?_ wpT_stop
        · refine (HU.out _).mono ?_
          rintro e' X5 ⟨rfl, hb⟩
          have H5 : Hid _ := HA.out.call hb
          clear hb
          refine ⟨_, rfl, H5.out.row, ?_⟩
          simp only [Act.put, List.setIfInBounds_toArray, List.set_cons_succ, List.set_cons_zero]
          refine wpT_call rfl rfl 21 _ _ rfl Try.call21 [.agg (rowN .u8 (nmF f) 14)] rfl ?_ wpT_stop
          · refine (HX'.out _).mono ?_
            rintro e' X6 ⟨rfl, hb⟩
            have H6 : Hid _ := H5.out.call hb
            clear hb
            refine ⟨_, rfl, H6.out.row, ?_⟩
            simp only [Act.put, List.setIfInBounds_toArray, List.set_cons_succ, List.set_cons_zero]
            refine wpT_yield (v := .agg (enR i s)) rfl rfl (fun u _ => exec_bdE rfl rfl rfl) ?_
            simp only [Act.put, List.setIfInBounds_toArray, List.set_cons_succ, List.set_cons_zero]
            refine wpT_do (w' := X6.setRow g (enR i s)) rfl rfl (exec_stE rfl rfl rfl H6.out.ent) (H6.out.store i s).row ?_ wpT_stop
            simp only [Act.put]
            exact wpT_fin ⟨rfl, g, rfl, H6.out.store i s⟩
    · refine wpT_make (v := .pointer (some ⟨wd.heap.size, 0, none⟩)) (w' := wd.alloc (.cells (enR 0 ⟨#[]⟩) 24)) rfl rfl (exec_alE rfl) (HD0.out.alloc).row ?_ wpT_stop
      have HA : Hid _ := HD0.out.alloc
      simp only [Act.put, List.setIfInBounds_toArray, List.set_cons_succ, List.set_cons_zero]
      generalize wd.heap.size = g at *
      generalize wd.alloc (.cells (enR 0 ⟨#[]⟩) 24) = WA at *
      refine wpT_call rfl rfl 17 _ _ rfl Try.call17 [.agg (blk nought), .int .i64 0, .slice (some ⟨w.heap.size, 0, none⟩) 16 16] rfl ?_ wpT_stop
      · refine (HL.out _ _ (lies16 HA.out.row)).mono ?_
        rintro e' X7 ⟨rfl, hb⟩
        have H7 : Hid _ := HA.out.call hb
        clear hb
        refine ⟨_, rfl, H7.out.row, ?_⟩
        simp only [Act.put, List.setIfInBounds_toArray, List.set_cons_succ, List.set_cons_zero]
        refine wpT_call rfl rfl 20 _ _ rfl Try.call20 [.agg (blk F), .int .i64 0] rfl ?_ wpT_stop
        · refine (HU.out _).mono ?_
          rintro e' X8 ⟨rfl, hb⟩
          have H8 : Hid _ := H7.out.call hb
          clear hb
          refine ⟨_, rfl, H8.out.row, ?_⟩
          simp only [Act.put, List.setIfInBounds_toArray, List.set_cons_succ, List.set_cons_zero]
          refine wpT_call rfl rfl 21 _ _ rfl Try.call21 [.agg (rowN .u8 (nmF f) 14)] rfl ?_ wpT_stop
          · refine (HX'.out _).mono ?_
            rintro e' X9 ⟨rfl, hb⟩
            have H9 : Hid _ := H8.out.call hb
            clear hb
            refine ⟨_, rfl, H9.out.row, ?_⟩
            simp only [Act.put, List.setIfInBounds_toArray, List.set_cons_succ, List.set_cons_zero]
            refine wpT_yield (v := .agg (enR i s)) rfl rfl (fun u _ => exec_bdE rfl rfl rfl) ?_
            simp only [Act.put, List.setIfInBounds_toArray, List.set_cons_succ, List.set_cons_zero]
            refine wpT_do (w' := X9.setRow g (enR i s)) rfl rfl (exec_stE rfl rfl rfl H9.out.ent) (H9.out.store i s).row ?_ wpT_stop
            simp only [Act.put]
            exact wpT_fin ⟨rfl, g, rfl, H9.out.store i s⟩
  case rest =>
    rintro e a' W ⟨rfl, g, rfl, HT⟩
    have c0 : W.cell? ⟨g, 0, none⟩ = some (.int .u16 i) := Joins.cell_of_block HT.out.ent 0
    have c1 : W.cell? ⟨g, 1, none⟩ = some (.string s) := Joins.cell_of_block HT.out.ent 1
    have zb := zeroBy
    have ce := HE.out W
    clear HE HL HU HX' HD0
    go_wp2_with (first | (go_at_call 8; fail))
    refine ce.mono ?_
    rintro e W1 ⟨rfl, hb⟩
    clear ce c0 c1
    have hT1 := (HT.out.call hb).call (below_new W1 (.cells (rowN .u8 (encF i s) 16) 26))
    have hE1 : (W1.alloc (.cells (rowN .u8 (encF i s) 16) 26)).heap[W1.heap.size]? = some (.cells (rowN .u8 (encF i s) 16) 26) := heap_alloc_new _ _
    clear HT hb
    have hrw := hT1.row
    have hrs : (W1.alloc (.cells (rowN .u8 (encF i s) 16) 26)).heap[w.heap.size + 1]? = some (.cells #[.int .u16 0, .string ⟨#[]⟩] 24) := hT1.res
    have d0 : (W1.alloc (.cells (rowN .u8 (encF i s) 16) 26)).cell? ⟨g, 0, none⟩ = some (.int .u16 i) := Joins.cell_of_block hT1.ent 0
    have d1 : (W1.alloc (.cells (rowN .u8 (encF i s) 16) 26)).cell? ⟨g, 1, none⟩ = some (.string s) := Joins.cell_of_block hT1.ent 1
    have HB : Hid _ := hT1.bel
    clear hT1
    by_cases hc : chV i s = 0
    · have hF := encF_ok hc
      rw [hF] at hE1 hrw hrs d0 d1 HB
      rw [hF, hc]
      clear hF
      rw [hc] at HO
      generalize encP i s = G at *
      cases hb : sameN 16 G f
      · have HO2 : Hid (R = enR 0 ⟨#[]⟩ ∧ q = 4) := by
          have e : dcOk f = false := by rw [HO.out, hb]; rfl
          exact ⟨by rw [HR.out, e]; rfl, by rw [HQ.out, e]; rfl⟩
        clear HO HR HQ
        go_wp2_with (first | (with_reducible refine isStoreR 26 ?_; refine wpList_stNew 26 rfl _ _ rfl W1.heap.size (rowN .u8 G 16) (rowN .u8 nought 16) 26 (by rw [rowN_size]; exact sizeBy) (by rw [rowN_size, rowN_size]) (rowN_one _ _ _) rfl rfl rfl ?_) | (with_reducible refine isLoadR 26 ?_; refine wpList_ldR 26 Try.underlying26 rfl rfl _ rfl W1.heap.size rfl (rowN .u8 G 16) 26 (0, 0) (by rw [rowN_size]; exact sizeBy) hE1 ?_) | (with_reducible refine isLoadR 26 ?_; refine wpList_ldR 26 Try.underlying26 rfl rfl _ rfl w.heap.size rfl (rowN .u8 f 16) 26 (0, 0) (by rw [rowN_size]; exact sizeBy) hrw ?_) | (with_reducible refine isEqR 26 26 ?_; refine wpList_neN Try.underlying26 (by kernel_rfl) rfl _ _ rfl G f _ rfl rfl hb ?_) | (with_reducible refine isStoreR 24 ?_; refine wpList_stR 24 rfl _ _ rfl (w.heap.size + 1) #[.int .u16 0, .string ⟨#[]⟩] #[.int .u16 0, .string ⟨#[]⟩] 24 (enL_info 0 ⟨#[]⟩) (enL_two 0 0 ⟨#[]⟩ ⟨#[]⟩) (enL_one 0 ⟨#[]⟩) rfl rfl hrs ?_))
        exact retCT Try.underlying24 rfl rfl (w.heap.size + 1) (enR 0 ⟨#[]⟩) 24 (by rw [enR_size]; exact sizeEn) rfl (setRow_heap _ _ _ _ _ _ hrs) rfl ⟨by rw [HO2.out.1, HO2.out.2]; rfl, below_setRow HB.out (by omega) _⟩
      · have HO2 : Hid (R = enR i s ∧ q = 0) := by
          have e : dcOk f = true := by rw [HO.out, hb]; rfl
          exact ⟨by rw [HR.out, e]; rfl, by rw [HQ.out, e]; rfl⟩
        clear HO HR HQ
        go_wp2_with (first | (with_reducible refine isStoreR 26 ?_; refine wpList_stNew 26 rfl _ _ rfl W1.heap.size (rowN .u8 G 16) (rowN .u8 nought 16) 26 (by rw [rowN_size]; exact sizeBy) (by rw [rowN_size, rowN_size]) (rowN_one _ _ _) rfl rfl rfl ?_) | (with_reducible refine isLoadR 26 ?_; refine wpList_ldR 26 Try.underlying26 rfl rfl _ rfl W1.heap.size rfl (rowN .u8 G 16) 26 (0, 0) (by rw [rowN_size]; exact sizeBy) hE1 ?_) | (with_reducible refine isLoadR 26 ?_; refine wpList_ldR 26 Try.underlying26 rfl rfl _ rfl w.heap.size rfl (rowN .u8 f 16) 26 (0, 0) (by rw [rowN_size]; exact sizeBy) hrw ?_) | (with_reducible refine isEqR 26 26 ?_; refine wpList_neN Try.underlying26 (by kernel_rfl) rfl _ _ rfl G f _ rfl rfl hb ?_) | (with_reducible refine isStoreR 24 ?_; refine wpList_stR 24 rfl _ _ rfl (w.heap.size + 1) #[.int .u16 i, .string s] #[.int .u16 0, .string ⟨#[]⟩] 24 (enL_info i s) (enL_two 0 i ⟨#[]⟩ s) (enL_one i s) rfl rfl hrs ?_))
        exact retCT Try.underlying24 rfl rfl (w.heap.size + 1) (enR i s) 24 (by rw [enR_size]; exact sizeEn) rfl (setRow_heap _ _ _ _ _ _ hrs) rfl ⟨by rw [HO2.out.1, HO2.out.2]; rfl, below_setRow HB.out (by omega) _⟩
    · have HO2 : Hid (R = enR 0 ⟨#[]⟩ ∧ q = 4) := by
        have e : dcOk f = false := by rw [HO.out, beq_eq_false_iff_ne.2 hc]; rfl
        exact ⟨by rw [HR.out, e]; rfl, by rw [HQ.out, e]; rfl⟩
      have g1 : (chV i s == 0) = false := beq_eq_false_iff_ne.2 hc
      have g2 : (chV i s != 0) = true := by rw [bne, g1]; rfl
      clear HO HR HQ
      generalize chV i s = c at *
      generalize encF i s = G at *
      go_wp2_with (first | (with_reducible refine isStoreR 26 ?_; refine wpList_stNew 26 rfl _ _ rfl W1.heap.size (rowN .u8 G 16) (rowN .u8 nought 16) 26 (by rw [rowN_size]; exact sizeBy) (by rw [rowN_size, rowN_size]) (rowN_one _ _ _) rfl rfl rfl ?_) | (with_reducible refine isLoadR 26 ?_; refine wpList_ldR 26 Try.underlying26 rfl rfl _ rfl W1.heap.size rfl (rowN .u8 G 16) 26 (0, 0) (by rw [rowN_size]; exact sizeBy) hE1 ?_) | (with_reducible refine isLoadR 26 ?_; refine wpList_ldR 26 Try.underlying26 rfl rfl _ rfl w.heap.size rfl (rowN .u8 f 16) 26 (0, 0) (by rw [rowN_size]; exact sizeBy) hrw ?_) | (with_reducible refine isEqR 26 26 ?_; refine wpList_neN Try.underlying26 (by kernel_rfl) rfl _ _ rfl G f _ rfl rfl hb ?_) | (with_reducible refine isStoreR 24 ?_; refine wpList_stR 24 rfl _ _ rfl (w.heap.size + 1) #[.int .u16 0, .string ⟨#[]⟩] #[.int .u16 0, .string ⟨#[]⟩] 24 (enL_info 0 ⟨#[]⟩) (enL_two 0 0 ⟨#[]⟩ ⟨#[]⟩) (enL_one 0 ⟨#[]⟩) rfl rfl hrs ?_))
      exact retCT Try.underlying24 rfl rfl (w.heap.size + 1) (enR 0 ⟨#[]⟩) 24 (by rw [enR_size]; exact sizeEn) rfl (setRow_heap _ _ _ _ _ _ hrs) rfl ⟨by rw [HO2.out.1, HO2.out.2]; rfl, below_setRow HB.out (by omega) _⟩
end Go.Proofs.Ytadiajcllfahiaa
