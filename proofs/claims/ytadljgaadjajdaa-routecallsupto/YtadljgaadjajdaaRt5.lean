/- Join and Special, by the program and by the document; what names are plain; strokes; the joined text has fewer than 2 to the 47th bytes. -/
import Derived.Test.YtadljgaadjajdaaRt4
namespace Go.Proofs.Ytadljgaadjajdaa
open Go.RowKit Go.Maps
/-- Names as lists of bytes; what Join answers. -/
def bls (l : List ByteArray) : List (List UInt8) := l.map bl
def jnT (l : List ByteArray) : ByteArray := mkT (joinP (bls l))
theorem bls_len (l : List ByteArray) : (bls l).length = l.length := by simp [bls]
theorem bls_mk (L : List (List UInt8)) : bls (L.map mkT) = L := by unfold bls; rw [List.map_map]; exact List.map_id L
theorem mk_bls (l : List ByteArray) : (bls l).map mkT = l := by unfold bls; rw [List.map_map]; exact List.map_id l
theorem bls_take (l : List ByteArray) (i : Nat) (h : i < l.length) : bls (l.take (i + 1)) = bls (l.take i) ++ [bl l[i]] := by
  unfold bls
  rw [List.map_take, List.map_take, List.take_add_one, List.getElem?_map, List.getElem?_eq_getElem h]
  rfl
theorem jl_take (l : List ByteArray) (i : Nat) (h : i < l.length) : jl (bls (l.take (i + 1))) = jl (bls (l.take i)) ++ (47 :: bl l[i]) := by rw [bls_take l i h, jl_snoc]
theorem jl_take_le (l : List ByteArray) (i : Nat) : (jl (bls (l.take i))).length ≤ (jl (bls l)).length := by
  have : bls l = bls (l.take i) ++ bls (l.drop i) := by
    unfold bls
    rw [← List.map_append, List.take_append_drop]
  rw [this]
  unfold jl
  rw [List.flatMap_append, List.length_append]
  omega
theorem jl_take_name (l : List ByteArray) (i : Nat) (h : i < l.length) : (jl (bls (l.take i))).length + 1 + l[i].size ≤ (jl (bls l)).length := by
  have h1 := jl_take_le l (i + 1)
  rw [jl_take l i h, List.length_append, List.length_cons, bl_len] at h1
  omega
theorem strC (s : ByteArray) : Lib.strCells s = Lib.byteCells (bl s) := rfl
theorem bc_push (a b : List UInt8) : Lib.byteCells a ++ [.int .u8 47] ++ Lib.byteCells b = Lib.byteCells (a ++ (47 :: b)) := by
  rw [Lib.byteCells_append, List.append_assoc]
  rfl
theorem join_is {l : List ByteArray} (h : 0 < l.length) : joinP (bls l) = jl (bls l) := by
  unfold joinP
  rw [if_neg]
  intro q
  have := bls_len l
  rw [q] at this
  simp at this
  omega
theorem join_nil {l : List ByteArray} (h : l.length = 0) : joinP (bls l) = [47] := by
  rw [List.length_eq_zero_iff.1 h]
  rfl
set_option maxRecDepth 20000 in
set_option maxHeartbeats 2000000 in
theorem join_any (l : List ByteArray) (p : Option Addr) (c : Nat) (w : World) (hl : l.length < 9223372036854775807) (h : TxAt w p l) (hb : (jl (bls l)).length ≤ 140737488355327) :
    Calls Try.prog 10 #[.slice p l.length c] w fun e w' => e = .returned (.string (jnT l)) ∧ Below w.heap.size w w' := by
  have HT : Hid (TxAt w p l) := h
  have HG : Hid (∀ i (q : i < l.length), (jl (bls (l.take i))).length + 1 + l[i].size ≤ (jl (bls l)).length) := fun i q => jl_take_name l i q
  have HJ : Hid (∀ i (q : i < l.length), jl (bls (l.take (i + 1))) = jl (bls (l.take i)) ++ (47 :: bl l[i])) := fun i q => jl_take l i q
  have HE : Hid (jl (bls (l.take l.length)) = jl (bls l)) := by show jl (bls (l.take l.length)) = jl (bls l); rw [List.take_length]
  have HI : Hid (0 < l.length → jnT l = ⟨(jl (bls l)).toArray⟩) := fun q => by show jnT l = _; unfold jnT; rw [join_is q]; rfl
  have HN : Hid (l.length = 0 → jnT l = ⟨([47] : List UInt8).toArray⟩ ∧ jl (bls l) = []) := fun q => ⟨by unfold jnT; rw [join_nil q]; rfl, by rw [List.length_eq_zero_iff.1 q]; rfl⟩
  have HF : Hid (IsBu w.heap.size w.heap.size (Lib.byteCells (jl (bls (l.take 0)))) (w.alloc (.cells #[.pointer none, .slice none 0 0] 45))) := Lib.fresh_isBuilder 45 5 w
  have HB0 : Hid _ := below_new w (.cells #[.pointer none, .slice none 0 0] 45)
  generalize hR : jnT l = R at *
  clear h hR
  obtain ⟨n, hn⟩ : ∃ n, l.length = n := ⟨_, rfl⟩
  have HLn : Hid (l.length = n) := hn
  rw [hn] at hl ⊢
  clear hn
  go_enter Try.func10, Try.ntmps10
  go_wp2
  generalize w.alloc (.cells #[.pointer none, .slice none 0 0] 45) = V at *
  go_loopw [8] (fun s8 wx => ∃ i : Nat, i ≤ n ∧ s8 = .int .i64 i ∧ Hid (Below w.heap.size w wx) ∧ Hid (IsBu w.heap.size w.heap.size (Lib.byteCells (jl (bls (l.take i)))) wx)) (fun s8 _ => n - (intOf s8).toNat)
  case atStart => exact ⟨0, by omega, rfl, HB0.out, HF.out⟩
  case round =>
    clear HF HB0
    obtain ⟨i, hi, rfl, HB, HU⟩ := hrel
    by_cases hi2 : (i : Int) < (n : Int)
    · have hil : i < l.length := by rw [HLn.out]; omega
      have hgi := HG.out i hil
      have HJi : Hid _ := HJ.out i hil
      have hx : l[i]? = some l[i] := List.getElem?_eq_getElem hil
      generalize l[i] = x at *
      obtain ⟨b, off, rfl, hbl, hcs⟩ := HT.out (by omega)
      have hc : wr.cell? ⟨b, off + i, none⟩ = some (.string x) := (HB.out.cell (p := ⟨b, off + i, none⟩) hbl).trans (hcs i x hx)
      have HU1 : Hid _ := fun (u : World) (hu : IsBu w.heap.size w.heap.size (Lib.byteCells (jl (bls (l.take i)))) u) (hB : w.heap.size ≤ u.heap.size) => writeByte_any w.heap.size w.heap.size (Lib.byteCells (jl (bls (l.take i)))) 47 u hu (by rw [Lib.byteCells_length]; omega) hB
      have HU2 : Hid _ := fun (u : World) (hu : IsBu w.heap.size w.heap.size (Lib.byteCells (jl (bls (l.take i))) ++ [.int .u8 47]) u) (hB : w.heap.size ≤ u.heap.size) => writeString_any w.heap.size w.heap.size (Lib.byteCells (jl (bls (l.take i))) ++ [.int .u8 47]) x u hu (by rw [List.length_append, Lib.byteCells_length, List.length_singleton]; omega) hB
      clear hcs hx hgi
      go_wp2_with (first | (go_at_call 25; fail))
      refine (HU1.out _ HU.out HB.out.size).mono ?_
      rintro e w1 ⟨rfl, h1, hb1⟩
      have HB1 : Hid _ := HB.out.trans hb1
      have HS1 : Hid _ := HB1.out.size
      clear hb1 HU1
      go_wp2_with (first | (go_at_call 26; fail))
      refine (HU2.out _ (.inr h1) HS1.out).mono ?_
      rintro e w2 ⟨rfl, h2, hb2⟩
      have HB2 : Hid _ := HB1.out.trans hb2
      have HU3 : Hid (IsBu w.heap.size w.heap.size (Lib.byteCells (jl (bls (l.take (i + 1))))) w2) := by
        have h9 : IsBu w.heap.size w.heap.size _ w2 := .inr h2
        rw [strC, bc_push, ← HJi.out] at h9
        exact h9
      clear hb2 h1 h2 HU2 HU HS1 HB HB1 HJi
      go_wp2
      exact ⟨⟨i + 1, by omega, by go_num, HB2.out, HU3.out⟩, by simp [intOf]; omega⟩
    · have e : i = l.length := by rw [HLn.out]; omega
      have hU := HU.out
      rw [e, HE.out] at hU
      by_cases h0 : n = 0
      · obtain ⟨e1, e2⟩ := HN.out (by rw [HLn.out]; exact h0)
        rw [e2] at hU
        subst h0
        have HU1 : Hid _ := writeByte_any w.heap.size w.heap.size (Lib.byteCells []) 47 wr hU (by simp [Lib.byteCells]) HB.out.size
        have HRe : Hid _ := e1
        clear hU HU HG HJ HE HI HN HT e1 e2 e
        go_wp2_with (first | (go_at_call 25; fail))
        refine Calls.mono HU1.out ?_
        rintro e w1 ⟨rfl, h1, hb1⟩
        have HB1 : Hid _ := HB.out.trans hb1
        have HU2 : Hid _ := buString_any w.heap.size w.heap.size [47] w1 (.inr h1) HB1.out.size
        clear hb1 h1 HU1 HB
        go_wp2_with (first | (go_at_call 27; fail))
        refine Calls.mono HU2.out ?_
        rintro e w2 ⟨rfl, hb2⟩
        have HB2 : Hid _ := HB1.out.trans hb2
        rw [← HRe.out]
        clear hb2 HU2 HB1
        go_wp2
        go_ret
        exact ⟨rfl, HB2.out⟩
      · have HRe : Hid _ := HI.out (by rw [HLn.out]; omega)
        have HU2 : Hid _ := buString_any w.heap.size w.heap.size _ wr hU HB.out.size
        have g0 : ((n : Int) == 0) = false := beq_eq_false_iff_ne.2 (by omega)
        have g1 : decide (n = 0) = false := decide_eq_false h0
        clear hU HU HG HJ HE HI HN HT e
        go_wp2_with (first | (go_at_call 27; fail))
        refine Calls.mono HU2.out ?_
        rintro e w2 ⟨rfl, hb2⟩
        have HB2 : Hid _ := HB.out.trans hb2
        rw [← HRe.out]
        clear hb2 HU2 HB
        go_wp2
        go_ret
        exact ⟨rfl, HB2.out⟩
theorem add_str (a b : ByteArray) (h : a.size + b.size ≤ 9223372036854775807) (u : World) : (Op.stringOp .add a b).run Try.prog u = .ok (.string (a ++ b)) u := run_string_add_sum (P := Try.prog) u a b h
set_option maxRecDepth 20000 in
set_option maxHeartbeats 2000000 in
theorem refJoin_any (l : List ByteArray) (p : Option Addr) (c : Nat) (w : World) (hl : l.length < 9223372036854775807) (h : TxAt w p l) (hb : (jl (bls l)).length ≤ 140737488355327) :
    Calls Try.prog 15 #[.slice p l.length c] w fun e w' => e = .returned (.string (jnT l)) ∧ w' = w := by
  have HT : Hid (TxAt w p l) := h
  have HG : Hid (∀ i (q : i < l.length), (jl (bls (l.take i))).length + 1 + l[i].size ≤ (jl (bls l)).length) := fun i q => jl_take_name l i q
  have HJ : Hid (∀ i (q : i < l.length), mkT (jl (bls (l.take i))) ++ ⟨#[47]⟩ ++ l[i] = mkT (jl (bls (l.take (i + 1))))) := fun i q => bl_ext (by rw [bl_app, bl_app, bl_mk, bl_mk, jl_take l i q, List.append_assoc]; rfl)
  have HE : Hid (mkT (jl (bls (l.take l.length))) = mkT (jl (bls l))) := by show mkT (jl (bls (l.take l.length))) = _; rw [List.take_length]
  have HI : Hid (0 < l.length → jnT l = mkT (jl (bls l)) ∧ 0 < (mkT (jl (bls l))).size) := fun q => ⟨by unfold jnT; rw [join_is q], by
    show 0 < (jl (bls l)).length
    have := len_jl (bls l)
    rw [bls_len] at this
    omega⟩
  have HN : Hid (l.length = 0 → jnT l = ⟨#[47]⟩ ∧ mkT (jl (bls l)) = ⟨#[]⟩) := fun q => ⟨by unfold jnT; rw [join_nil q]; rfl, by rw [List.length_eq_zero_iff.1 q]; rfl⟩
  generalize hR : jnT l = R at *
  clear h hR
  obtain ⟨n, hn⟩ : ∃ n, l.length = n := ⟨_, rfl⟩
  have HLn : Hid (l.length = n) := hn
  rw [hn] at hl ⊢
  clear hn
  go_enter Try.func15, Try.ntmps15
  go_wp2
  go_loopw [3, 4] (fun s3 s4 wx => wx = w ∧ ∃ (i : Nat) (s : ByteArray), i ≤ n ∧ s4 = .int .i64 i ∧ s3 = .string s ∧ Hid (s = mkT (jl (bls (l.take i))))) (fun _ s4 _ => n - (intOf s4).toNat)
  case atStart => exact ⟨rfl, 0, ⟨#[]⟩, by omega, rfl, rfl, rfl⟩
  case round =>
    obtain ⟨rfl, i, s, hi, rfl, rfl, HS⟩ := hrel
    by_cases hi2 : (i : Int) < (n : Int)
    · have hil : i < l.length := by rw [HLn.out]; omega
      have hgi := HG.out i hil
      have HJi : Hid _ := HJ.out i hil
      have hx : l[i]? = some l[i] := List.getElem?_eq_getElem hil
      generalize l[i] = x at *
      obtain ⟨b, off, rfl, hbl, hcs⟩ := HT.out (by omega)
      have hc : wr.cell? ⟨b, off + i, none⟩ = some (.string x) := hcs i x hx
      have hz : s.size = (jl (bls (l.take i))).length := by rw [HS.out]; rfl
      have a1 := add_str s ⟨#[47]⟩ (by have : (⟨#[47]⟩ : ByteArray).size = 1 := rfl; omega)
      have a2 := add_str (s ++ ⟨#[47]⟩) x (by have : (⟨#[47]⟩ : ByteArray).size = 1 := rfl; rw [ByteArray.size_append]; omega)
      have HS2 : Hid (s ++ ⟨#[47]⟩ ++ x = mkT (jl (bls (l.take (i + 1))))) := by rw [HS.out] ; exact HJi.out
      clear HS hz hgi hcs hx HJi
      generalize hy : s ++ ⟨#[47]⟩ = y at *
      generalize hz : y ++ x = z at *
      clear hy hz
      go_wp2
      exact ⟨⟨trivial, i + 1, z, by omega, by go_num, rfl, HS2.out⟩, by simp [intOf]; omega⟩
    · have e : i = l.length := by rw [HLn.out]; omega
      have hS := HS.out
      rw [e, HE.out] at hS
      clear HS
      by_cases h0 : n = 0
      · obtain ⟨e1, e2⟩ := HN.out (by rw [HLn.out]; exact h0)
        rw [e2] at hS
        subst hS
        subst e1
        clear HG HJ HE HI HN HT e e2
        go_wp2
        go_ret
        exact ⟨rfl, rfl⟩
      · obtain ⟨e1, e2⟩ := HI.out (by rw [HLn.out]; omega)
        rw [← hS] at e1 e2
        have h3 := nm_list (s := s) e2
        subst e1
        clear HG HJ HE HI HN HT e e2 hS
        go_wp2
        go_ret
        exact ⟨rfl, rfl⟩
/-- What Special answers. -/
theorem tl_bl (s : ByteArray) : s.toList = bl s := by rw [ByteArray.toList_eq]; rfl
def isDot (s : ByteArray) : Bool := bl s == [46] || bl s == [46, 46]
def spV (l : List ByteArray) : Bool := match l.getLast? with
  | none => true
  | some s => isDot s
theorem spV_last {l : List ByteArray} {x : ByteArray} {n : Nat} (hn : l.length = n) (hx : l[n - 1]? = some x) : spV l = isDot x := by
  unfold spV
  rw [List.getLast?_eq_getElem?, hn, hx]
set_option maxRecDepth 20000 in
set_option maxHeartbeats 1000000 in
theorem special_any (l : List ByteArray) (p : Option Addr) (c : Nat) (w : World) (hl : l.length < 9223372036854775807) (h : TxAt w p l) :
    Calls Try.prog 11 #[.slice p l.length c] w fun e w' => e = .returned (.bool (spV l)) ∧ w' = w := by
  by_cases h0 : l.length = 0
  · have e : spV l = true := by rw [List.length_eq_zero_iff.1 h0]; rfl
    rw [e, h0]
    clear h
    go_enter Try.func11, Try.ntmps11
    go_wp2
    go_ret
    exact ⟨rfl, rfl⟩
  · obtain ⟨n, hn⟩ : ∃ n, l.length = n := ⟨_, rfl⟩
    have hx : l[n - 1]? = some l[n - 1] := List.getElem?_eq_getElem (by omega)
    have hs := spV_last hn hx
    generalize l[n - 1] = x at *
    obtain ⟨b, off, rfl, hbl, hcs⟩ := h (by omega)
    have hc : w.cell? ⟨b, off + (n - 1), none⟩ = some (.string x) := hcs _ x hx
    rw [hs, hn]
    rw [hn] at h0 hl
    have g0 : ((n : Int) == 0) = false := beq_eq_false_iff_ne.2 (by omega)
    have g00 : decide (n = 0) = false := decide_eq_false h0
    have hw : IntKind.i64.wrap ((n : Int) - 1) = ((n - 1 : Nat) : Int) := by rw [IntKind.wrap_i64]; omega
    clear hcs hx hs h hbl hn
    by_cases d1 : x.toList = [46]
    · have e : isDot x = true := by unfold isDot; rw [← tl_bl]; simp [d1]
      rw [e]
      clear e
      go_enter Try.func11, Try.ntmps11
      go_wp2
      go_ret
      exact ⟨rfl, rfl⟩
    · have f1 : (x.toList == [46]) = false := beq_eq_false_iff_ne.2 d1
      have f2 : decide (x.toList = [46]) = false := decide_eq_false d1
      by_cases d2 : x.toList = [46, 46]
      · have e : isDot x = true := by unfold isDot; rw [← tl_bl]; simp [d2]
        rw [e]
        clear e
        go_enter Try.func11, Try.ntmps11
        go_wp2
        go_ret
        exact ⟨rfl, rfl⟩
      · have f3 : (x.toList == [46, 46]) = false := beq_eq_false_iff_ne.2 d2
        have f4 : decide (x.toList = [46, 46]) = false := decide_eq_false d2
        have e : isDot x = false := by unfold isDot; rw [← tl_bl, f1, f3]; rfl
        rw [e]
        clear e
        go_enter Try.func11, Try.ntmps11
        go_wp2
        go_ret
        exact ⟨rfl, rfl⟩
set_option maxRecDepth 20000 in
set_option maxHeartbeats 1000000 in
theorem refSpecial_any (l : List ByteArray) (p : Option Addr) (c : Nat) (w : World) (hl : l.length < 9223372036854775807) (h : TxAt w p l) :
    Calls Try.prog 16 #[.slice p l.length c] w fun e w' => e = .returned (.bool (spV l)) ∧ w' = w := by
  by_cases h0 : l.length = 0
  · have e : spV l = true := by rw [List.length_eq_zero_iff.1 h0]; rfl
    rw [e, h0]
    clear h
    go_enter Try.func16, Try.ntmps16
    go_wp2
    go_ret
    exact ⟨rfl, rfl⟩
  · obtain ⟨n, hn⟩ : ∃ n, l.length = n := ⟨_, rfl⟩
    have hx : l[n - 1]? = some l[n - 1] := List.getElem?_eq_getElem (by omega)
    have hs := spV_last hn hx
    generalize l[n - 1] = x at *
    obtain ⟨b, off, rfl, hbl, hcs⟩ := h (by omega)
    have hc : w.cell? ⟨b, off + (n - 1), none⟩ = some (.string x) := hcs _ x hx
    rw [hs, hn]
    rw [hn] at h0 hl
    have g0 : ((n : Int) == 0) = false := beq_eq_false_iff_ne.2 (by omega)
    have g00 : decide (n = 0) = false := decide_eq_false h0
    have hw : IntKind.i64.wrap ((n : Int) - 1) = ((n - 1 : Nat) : Int) := by rw [IntKind.wrap_i64]; omega
    clear hcs hx hs h hbl hn
    by_cases d1 : x.toList = [46]
    · have e : isDot x = true := by unfold isDot; rw [← tl_bl]; simp [d1]
      rw [e]
      clear e
      go_enter Try.func16, Try.ntmps16
      go_wp2
      go_ret
      exact ⟨rfl, rfl⟩
    · have f1 : (x.toList == [46]) = false := beq_eq_false_iff_ne.2 d1
      have f2 : decide (x.toList = [46]) = false := decide_eq_false d1
      by_cases d2 : x.toList = [46, 46]
      · have e : isDot x = true := by unfold isDot; rw [← tl_bl]; simp [d2]
        rw [e]
        clear e
        go_enter Try.func16, Try.ntmps16
        go_wp2
        go_ret
        exact ⟨rfl, rfl⟩
      · have f3 : (x.toList == [46, 46]) = false := beq_eq_false_iff_ne.2 d2
        have f4 : decide (x.toList = [46, 46]) = false := decide_eq_false d2
        have e : isDot x = false := by unfold isDot; rw [← tl_bl, f1, f3]; rfl
        rw [e]
        clear e
        go_enter Try.func16, Try.ntmps16
        go_wp2
        go_ret
        exact ⟨rfl, rfl⟩
/-- May this be a name of a path? -/
def plV (s : ByteArray) : Bool := !oddB s s.size && decide (1 ≤ s.size) && decide (s.size ≤ 14)
set_option maxRecDepth 20000 in
set_option maxHeartbeats 1000000 in
theorem plain_any (s : ByteArray) (w : World) (hs : s.size ≤ 9223372036854775807) :
    Calls Try.prog 19 #[.string s] w fun e w' => e = .returned (.bool (plV s)) ∧ w' = w := by
  have HV : Hid (plV s = (!oddB s s.size && decide (1 ≤ s.size) && decide (s.size ≤ 14))) := rfl
  generalize plV s = R at *
  go_enter Try.func19, Try.ntmps19
  go_wp2
  go_loopw [3] (fun s3 wx => wx = w ∧ ∃ i : Nat, i ≤ s.size ∧ Hid (oddB s i = false) ∧ s3 = .int .i64 i) (fun s3 _ => s.size - (intOf s3).toNat)
  case atStart => exact ⟨rfl, 0, by omega, rfl, rfl⟩
  case round =>
    obtain ⟨rfl, i, hi, HO, rfl⟩ := hrel
    by_cases hi2 : (i : Int) < (s.size : Int)
    · have hr := idx_str s i (by omega)
      have HS : Hid _ := oddB_succ s i
      have HL : Hid (oddB s (i + 1) = true → oddB s s.size = true) := fun h => oddB_later h (by omega)
      generalize byt s i = q at *
      by_cases b0 : q = 0
      · subst b0
        have H4 : R = false := by rw [HV.out, HL.out (by rw [HS.out]; simp)]; rfl
        subst H4
        clear HS HL HV HO
        go_wp2
        go_ret
        exact ⟨rfl, rfl⟩
      by_cases b1 : q = 47
      · subst b1
        have H4 : R = false := by rw [HV.out, HL.out (by rw [HS.out]; simp)]; rfl
        subst H4
        clear HS HL HV HO
        go_wp2
        go_ret
        exact ⟨rfl, rfl⟩
      have g1 : ((q : Int) == 0) = false := beq_eq_false_iff_ne.2 b0
      have g2 : ((q : Int) == 47) = false := beq_eq_false_iff_ne.2 b1
      have HO2 : Hid (oddB s (i + 1) = false) := by show oddB s (i + 1) = false; rw [HS.out, HO.out, g1, g2]; rfl
      clear HS HL HO
      go_wp2
      exact ⟨⟨trivial, i + 1, by omega, HO2, by go_num⟩, by simp [intOf]; omega⟩
    · obtain rfl : i = s.size := by omega
      have hv : R = (decide (1 ≤ s.size) && decide (s.size ≤ 14)) := by rw [HV.out, HO.out]; rfl
      clear HV HO
      by_cases h1 : 1 ≤ s.size
      · have g1 : decide ((1 : Int) ≤ (s.size : Int)) = true := decide_eq_true (by omega)
        by_cases h14 : s.size ≤ 14
        · have g2 : decide ((s.size : Int) ≤ 14) = true := decide_eq_true (by omega)
          have hv2 : R = true := by rw [hv]; simp [h1, h14]
          subst hv2
          clear hv
          go_wp2
          go_ret
          exact ⟨rfl, rfl⟩
        · have g2 : decide ((s.size : Int) ≤ 14) = false := decide_eq_false (by omega)
          have hv2 : R = false := by rw [hv]; simp [h14]
          subst hv2
          clear hv
          go_wp2
          go_ret
          exact ⟨rfl, rfl⟩
      · have g1 : decide ((1 : Int) ≤ (s.size : Int)) = false := decide_eq_false (by omega)
        have hv2 : R = false := by rw [hv]; simp [h1]
        subst hv2
        clear hv
        go_wp2
        go_ret
        exact ⟨rfl, rfl⟩
set_option maxRecDepth 20000 in
set_option maxHeartbeats 1000000 in
theorem strokes_any (n : Nat) (hn : n ≤ 100000) (w : World) :
    Calls Try.prog 20 #[.int .i64 (n : Int)] w fun e w' => e = .returned (.string (mkT (List.replicate n 47))) ∧ w' = w := by
  go_enter Try.func20, Try.ntmps20
  go_wp2
  go_loopw [3, 4] (fun s3 s4 wx => wx = w ∧ ∃ (i : Nat) (s : ByteArray), i ≤ n ∧ s4 = .int .i64 i ∧ s3 = .string s ∧ Hid (s = mkT (List.replicate i 47))) (fun _ s4 _ => n - (intOf s4).toNat)
  case atStart => exact ⟨rfl, 0, ⟨#[]⟩, by omega, rfl, rfl, rfl⟩
  case round =>
    obtain ⟨rfl, i, s, hi, rfl, rfl, HS⟩ := hrel
    by_cases hi2 : (i : Int) < (n : Int)
    · have hz : s.size = i := by rw [HS.out]; show (List.replicate i (47 : UInt8)).length = i; rw [List.length_replicate]
      have a1 := add_str s ⟨#[47]⟩ (by have : (⟨#[47]⟩ : ByteArray).size = 1 := rfl; omega)
      have HS2 : Hid (s ++ ⟨#[47]⟩ = mkT (List.replicate (i + 1) 47)) := by rw [HS.out]; exact bl_ext (by rw [bl_app, bl_mk, bl_mk, List.replicate_succ']; rfl)
      clear HS hz
      generalize s ++ ⟨#[47]⟩ = y at *
      go_wp2
      exact ⟨⟨trivial, i + 1, y, by omega, by go_num, rfl, HS2.out⟩, by simp [intOf]; omega⟩
    · have e : i = n := by omega
      have HS2 : Hid (s = mkT (List.replicate n 47)) := by rw [← e]; exact HS.out
      have g1 : decide ((i : Int) < (n : Int)) = false := decide_eq_false hi2
      have g2 : decide (i < n) = false := decide_eq_false (by omega)
      clear HS e
      go_wp2
      go_ret
      exact ⟨by rw [HS2.out]; rfl, rfl⟩
end Go.Proofs.Ytadljgaadjajdaa
