/- Several texts joined: the log, its cache and its disk, of the program and of the document; no condition. -/
import Derived.Test.YtichojdcoegboaaGreatK5
namespace Go.Proofs.YtichojdcoegboaaGreatW
open Go.RowKit
def CelsAt (w : World) (b off : Nat) (l : List Cel) : Prop := ∀ k c, l[k]? = some c → w.cell? ⟨b, off + k * 1025, none⟩ = some (.int .i64 c.1) ∧ BlkAt w b (off + k * 1025 + 1) c.2
def ImgAt (w : World) (p : Option Addr) (l : List Cel) : Prop := 0 < l.length → ∃ b off, p = some ⟨b, off, none⟩ ∧ b < w.heap.size ∧ CelsAt w b off l
theorem CelsAt.later {w W : World} {b off : Nat} {l : List Cel} (h : CelsAt w b off l) (hb : Below w.heap.size w W) (hlt : b < w.heap.size) : CelsAt W b off l := fun k c hc => by
 obtain ⟨h1, h2⟩ := h k c hc
 exact ⟨(hb.cell (p := ⟨b, off + k * 1025, none⟩) hlt).trans h1, fun j v hv => (hb.cell (p := ⟨b, off + k * 1025 + 1 + j, none⟩) hlt).trans (h2 j v hv)⟩
def risesB (n : Int) : Int → List Cel → Bool
 | _, [] => true
 | a, c :: t => !decide (c.1 ≤ a) && !decide (c.1 ≥ n) && !blankB c.2 && risesB n c.1 t
def mayB (n : Int) (l : List Cel) : Bool := bndB n && risesB n (-1) l
theorem wpList_loadMw {ops : Array Oper} {rest : List Oper} {o : Oper} {a : Act} {w : World} {Q : Exit → Act → World → Prop} (hw : Region.wanted o (yielded ops a.tmps) = true) (x : Operand) (ho : o.op = .load 64 x)
  (g off : Nat) (hx : a.eval x = .pointer (some ⟨g, off, none⟩)) (f : Nat → Int) (hg : BlkAt w g off f)
  (h : wpList Tryz.prog ops Q rest (a.put o.dst (.agg (blk f))) w) : wpList Tryz.prog ops Q (o :: rest) a w :=
 BigFrame.wpList_want hw fun _ hK => by
  unfold Oper.wp execOp
  simp only [ho, hx, loadM hg, Sem.run_bind, Result.andThen_ok, Sem.run_pure]
  exact hK _ _ h
set_option maxRecDepth 20000 in
set_option maxHeartbeats 2000000 in
theorem may_any (n : Int) (l : List Cel) (p : Option Addr) (cap : Nat) (w : World) (hl : l.length < 9223372036854775807) (h : ImgAt w p l) :
  Calls Tryz.prog 31 #[.agg #[.int .i64 n, .slice p l.length cap]] w fun e w' => e = .returned (.bool (mayB n l)) ∧ Below w.heap.size w w' := by
 have hB := below_new w (.cells #[.int .i64 n, .slice p l.length cap] 24)
 have hG := heap_alloc_new w (.cells #[.int .i64 n, .slice p l.length cap] 24)
 have HI : Hid (ImgAt w p l) := h
 have hbd := built58
 clear h
 cases hb : bndB n
 ·go_enter Tryz.func31, Tryz.ntmps31
  go_wp2_with (go_at_call 68; refine (bounded_any n _).mono ?_; rw [hb]; rintro e W ⟨rfl, rfl⟩)
  go_ret
  exact ⟨by unfold mayB; rw [hb]; rfl, hB⟩
 ·have HR : Hid (mayB n l = risesB n (-1) (l.drop 0)) := by unfold mayB; rw [hb]; rfl
  generalize mayB n l = res at *
  generalize hW : w.alloc (.cells #[.int .i64 n, .slice p l.length cap] 24) = W0 at *
  have i0 : W0.cell? ⟨w.heap.size, 0, none⟩ = some (.int .i64 n) := Joins.cell_of_block hG 0
  have i1 : W0.cell? ⟨w.heap.size, 1, none⟩ = some (.slice p l.length cap) := Joins.cell_of_block hG 1
  go_enter Tryz.func31, Tryz.ntmps31
  go_wp2_with (go_at_call 68; refine (bounded_any n _).mono ?_; rw [hb]; rintro e W ⟨rfl, rfl⟩)
  obtain ⟨N, hbd', eN⟩ : ∃ N, (∀ u : World, (Instr.build 64 #[]).run Tryz.prog u = .ok (.agg (blk N)) u) ∧ N = nought := ⟨nought, built58, rfl⟩
  have HN : Hid (N = nought) := eN
  clear eN hbd
  go_loopw [3, 13] (fun s3 s13 wx => ∃ (k : Nat) (x : Int), k ≤ l.length ∧ s3 = .int .i64 x ∧ s13 = .int .i64 k ∧ wx = W ∧ Hid (res = risesB n x (l.drop k))) (fun s3 s13 _ => l.length - (intOf s13).toNat)
  case atStart => exact ⟨0, -1, by omega, rfl, rfl, rfl, HR.out⟩
  case round =>
   obtain ⟨k, x, hk, rfl, rfl, rfl, HR2⟩ := hrel
   clear HR
   by_cases hk2 : (k : Int) < l.length
   ·have hc : l[k]? = some l[k] := List.getElem?_eq_getElem (by omega)
    obtain ⟨b, off, rfl, hlt, hC⟩ := HI.out (by omega)
    have hd : l.drop k = l[k] :: l.drop (k + 1) := List.drop_eq_getElem_cons (by omega)
    generalize l[k] = c at hc hd
    obtain ⟨q1, q2⟩ := (hC.later hB hlt) k c hc
    obtain ⟨y, f⟩ := c
    have hR := HR2.out
    rw [hd] at hR
    unfold risesB at hR
    simp only at hR q1 q2
    clear hd hc HR2 hC
    by_cases h1 : y ≤ x
    ·have hr0 : res = false := by rw [hR]; simp [h1]
     clear hR
     subst hr0
     go_wp2
     go_ret
     exact ⟨rfl, hB⟩
    ·by_cases h2 : y ≥ n
     ·have hr0 : res = false := by rw [hR]; simp [h2]
      clear hR
      subst hr0
      go_wp2
      go_ret
      exact ⟨rfl, hB⟩
     ·cases h3 : blankB f
      ·have HR3 : Hid (res = risesB n y (l.drop (k + 1))) := by
        have e : res = risesB n y (l.drop (k + 1)) := by rw [hR, h3]; simp [h1, h2]
        exact e
       have h3' : sameB f N = false := by rw [HN.out]; exact h3
       clear hR
       go_wp2_with (first | refine wpList_loadMw rfl (.tmp 36) rfl b (off + k * 1025 + 1) rfl f q2 ?_ | refine wpList_build58w rfl rfl hbd' ?_ | refine wpList_eq58 rfl (.tmp 37) (.tmp 38) rfl f N false rfl rfl h3' ?_)
       exact ⟨⟨k + 1, y, by omega, rfl, by go_num, by trivial, HR3.out⟩, by simp [intOf]; omega⟩
      ·have hr0 : res = false := by rw [hR, h3]; simp
       clear hR
       have h3' : sameB f N = true := by rw [HN.out]; exact h3
       subst hr0
       go_wp2_with (first | refine wpList_loadMw rfl (.tmp 36) rfl b (off + k * 1025 + 1) rfl f q2 ?_ | refine wpList_build58w rfl rfl hbd' ?_ | refine wpList_eq58 rfl (.tmp 37) (.tmp 38) rfl f N true rfl rfl h3' ?_)
       go_ret
       exact ⟨rfl, hB⟩
   ·obtain rfl : k = l.length := by omega
    have hr0 : res = true := by rw [HR2.out, List.drop_length]; rfl
    subst hr0
    go_wp2
    go_ret
    exact ⟨rfl, hB⟩
def loadV (n : Int) (l : List Cel) : St := holdAll (newV n) l
theorem rises_bounds {n : Int} : ∀ (l : List Cel) (a : Int), -1 ≤ a → risesB n a l = true → ∀ c ∈ l, 0 ≤ c.1 ∧ c.1 < n ∧ blankB c.2 = false
 | [], _, _, _, c, hc => by simp at hc
 | x :: t, a, ha, h, c, hc => by
  unfold risesB at h
  simp at h
  obtain ⟨⟨⟨h1, h2⟩, h3⟩, h4⟩ := h
  rcases List.mem_cons.1 hc with rfl | hc
  ·exact ⟨by omega, by omega, h3⟩
  ·exact rises_bounds t x.1 (by omega) h4 c hc
theorem may_bounds {n : Int} {l : List Cel} (h : mayB n l = true) : bndB n = true ∧ ∀ c ∈ l, 0 ≤ c.1 ∧ c.1 < n ∧ blankB c.2 = false := by
 unfold mayB at h
 simp at h
 exact ⟨h.1, rises_bounds l (-1) (by omega) h.2⟩
theorem ImgAt.later {w W : World} {p : Option Addr} {l : List Cel} (h : ImgAt w p l) (hb : Below w.heap.size w W) : ImgAt W p l := fun h0 => by
 obtain ⟨b, off, h1, h2, h3⟩ := h h0
 exact ⟨b, off, h1, Nat.lt_of_lt_of_le h2 hb.size, h3.later hb h2⟩
set_option maxRecDepth 20000 in
theorem load_bad (n : Int) (l : List Cel) (p : Option Addr) (cap : Nat) (w : World) (hl : l.length < 9223372036854775807) (h : ImgAt w p l) (hm : mayB n l = false) :
  Calls Tryz.prog 7 #[.agg #[.int .i64 n, .slice p l.length cap]] w fun e w' => e = .returned (.tuple #[.pointer none, .int .i64 4]) ∧ Below w.heap.size w w' := by
 have hB := below_new w (.cells #[.int .i64 n, .slice p l.length cap] 24)
 have hM := may_any n l p cap _ hl (h.later hB)
 rw [hm] at hM
 go_enter Tryz.func7, Tryz.ntmps7
 go_wp2_with (go_at_call 31; refine hM.mono ?_; rintro e W1 ⟨rfl, hb1⟩)
 go_ret2
 exact ⟨rfl, below_next hB hb1⟩
set_option maxRecDepth 20000 in
set_option maxHeartbeats 2000000 in
theorem load_ok (n : Int) (l : List Cel) (p : Option Addr) (cap : Nat) (w : World) (hl : l.length < 9223372036854775807) (h : ImgAt w p l) (hcan : ∀ c ∈ l, Can c.2) (hm : mayB n l = true) :
  Calls Tryz.prog 7 #[.agg #[.int .i64 n, .slice p l.length cap]] w fun e w' => ∃ L : Loc, e = .returned (.tuple #[.pointer (some ⟨L.d, 0, none⟩), .int .i64 0]) ∧ DiskAt w' L (loadV n l) ∧ L.from w.heap.size ∧ Below w.heap.size w w' := by
 have hB := below_new w (.cells #[.int .i64 n, .slice p l.length cap] 24)
 have hG := heap_alloc_new w (.cells #[.int .i64 n, .slice p l.length cap] 24)
 have hM := may_any n l p cap _ hl (h.later hB)
 rw [hm] at hM
 have HI : Hid (ImgAt w p l) := h
 have HC : Hid (∀ c ∈ l, Can c.2) := hcan
 obtain ⟨hbn, hbs⟩ := may_bounds hm
 have HBs : Hid (∀ c ∈ l, 0 ≤ c.1 ∧ c.1 < n ∧ blankB c.2 = false) := hbs
 clear h hcan hm hbs
 go_enter Tryz.func7, Tryz.ntmps7
 go_wp2_with (go_at_call 31; fail)
 refine hM.mono ?_
 rintro e W1 ⟨rfl, hb1⟩
 have hG1 := heap_kept hG hb1
 have hB1 := below_next hB hb1
 have i0 : W1.cell? ⟨w.heap.size, 0, none⟩ = some (.int .i64 n) := Joins.cell_of_block hG1 0
 clear hM hG hB hb1
 go_wp2_with (go_at_call 16; fail)
 refine (new_ok hbn W1).mono ?_
 rintro e W2 ⟨L, rfl, hD2, hL2, hb2⟩
 have hG2 := heap_kept hG1 hb2
 have HB2 : Hid (Below w.heap.size w W2) := below_next hB1 hb2
 have i1 : W2.cell? ⟨w.heap.size, 1, none⟩ = some (.slice p l.length cap) := Joins.cell_of_block hG2 1
 have HD2 : Hid (DiskAt W2 L (newV n)) := hD2
 have HL2 : Hid (L.from w.heap.size ∧ ¬ L.has w.heap.size) := by
  have hs := hB1.size
  have hlt : w.heap.size < W1.heap.size := (Array.getElem?_eq_some_iff.1 hG1).1
  exact ⟨fun k hk => by have := hL2 k hk; omega, fun q => by have := hL2 _ q; omega⟩
 have HG2 : Hid (W2.heap[w.heap.size]? = some (.cells #[.int .i64 n, .slice p l.length cap] 24)) := hG2
 clear hD2 hL2 hb2 hB1 hG1 i0 hG2
 go_wp2
 go_loopw [19] (fun s19 wx => ∃ k : Nat, k ≤ l.length ∧ s19 = .int .i64 k ∧ Hid (DiskAt wx L (holdAll (newV n) (l.take k))) ∧ Hid (Below w.heap.size w wx) ∧ Hid (wx.heap[w.heap.size]? = some (.cells #[.int .i64 n, .slice p l.length cap] 24))) (fun s19 _ => l.length - (intOf s19).toNat)
 case atStart => exact ⟨0, by omega, rfl, HD2.out, HB2.out, HG2.out⟩
 case round =>
  obtain ⟨k, hk, rfl, HD, HB, HG⟩ := hrel
  clear HD2 HB2 HG2 i1
  by_cases hk2 : (k : Int) < l.length
  ·have hc : l[k]? = some l[k] := List.getElem?_eq_getElem (by omega)
   obtain ⟨b, off, rfl, hlt, hC⟩ := HI.out (by omega)
   generalize l[k] = c at hc
   have hmem := List.mem_of_getElem? hc
   obtain ⟨q1, _⟩ := (hC.later HB.out hlt) k c hc
   have hbd : Below w.heap.size w wr.drew := HB.out.drew
   obtain ⟨_, q2⟩ := (hC.later hbd hlt) k c hc
   have HDd : DiskAt wr.drew L (holdAll (newV n) (l.take k)) := HD.out.fr (Fr.drew (T := fun _ => False) wr) fun _ _ q => q
   obtain ⟨y1, y2, _⟩ := HBs.out c hmem
   have hH := hold_of HDd (k := c.1) (by rw [holdAll_n]; exact ⟨y1, y2⟩) (HC.out c hmem) q2
   rw [← holdAll_snoc, ← take_snoc hc] at hH
   have HH : Hid (Calls Tryz.prog 32 #[.pointer (some ⟨L.d, 0, none⟩), .int .i64 c.1, .pointer (some ⟨b, off + k * 1025 + 1, none⟩)] wr.drew fun e w' => e = .returned (.tuple #[]) ∧ DiskAt w' L (holdAll (newV n) (l.take (k + 1))) ∧ Below w.heap.size w w' ∧ w'.heap[w.heap.size]? = some (.cells #[.int .i64 n, .slice (some ⟨b, off, none⟩) l.length cap] 24)) :=
    hH.mono fun e w' ⟨h1, h2, h3⟩ => ⟨h1, h2, hbd.trans ((h3.mono fun i _ q => (.inr (.inl q) : L.has i)).below HL2.out.1 hbd.size), (h3.block _ (Array.getElem?_eq_some_iff.1 HG.out).1 fun q => HL2.out.2 (.inr (.inl q))).trans HG.out⟩
   have i1 : wr.cell? ⟨w.heap.size, 1, none⟩ = some (.slice (some ⟨b, off, none⟩) l.length cap) := Joins.cell_of_block HG.out 1
   clear hH q2 HDd hbd hC hmem hc HD HB HG
   go_wp2
   go_still_tail 12, (by kernel_rfl)
   change wpList _ _ _ _ _ (World.drew _)
   go_wp2_with (go_at_call 32; fail)
   refine HH.out.mono ?_
   rintro e W3 ⟨rfl, hD3, hB3, hG3⟩
   have HD3 : Hid (DiskAt W3 L (holdAll (newV n) (l.take (k + 1)))) := hD3
   have HB3 : Hid (Below w.heap.size w W3) := hB3
   have HG3 : Hid (W3.heap[w.heap.size]? = some (.cells #[.int .i64 n, .slice (some ⟨b, off, none⟩) l.length cap] 24)) := hG3
   clear hD3 hB3 hG3 HH i1
   go_wp2
   exact ⟨⟨k + 1, by omega, by go_num, HD3.out, HB3.out, HG3.out⟩, by simp [intOf]; omega⟩
  ·obtain rfl : k = l.length := by omega
   have hD := HD.out
   rw [List.take_length] at hD
   have HD3 : Hid (DiskAt wr L (loadV n l)) := hD
   clear hD HD HG
   go_wp2
   go_ret2
   exact ⟨L, rfl, HD3.out, HL2.out.1, HB.out⟩
end Go.Proofs.YtichojdcoegboaaGreatW
namespace Go.Proofs.YtichojdcoegboaaGreatW
open Go.RowKit Go.Maps
theorem eq25d (d : Nat) (f g : Nat → Int) (w : World) : (Op.equalIn (d + 1 + 1) 64 (.agg (blk f)) (.agg (blk g))).run Tryz.prog w = .ok (sameB f g) w := by
 have key := each25 d f g w (List.range' 0 [:1024].size) (fun i hi => by simpa [Std.Legacy.Range.size] using hi)
 rw [Op.equalIn]
 simp only [Sem.run_bind, run_underlying Tryz.underlying64, Result.andThen_ok]
 rw [show (sizeOf 5).run Tryz.prog w = .ok 1 w by simp [go_sem]]
 simp only [Result.andThen_ok, Std.Legacy.Range.forIn_eq_forIn_range']
 refine (congrArg (fun r => Result.andThen r _) key).trans ?_
 have hr : List.range' 0 [:1024].size = List.range 1024 := by simp [Std.Legacy.Range.size, List.range_eq_range']
 rw [hr]
 show Result.andThen (Result.ok ((if sameB f g = true then none else some false), ()) w) _ = _
 cases sameB f g <;> simp
theorem part_idx (c : Cel) (w : World) : (part 3 (celRow c).toArray 0).run Tryz.prog w = .ok (.int .i64 c.1) w := by
 simp [part, Tryz.isAgg3, celRow]
theorem part_blk (c : Cel) (w : World) : (part 64 (celRow c).toArray 1).run Tryz.prog w = .ok (.agg (blk c.2)) w := by
 have hs := blk_size c.2
 have hc := cel_size c
 have he : (celRow c).toArray.extract 1 (1 + 1024) = blk c.2 := by
  apply Array.toList_inj.1
  have ht : (blk c.2).toList.take 1024 = (blk c.2).toList := List.take_of_length_le (by rw [Array.length_toList, hs]; omega)
  simp [celRow, ht]
 generalize hR : (celRow c).toArray = R at *
 simp [part, Tryz.isAgg64, Tryz.sizeOf64, hc, he]
theorem fields85 : (Tryz.prog.fieldsOf 76).toList.map (fun f => (f.name, f.type, f.offset)) = [("Index", 3, 0), ("Data", 64, 1)] := by kernel_rfl
theorem under85 : Tryz.prog.underlying 76 = some (.struct (Tryz.prog.fieldsOf 76)) := by
 unfold Program.fieldsOf
 rw [Tryz.underlying76]
theorem held85 : Tryz.prog.stoodInHeld 76 = false := by kernel_rfl
def celB (a b : Cel) : Bool := (a.1 == b.1) && sameB a.2 b.2
theorem eq_cel (d : Nat) (a b : Cel) (w : World) : (Op.equalIn (d + 1 + 1 + 1) 76 (.agg (celRow a).toArray) (.agg (celRow b).toArray)).run Tryz.prog w = .ok (celB a b) w := by
 rw [run_equalIn_struct w (d + 1 + 1) 76 _ _ under85 held85]
 have hf := fields85
 generalize (Tryz.prog.fieldsOf 76).toList = fs at hf
 obtain ⟨f1, f2, rfl⟩ : ∃ f1 f2, fs = [f1, f2] := by
  have hl : fs.length = 2 := by have := congrArg List.length hf; simpa using this
  rcases fs with _ | ⟨f1, _ | ⟨f2, _ | ⟨f3, t⟩⟩⟩
  ·simp at hl
  ·simp at hl
  ·exact ⟨f1, f2, rfl⟩
  ·simp at hl
 ·simp only [List.map_cons, List.map_nil, List.cons.injEq, Prod.mk.injEq] at hf
  obtain ⟨⟨n1, t1, o1⟩, ⟨n2, t2, o2⟩, _⟩ := hf
  have e1 := part_idx a
  have e2 := part_idx b
  have e3 := part_blk a
  have e4 := part_blk b
  have e5 := eq25d d a.2 b.2
  generalize (celRow a).toArray = A at *
  generalize (celRow b).toArray = B at *
  generalize blk a.2 = F at *
  generalize blk b.2 = G at *
  unfold celB
  cases hx : (a.1 == b.1)
  ·simp [Op.eqFields, n1, t1, o1, e1, e2, run_equalIn_int _ _ _ _ _ _ _ Tryz.underlying3, hx]
  ·cases hy : sameB a.2 b.2
   ·rw [hy] at e5
    simp [Op.eqFields, n1, t1, o1, n2, t2, o2, e1, e2, e3, e4, e5, run_equalIn_int _ _ _ _ _ _ _ Tryz.underlying3, hx]
   ·rw [hy] at e5
    simp [Op.eqFields, n1, t1, o1, n2, t2, o2, e1, e2, e3, e4, e5, run_equalIn_int _ _ _ _ _ _ _ Tryz.underlying3, hx]
def CelAt (w : World) (g off : Nat) (c : Cel) : Prop := w.cell? ⟨g, off, none⟩ = some (.int .i64 c.1) ∧ BlkAt w g (off + 1) c.2
theorem CelAt.range {w : World} {g off : Nat} {c : Cel} (h : CelAt w g off c) : w.rangeAt g off (celRow c) := fun j v hv => by
 cases j with
 | zero =>
  have e : Value.int .i64 c.1 = v := by simpa [celRow] using hv
  rw [← e]
  exact h.1
 | succ j =>
  have hv' : (blk c.2).toList[j]? = some v := by simpa [celRow] using hv
  have := h.2 j v hv'
  rwa [show off + 1 + j = off + (j + 1) by omega] at this
theorem load85 {w : World} {g off : Nat} {c : Cel} (h : CelAt w g off c) : (Instr.loadAt 76 (.pointer (some ⟨g, off, none⟩))).run Tryz.prog w = .ok (.agg (celRow c).toArray) w :=
 run_loadAt_mid (P := Tryz.prog) w g off 76 (celRow c) _ h.range Tryz.underlying76 rfl (by rw [celRow_len]; exact size85)
theorem neqg85 (x y : Operand) (F G : Array Value) (u : World) : (eqGuard .neq 76 x y (.agg F) (.agg G)).run Tryz.prog u = .ok () u := by
 unfold eqGuard
 simp
theorem neq85 (a b : Cel) (r : Bool) (hr : celB a b = r) (u : World) : (binOp .neq 76 (.agg (celRow a).toArray) (.agg (celRow b).toArray)).run Tryz.prog u = .ok (.bool (!r)) u := by
 have h := eq_cel 9997 a b u
 rw [hr] at h
 generalize (celRow a).toArray = F at *
 generalize (celRow b).toArray = G at *
 have h' : (Op.equalIn 10000 76 (.agg F) (.agg G)).run Tryz.prog u = .ok r u := h
 simp only [binOp, Op.equal, Op.maxDepth, Sem.run_bind, h', Result.andThen_ok, Sem.run_pure]
theorem wpStill_load85 {ops : Array Oper} {Q : Act → Prop} {a : Act} {o : Oper} {rest : List Oper} {w : World} (hw : Region.wanted o (yielded ops a.tmps) = true) (x : Operand) (ho : o.op = .load 76 x)
  (g off : Nat) (hx : a.eval x = .pointer (some ⟨g, off, none⟩)) (c : Cel) (hg : CelAt w g off c)
  (h : wpStill Tryz.prog ops w Q rest (a.put o.dst (.agg (celRow c).toArray))) : wpStill Tryz.prog ops w Q (o :: rest) a := by
 unfold wpStill
 rw [if_pos hw]
 unfold Oper.still execOp
 simp only [ho, hx, load85 hg, Sem.run_bind, Result.andThen_ok, Sem.run_pure, Oper.stillUpon]
 exact ⟨trivial, h⟩
theorem wpStill_neq85 {ops : Array Oper} {Q : Act → Prop} {a : Act} {o : Oper} {rest : List Oper} {w : World} (hw : Region.wanted o (yielded ops a.tmps) = true) (x y : Operand) (ho : o.op = .binOp .neq 76 x y 76)
  (c d : Cel) (r : Bool) (hx : a.eval x = .agg (celRow c).toArray) (hy : a.eval y = .agg (celRow d).toArray) (hr : celB c d = r)
  (h : wpStill Tryz.prog ops w Q rest (a.put o.dst (.bool (!r)))) : wpStill Tryz.prog ops w Q (o :: rest) a := by
 have e := neq85 c d r hr w
 unfold wpStill
 rw [if_pos hw]
 unfold Oper.still execOp
 simp only [ho, hx, hy, Sem.run_bind, neqg85, e, Result.andThen_ok, Sem.run_pure, Oper.stillUpon]
 exact ⟨trivial, h⟩
def celsB : List Cel → List Cel → Bool
 | [], [] => true
 | a :: s, b :: t => celB a b && celsB s t
 | _, _ => false
theorem celsB_len : ∀ {s t : List Cel}, celsB s t = true → s.length = t.length
 | [], [], _ => rfl
 | a :: s, b :: t, h => by
  unfold celsB at h
  simp at h
  simp [celsB_len h.2]
 | [], _ :: _, h => by simp [celsB] at h
 | _ :: _, [], h => by simp [celsB] at h
theorem celB_iff {a b : Cel} (ha : Can a.2) (hb : Can b.2) : celB a b = true ↔ a = b := by
 unfold celB
 simp only [Bool.and_eq_true, beq_iff_eq, ha.same hb]
 constructor
 ·rintro ⟨h1, h2⟩
  exact Prod.ext h1 h2
 ·rintro rfl
  exact ⟨rfl, rfl⟩
theorem celsB_iff : ∀ {s t : List Cel}, (∀ c ∈ s, Can c.2) → (∀ c ∈ t, Can c.2) → (celsB s t = true ↔ s = t)
 | [], [], _, _ => by simp [celsB]
 | a :: s, b :: t, hs, ht => by
  have ih := celsB_iff (s := s) (t := t) (fun c hc => hs c (List.mem_cons_of_mem _ hc)) (fun c hc => ht c (List.mem_cons_of_mem _ hc))
  unfold celsB
  simp only [Bool.and_eq_true, celB_iff (hs a (by simp)) (ht b (by simp)), ih, List.cons.injEq]
 | [], _ :: _, _, _ => by simp [celsB]
 | _ :: _, [], _, _ => by simp [celsB]
end Go.Proofs.YtichojdcoegboaaGreatW
