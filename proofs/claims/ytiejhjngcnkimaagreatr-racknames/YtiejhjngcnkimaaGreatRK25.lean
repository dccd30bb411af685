/- Several texts joined, each with its own remark; no condition. -/
import Derived.Test.YtiejhjngcnkimaaGreatRK24
import Derived.Test.YtiejhjngcnkimaaGreatRK4
import Derived.Test.YtiejhjngcnkimaaGreatRK12
import Derived.Test.YtiejhjngcnkimaaGreatRK13
import Derived.Test.YtiejhjngcnkimaaGreatRK1
/- The example's image, held against what the program's disk asks of one. -/
namespace Go.Proofs.YtiejhjngcnkimaaGreatR
open Go.RowKit Go.Maps
theorem blkW (f : Nat → Int) : Go.Proofs.YtiejhjngcnkimaaGreatRW.blk f = blk f := by unfold Go.Proofs.YtiejhjngcnkimaaGreatRW.blk blk rowN; simp
theorem imgW {w : World} {p : Option Addr} {l : List Cel} (h : ImgAt w p l) : Go.Proofs.YtiejhjngcnkimaaGreatRW.ImgAt w p l := fun h0 => by
  obtain ⟨b, off, h1, h2, h3⟩ := h h0
  refine ⟨b, off, h1, h2, fun k c hc => ⟨(h3 k c hc).1, fun j v hv => ?_⟩⟩
  rw [blkW, Array.getElem?_toList] at hv
  have hj : j < 1024 := by have := (Array.getElem?_eq_some_iff.1 hv).1; rw [blk_size] at this; exact this
  rw [show blk c.2 = rowN .u8 c.2 1024 from rfl, rowN_get _ _ _ _ hj] at hv
  rw [(h3 k c hc).2 j hj]
  exact hv
theorem set_far {f : Nat → Int} {i j : Nat} (hi : i < 8192) (hj : 1024 ≤ j) : setP f i j = f j := by
  unfold setP
  split
  · rfl
  · unfold updN; rw [if_neg (by omega)]
theorem bits_far (want : Nat → Bool) {j : Nat} (hj : 1024 ≤ j) : ∀ k, k ≤ 8192 → bitsR nought want k j = 0
  | 0, _ => rfl
  | k + 1, hk => by
    unfold bitsR
    split
    · rw [set_far (by omega) hj]; exact bits_far want hj k (by omega)
    · exact bits_far want hj k (by omega)
theorem canE : ∀ c ∈ imE, Go.Proofs.YtiejhjngcnkimaaGreatRW.Can c.2 := fun c hc => by
  refine ⟨imE_byt c hc, fun j hj => ?_⟩
  unfold imE at hc
  simp only [List.mem_cons, List.not_mem_nil, or_false] at hc
  rcases hc with rfl | rfl | rfl | rfl
  · show supP y0 j = 0
    unfold supP
    rw [if_neg (by omega), if_neg (by omega)]
  · show N0 j = 0
    unfold N0 overN
    rw [if_neg (by omega)]
    rfl
  · show B0 j = 0
    unfold B0
    exact bits_far _ hj 400 (by omega)
  · show D0 j = 0
    unfold D0 dirP
    rw [if_neg (by omega)]
theorem blank_no {f : Nat → Int} (hf : Go.Proofs.YtiejhjngcnkimaaGreatRW.Can f) (j : Nat) (h : ¬ f j = 0) : Go.Proofs.YtiejhjngcnkimaaGreatRW.blankB f = false := by
  cases hs : Go.Proofs.YtiejhjngcnkimaaGreatRW.blankB f with
  | false => rfl
  | true => exact absurd (congrFun (hf.blank.1 hs) j) h
theorem mayW : Go.Proofs.YtiejhjngcnkimaaGreatRW.mayB 400 imE = true := by
  have h1 := blank_no (canE (0, supP y0) (by simp [imE])) 0 (by decide +kernel)
  have h2 := blank_no (canE (33, N0) (by simp [imE])) 64 (by decide +kernel)
  have h3 := blank_no (canE (37, B0) (by simp [imE])) 0 b0_zero
  have h4 := blank_no (canE (38, D0) (by simp [imE])) 0 (by decide +kernel)
  unfold Go.Proofs.YtiejhjngcnkimaaGreatRW.mayB imE
  simp only [Go.Proofs.YtiejhjngcnkimaaGreatRW.risesB]
  simp only [] at h1 h2 h3 h4
  rw [h1, h2, h3, h4]
  decide
end Go.Proofs.YtiejhjngcnkimaaGreatR
/- A log on a disk that holds the example's world: the kit's Begin. -/
namespace Go.Proofs.YtiejhjngcnkimaaGreatR
open Go.RowKit Go.Maps
theorem wpList_ldMid {ops : Array Oper} {rest : List Oper} {o : Oper} {a : Act} {w : World} {Q : Exit → Act → World → Prop} (t : TypeId) {d : TypeDesc} (hu : Tryz.prog.underlying t = some d) (hd : d.isRow = true) (hw : Region.wanted o (yielded ops a.tmps) = true) (x : Operand) (ho : o.op = .load t x) (b off : Nat) (cs : List Value) (R : Array Value) (hR : cs.toArray = R) (hsz : (Tryz.prog.info? t).map (·.size) = some cs.length) (hx : a.eval x = .pointer (some ⟨b, off, none⟩)) (hg : ∀ j u, cs[j]? = some u → w.cell? ⟨b, off + j, none⟩ = some u)
    (h : wpList Tryz.prog ops Q rest (a.put o.dst (.agg R)) w) : wpList Tryz.prog ops Q (o :: rest) a w := by
  subst hR
  have e : (Instr.loadAt t (.pointer (some ⟨b, off, none⟩))).run Tryz.prog w = .ok (.agg cs.toArray) w := run_loadAt_mid (P := Tryz.prog) w b off t cs _ (fun j v hv => hg j v hv) hu (by cases d <;> first | rfl | cases hd) hsz
  refine wpList_ex hw ?_ h
  unfold execOp
  simp only [ho, hx, e, Sem.run_bind, Result.andThen_ok, Sem.run_pure]
section
variable {w : World} {g : Nat} {b l i fr sp sd : Int} {v : Value}
theorem wd_geo (h : w.heap[g]? = some (.cells (wdRow b l i v fr sp sd) 31)) : ∀ j u, ([.int .i64 b, .int .i64 l, .int .i64 i] : List Value)[j]? = some u → w.cell? ⟨g, 0 + j, none⟩ = some u := fun j u hu => by
  rw [Joins.cell_of_block h]
  match j, hu with
  | 0, hu => exact hu
  | 1, hu => exact hu
  | 2, hu => exact hu
  | j + 3, hu => simp at hu
theorem wd_st (h : w.heap[g]? = some (.cells (wdRow b l i v fr sp sd) 31)) : ∀ j u, ([v, .int .i64 fr, .int .i64 sp] : List Value)[j]? = some u → w.cell? ⟨g, 3 + j, none⟩ = some u := fun j u hu => by
  rw [Joins.cell_of_block h]
  match j, hu with
  | 0, hu => exact hu
  | 1, hu => exact hu
  | 2, hu => exact hu
  | j + 3, hu => simp at hu
end
abbrev stE : Go.Proofs.YtiejhjngcnkimaaGreatRW.St := Go.Proofs.YtiejhjngcnkimaaGreatRW.loadV 400 imE
theorem stE_keep : stE.n = 400 ∧ stE.wait = [] ∧ stE.ops = [] ∧ stE.stopped = false ∧ stE.made = 0 ∧ stE.reads = 0 ∧ stE.claims = 0 := ⟨rfl, rfl, rfl, rfl, rfl, rfl, rfl⟩
theorem hold_ne (s : Go.Proofs.YtiejhjngcnkimaaGreatRW.St) (k : Int) (f : Nat → Int) (j : Int) (h : ¬ j = k) : (Go.Proofs.YtiejhjngcnkimaaGreatRW.holdV s k f).held j = s.held j := by unfold Go.Proofs.YtiejhjngcnkimaaGreatRW.holdV; simp only [if_neg h]
theorem curE : Go.Proofs.YtiejhjngcnkimaaGreatRW.curV stE 1 = nought := by
  show (stE.held 1).getD nought = nought
  have : stE.held 1 = none := by
    show (Go.Proofs.YtiejhjngcnkimaaGreatRW.holdV (Go.Proofs.YtiejhjngcnkimaaGreatRW.holdV (Go.Proofs.YtiejhjngcnkimaaGreatRW.holdV (Go.Proofs.YtiejhjngcnkimaaGreatRW.holdV (Go.Proofs.YtiejhjngcnkimaaGreatRW.newV 400) 0 (supP y0)) 33 N0) 37 B0) 38 D0).held 1 = none
    rw [hold_ne _ _ _ _ (by decide), hold_ne _ _ _ _ (by decide), hold_ne _ _ _ _ (by decide), hold_ne _ _ _ _ (by decide)]
    rfl
  rw [this]
  rfl
theorem tgE0 : Go.Proofs.YtiejhjngcnkimaaGreatRW.tgT 400 32 stE = [] ∧ Go.Proofs.YtiejhjngcnkimaaGreatRW.tgE 400 32 stE = 0 := by
  unfold Go.Proofs.YtiejhjngcnkimaaGreatRW.tgT Go.Proofs.YtiejhjngcnkimaaGreatRW.tgE
  rw [curE]
  constructor <;> decide +kernel
theorem fineW : Go.Proofs.YtiejhjngcnkimaaGreatRW.H.Fine 400 32 60 := by decide
theorem layW : Go.Proofs.YtiejhjngcnkimaaGreatRW.layA 400 32 60 = layRow (layOf 400 32 60) := by rfl
end Go.Proofs.YtiejhjngcnkimaaGreatR
/- A log on a disk that holds the example's world: the kit's Begin. -/
namespace Go.Proofs.YtiejhjngcnkimaaGreatR
open Go.RowKit Go.Maps
theorem st3_info (v : Value) (fr sp : Int) : (Tryz.prog.info? 29).map (·.size) = some ([v, .int .i64 fr, .int .i64 sp] : List Value).length := st_info v fr sp
theorem geo3_info (b l i : Int) : (Tryz.prog.info? 26).map (·.size) = some ([.int .i64 b, .int .i64 l, .int .i64 i] : List Value).length := geo_info b l i
def prRow (d l r m : Nat) : Array Value := #[.pointer (some ⟨d, 0, none⟩), .pointer (some ⟨l, 0, none⟩), .pointer (some ⟨r, 0, none⟩), .pointer (some ⟨m, 0, none⟩)]
theorem zeroPr : ∀ w, (zeroValue 39).run Tryz.prog w = .ok (.agg #[.pointer none, .pointer none, .pointer none, .pointer none]) w := (zero_of_info (show (Tryz.prog.info? 39).map (fun i => (i.zero, i.size)) = some (some (.agg #[.pointer none, .pointer none, .pointer none, .pointer none]), 4) by kernel_rfl)).1
theorem rmE : Go.Proofs.YtiejhjngcnkimaaGreatRW.Rm stE 3 := by
  obtain ⟨_, _, h3, _, h5, h6, h7⟩ := stE_keep
  unfold Go.Proofs.YtiejhjngcnkimaaGreatRW.Rm
  rw [h3, h5, h6, h7]
  decide
set_option maxRecDepth 40000 in
set_option maxHeartbeats 8000000 in
theorem begin_ok {w : World} {pi pe : Option Addr} {ce : Nat} (ci : Nat) (h : ExAt w pi pe ce) :
    Calls Tryz.prog 8 #[.agg (wdRow 400 32 60 (.slice pi 1 ci) 361 59 0)] w fun e w' => ∃ W0 gp gl gd gr gm, e = .returned (.tuple #[.pointer (some ⟨gp, 0, none⟩), .bool true, .bool true]) ∧ Below w.heap.size w W0 ∧ Go.Proofs.YtiejhjngcnkimaaGreatRW.LogI W0 w' gl gd (Go.Proofs.YtiejhjngcnkimaaGreatRW.newX 400 32 60 (Go.Proofs.YtiejhjngcnkimaaGreatRW.claimN stE)) (Go.Proofs.YtiejhjngcnkimaaGreatRW.claimV (Go.Proofs.YtiejhjngcnkimaaGreatRW.readS stE)) (Go.Proofs.YtiejhjngcnkimaaGreatRW.curV stE) [(gp, .cells (prRow gd gl gr gm) 39)] := by
  have zi := zeroIm
  have zl := zeroLay
  have zp := zeroPr
  have hX := heap_alloc_new w (.cells (wdRow 400 32 60 (.slice pi 1 ci) 361 59 0) 31)
  have hbX := below_new w (.cells (wdRow 400 32 60 (.slice pi 1 ci) 361 59 0) 31)
  have hmay := mayE ci (h.later hbX)
  have HE : Hid _ := h.later hbX
  have HX : Hid _ := hX
  have HB : Hid _ := hbX
  clear h hX hbX
  go_enter Tryz.func8, Tryz.ntmps8
  go_upto_region 1 with fail
  generalize w.alloc (.cells (wdRow 400 32 60 (.slice pi 1 ci) 361 59 0) 31) = V at *
  have m1 := wd_geo HX.out
  have m2 := wd_st HX.out
  go_wp2_with (first | (with_reducible refine isLoadR 26 ?_; refine wpList_ldMid 26 Tryz.underlying26 rfl rfl (.tmp 15) rfl w.heap.size 0 [.int .i64 400, .int .i64 32, .int .i64 60] (geoRow 400 32 60) rfl (geo3_info _ _ _) rfl m1 ?_) | (with_reducible refine isLoadR 29 ?_; refine wpList_ldMid 29 Tryz.underlying29 rfl rfl (.tmp 17) rfl w.heap.size 3 [.slice pi 1 ci, .int .i64 361, .int .i64 59] (stRow (.slice pi 1 ci) 361 59) rfl (st3_info _ _ _) rfl m2 ?_) | (go_at_call 37; fail))
  refine hmay.mono ?_
  rintro e X ⟨rfl, hb1⟩
  have HX1 : Hid _ := heap_kept HX.out hb1
  have HE1 : Hid (ExAt X pi pe ce) := ExAt.later HE.out hb1
  have HB1 : Hid (Below w.heap.size w X) := below_next HB.out hb1
  clear hmay hb1 HX HE HB m1 m2
  have m1 := wd_geo HX1.out
  have m2 := wd_st HX1.out
  have c6 : X.cell? ⟨w.heap.size, 6, none⟩ = some (.int .i64 0) := Joins.cell_of_block HX1.out 6
  have hlaid := laidE ci HE1.out
  go_wp2_with (first | (with_reducible refine isLoadR 26 ?_; refine wpList_ldMid 26 Tryz.underlying26 rfl rfl (.tmp 22) rfl w.heap.size 0 [.int .i64 400, .int .i64 32, .int .i64 60] (geoRow 400 32 60) rfl (geo3_info _ _ _) rfl m1 ?_) | (with_reducible refine isLoadR 29 ?_; refine wpList_ldMid 29 Tryz.underlying29 rfl rfl (.tmp 24) rfl w.heap.size 3 [.slice pi 1 ci, .int .i64 361, .int .i64 59] (stRow (.slice pi 1 ci) 361 59) rfl (st3_info _ _ _) rfl m2 ?_) | (go_at_call 38; fail))
  refine hlaid.mono ?_
  rintro e Y ⟨v, rfl, hown, hb2⟩
  obtain ⟨p, c, rfl, himg⟩ := OwnH.img hown
  have HX2 : Hid _ := heap_kept (heap_kept HX1.out hb2) (below_new Y (.cells (imRow 400 (.slice p imE.length c)) 97))
  have HI2 : Hid (ImgAt (Y.alloc (.cells (imRow 400 (.slice p imE.length c)) 97)) p imE) := ImgAt.later himg (below_new _ _)
  have HR2 : Hid ((Y.alloc (.cells (imRow 400 (.slice p imE.length c)) 97)).heap[Y.heap.size]? = some (.cells (imRow 400 (.slice p imE.length c)) 97)) := heap_alloc_new _ _
  have HB2 : Hid (Below w.heap.size w (Y.alloc (.cells (imRow 400 (.slice p imE.length c)) 97))) := below_next (below_next HB1.out hb2) (below_new _ _)
  clear hlaid hown himg hb2 HX1 HE1 HB1 m1 m2 c6
  rw [show imE.length = 4 from rfl] at HX2 HI2 HR2 HB2 ⊢
  go_upto_region 5 with (first | (with_reducible refine isStoreR 97 ?_; refine wpList_stNew 97 rfl (.tmp 5) (.tmp 28) rfl Y.heap.size (imRow 400 (.slice p 4 c)) (imRow 0 (.slice none 0 0)) 97 (imr_info _ _) (imr_two _ _ _ _) (imr_one _ _ _ _) rfl rfl rfl ?_))
  generalize Y.alloc (.cells (imRow 400 (.slice p 4 c)) 97) = Z at *
  generalize Y.heap.size = gi at *
  have m1 := wd_geo HX2.out
  have hof := of03_ok geoE Z
  have HySup : Hid (layOf 400 32 60 = layOf 400 32 60) := rfl
  go_wp2_with (first | (with_reducible refine isLoadR 26 ?_; refine wpList_ldMid 26 Tryz.underlying26 rfl rfl (.tmp 30) rfl w.heap.size 0 [.int .i64 400, .int .i64 32, .int .i64 60] (geoRow 400 32 60) rfl (geo3_info _ _ _) rfl m1 ?_) | (go_at_call 39; fail))
  refine hof.mono ?_
  rintro e U ⟨rfl, hb3⟩
  obtain ⟨y, hy⟩ : ∃ y, layOf 400 32 60 = y := ⟨_, rfl⟩
  have HyE : Hid (layOf 400 32 60 = y) := hy
  rw [hy]
  have HI3 : Hid (ImgAt (U.alloc (.cells (layRow y) 61)) p imE) := ImgAt.later (ImgAt.later HI2.out hb3) (below_new _ _)
  have HR3 : Hid ((U.alloc (.cells (layRow y) 61)).heap[gi]? = some (.cells (imRow 400 (.slice p 4 c)) 97)) := heap_kept (heap_kept HR2.out hb3) (below_new _ _)
  have HL3 : Hid ((U.alloc (.cells (layRow y) 61)).heap[U.heap.size]? = some (.cells (layRow y) 61)) := heap_alloc_new _ _
  have HB3 : Hid (Below w.heap.size w (U.alloc (.cells (layRow y) 61))) := below_next (below_next HB2.out hb3) (below_new _ _)
  clear hof hb3 HX2 HI2 HR2 HB2 m1 hy HySup
  go_upto_region 6 with (first | (with_reducible refine isStoreR 61 ?_; refine wpList_stNew 61 rfl (.tmp 6) (.tmp 33) rfl U.heap.size (layRow y) (layRow lay0) 61 (lay_info _) (lay_two _ _) (lay_one _) rfl rfl rfl ?_))
  generalize U.alloc (.cells (layRow y) 61) = T at *
  generalize U.heap.size = gw at *
  have hld : Calls Tryz.prog 40 #[.agg (imRow 400 (.slice p 4 c))] T _ := Go.Proofs.YtiejhjngcnkimaaGreatRW.load_ok 400 imE p c T (by decide) (imgW HI3.out) canE mayW
  go_wp2_with (first | (with_reducible refine isLoadR 97 ?_; refine wpList_ldR 97 Tryz.underlying97 rfl rfl (.tmp 5) rfl gi rfl (imRow 400 (.slice p 4 c)) 97 (0, 0) (imr_info _ _) HR3.out ?_) | (go_at_call 40; fail))
  refine hld.mono ?_
  rintro e T1 ⟨LL, rfl, hd1, hd2, hd3⟩
  have HS : Hid (Go.Proofs.YtiejhjngcnkimaaGreatRW.Sits T T1 LL.d stE []) := ⟨LL, rfl, hd1, hd2, hd3, fun q hq => by cases hq⟩
  have HL4 : Hid _ := heap_kept HL3.out hd3
  clear hld hd1 hd2 hd3
  generalize LL.d = gd at *
  have hnl := Go.Proofs.YtiejhjngcnkimaaGreatRW.newL_ok HS.out fineW (by decide) rfl rmE tgE0.1 tgE0.2
  rw [layW, HyE.out] at hnl
  clear HS
  go_wp2_with (first | (with_reducible refine isLoadR 61 ?_; refine wpList_ldR 61 Tryz.underlying61 rfl rfl (.tmp 6) rfl gw rfl (layRow y) 61 (0, 0) (lay_info _) HL4.out ?_) | (go_at_call 41; fail))
  refine hnl.mono ?_
  rintro e T2 ⟨gl, rfl, hlog⟩
  unfold Go.Proofs.YtiejhjngcnkimaaGreatRW.ptr
  have hb4 := Go.Proofs.YtiejhjngcnkimaaGreatRW.LogI.below hlog
  have HI5 : Hid (ImgAt T2 p imE) := ImgAt.later HI3.out hb4
  have HR5 : Hid _ := heap_kept HR3.out hb4
  have HL5 : Hid _ := heap_kept HL3.out hb4
  have HLog : Hid _ := hlog
  clear hnl hlog hb4 HI3 HR3 HL3 HL4
  have hrl : Calls Tryz.prog 42 #[.agg (imRow 400 (.slice p 4 c))] T2 _ := load04_ok 400 imE p c T2 HI5.out imE_whole
  go_wp2_with (first | (with_reducible refine isLoadR 97 ?_; refine wpList_ldR 97 Tryz.underlying97 rfl rfl (.tmp 5) rfl gi rfl (imRow 400 (.slice p 4 c)) 97 (0, 0) (imr_info _ _) HR5.out ?_) | (go_at_call 42; fail))
  refine hrl.mono ?_
  rintro e T3 ⟨gr, rfl, ⟨v4, hr1, hr2⟩, hr3, hr4⟩
  have HL6 : Hid _ := heap_kept HL5.out hr4
  have hnw := new08_ok (g := gr) imE_sup (Int.le_refl _) ⟨hr1, hr2, Fr.refl _ _⟩ (by decide) (by decide)
  rw [HyE.out] at hnw
  have HB6 : Hid _ := hr4
  have HG6 : Hid (T2.heap.size ≤ gr) := hr3
  clear hrl hr1 hr2 hr3 hr4 HI5 HR5 HL5
  go_wp2_with (first | (with_reducible refine isLoadR 61 ?_; refine wpList_ldR 61 Tryz.underlying61 rfl rfl (.tmp 6) rfl gw rfl (layRow y) 61 (0, 0) (lay_info _) HL6.out ?_) | (go_at_call 43; fail))
  refine hnw.mono ?_
  rintro e T4 ⟨gm, rfl, _, hm2⟩
  have HB7 : Hid (Below T2.heap.size T2 T4) := HB6.out.trans (hm2.fr.below (fun q hq => by have := HG6.out; omega) HB6.out.size)
  have HLog7 : Hid _ := Go.Proofs.YtiejhjngcnkimaaGreatRW.LogI.later HLog.out HB7.out
  clear hnw hm2 HB6 HG6 HLog HL6 HB7
  have HLog8 : Hid _ := Go.Proofs.YtiejhjngcnkimaaGreatRW.LogI.add HLog7.out (.cells (prRow gd gl gr gm) 39)
  clear HLog7
  go_wp2
  exact bodyPost_ret (results_tmp3 rfl _ _ _) rfl ⟨T, T4.heap.size, gl, gd, gr, gm, rfl, HB3.out, HLog8.out⟩
end Go.Proofs.YtiejhjngcnkimaaGreatR
/- The calls of room at a log that is none: nil, blank or closed. -/
namespace Go.Proofs.YtiejhjngcnkimaaGreatR
open Go.RowKit Go.Maps
section
variable {W : World} {v : Value}
end
end Go.Proofs.YtiejhjngcnkimaaGreatR
/- What a log that lives tells of its layout; a sheet of the bitmap read. -/
namespace Go.Proofs.YtiejhjngcnkimaaGreatR
open Go.RowKit Go.Maps
section
variable {w W : World} {g d : Nat} {x : Go.Proofs.YtiejhjngcnkimaaGreatRW.LSt} {t : Go.Proofs.YtiejhjngcnkimaaGreatRW.St} {book : Int → Nat → Int} {ks : List (Nat × Obj)}
def layL (x : Go.Proofs.YtiejhjngcnkimaaGreatRW.LSt) : Lay := ⟨x.b, x.l, x.i, 1, 1 + x.l, Go.Proofs.YtiejhjngcnkimaaGreatRW.H.nodeB x.i, Go.Proofs.YtiejhjngcnkimaaGreatRW.H.bitsAt x.l x.i, Go.Proofs.YtiejhjngcnkimaaGreatRW.H.bitsB x.b, Go.Proofs.YtiejhjngcnkimaaGreatRW.H.dataAt x.b x.l x.i⟩
def layC (y : Lay) : List Value := [.int .i64 y.b, .int .i64 y.l, .int .i64 y.i, .int .i64 y.logAt, .int .i64 y.nodeAt, .int .i64 y.nodeBlocks, .int .i64 y.bitsAt, .int .i64 y.bitsBlocks, .int .i64 y.dataAt]
theorem layC_row (y : Lay) : (layC y).toArray = layRow y := rfl
theorem layC_info (y : Lay) : (Tryz.prog.info? 61).map (·.size) = some (layC y).length := lay_info y
theorem log_lay {c mb base : Nat} {v : Value} (h : Go.Proofs.YtiejhjngcnkimaaGreatRW.LogAt W base g d c mb v x) : ∀ j u, (layC (layL x))[j]? = some u → W.cell? ⟨g, 3 + j, none⟩ = some u := fun j u hu => by
  rw [Joins.cell_of_block h.row]
  match j, hu with
  | 0, hu | 1, hu | 2, hu | 3, hu | 4, hu | 5, hu | 6, hu | 7, hu | 8, hu => exact hu
  | j + 9, hu => simp [layC] at hu
set_option maxRecDepth 20000 in
set_option maxHeartbeats 1600000 in
theorem layoutL_ok (h : Go.Proofs.YtiejhjngcnkimaaGreatRW.LogI w W g d x t book ks) (hc : Go.Proofs.YtiejhjngcnkimaaGreatRW.chkE x t = 0) : Calls Tryz.prog 98 #[.pointer (some ⟨g, 0, none⟩)] W fun e W' => e = .returned (.agg (layRow (layL x))) ∧ Go.Proofs.YtiejhjngcnkimaaGreatRW.LogI w W' g d x t book ks := by
  obtain ⟨s, ⟨c, mb, v, os, h⟩, hI⟩ := h
  have zl := zeroLay
  have hksz := h.ksLt
  have hbase := h.sit.below.size
  have hA := h.add (.cells (layRow lay0) 61)
  have hck : Calls Tryz.prog 45 #[.pointer (some ⟨g, 0, none⟩)] (W.alloc (.cells (layRow lay0) 61)) fun e W' => e = .returned (.int .i64 0) ∧ (∀ j u, (layC (layL x))[j]? = some u → W'.cell? ⟨g, 3 + j, none⟩ = some u) ∧ W'.heap[W.heap.size]? = some (.cells (layRow lay0) 61) ∧ Hid (Go.Proofs.YtiejhjngcnkimaaGreatRW.LogI w (W'.setRow W.heap.size (layRow (layL x))) g d x t book ks) := by
    refine hA.check.mono ?_
    rintro e W' ⟨rfl, m, rfl⟩
    have hB := hA.later (Go.Proofs.YtiejhjngcnkimaaGreatRW.below_drewN _ m)
    exact ⟨by rw [hc], log_lay hB.log, hB.sit.blk (List.mem_append.2 (.inr (List.mem_cons_self ..))), s, hB.beside (Go.Proofs.YtiejhjngcnkimaaGreatRW.Fr.setRow _ W.heap.size _) hbase hksz, hI⟩
  clear h hA hI hksz hbase
  generalize layL x = y at *
  go_enter Tryz.func98, Tryz.ntmps98
  go_wp2_with (go_at_call 45; fail)
  refine hck.mono ?_
  rintro e W1 ⟨rfl, hl, hg, HP⟩
  clear hck
  go_wp2_with (first | (with_reducible refine isLoadR 61 ?_; refine wpList_ldMid 61 Tryz.underlying61 rfl rfl (.tmp 9) rfl g 3 (layC y) (layRow y) (layC_row y) (layC_info y) rfl hl ?_) | (with_reducible refine isStoreR 61 ?_; refine wpList_stR 61 rfl (.tmp 2) (.tmp 10) rfl W.heap.size (layRow y) (layRow lay0) 61 (lay_info _) (lay_two _ _) (lay_one _) rfl rfl hg ?_))
  exact retR Tryz.underlying61 rfl rfl W.heap.size _ 61 (lay_info _) rfl (setRow_heap _ _ _ _ _ _ hg) rfl ⟨rfl, HP.out⟩
end
end Go.Proofs.YtiejhjngcnkimaaGreatR
/- A sheet of the bitmap read: room's own read. -/
namespace Go.Proofs.YtiejhjngcnkimaaGreatR
open Go.RowKit Go.Maps
def shL (a b : Int) (f : Nat → Int) : List Value := .int .i64 a :: .int .i64 b :: (blk f).toList
def shRow (a b : Int) (f : Nat → Int) : Array Value := (shL a b f).toArray
theorem shRow_size (a b : Int) (f : Nat → Int) : (shRow a b f).size = 1026 := by unfold shRow shL; rw [List.size_toArray, List.length_cons, List.length_cons, Array.length_toList, blk_size]
theorem sh_two (a b a' b' : Int) (f f' : Nat → Int) : (shRow a b f).size = (shRow a' b' f').size := by rw [shRow_size, shRow_size]
theorem sh_one (a b : Int) (f : Nat → Int) : (shRow a b f).all (·.oneCell') = true := by
  rw [Array.all_eq_true_iff_forall_mem]
  intro v hv
  unfold shRow shL at hv
  simp only [List.mem_toArray, List.mem_cons, Array.mem_toList_iff] at hv
  rcases hv with rfl | rfl | hv
  · rfl
  · rfl
  · exact Array.all_eq_true_iff_forall_mem.1 (rowN_one _ _ _) v hv
theorem fill_sh (a b : Int) (f : Nat → Int) (Z : Array Value) (hZ : Z.size = 1026) (place : Nat → Option (Nat × Nat)) (h0 : place 0 = some (0, 1)) (h1 : place 1 = some (1, 1)) (h2 : place 2 = some (2, 1024)) :
    Instr.fill place Z [(0, .int .i64 a), (1, .int .i64 b), (2, .agg (blk f))] = some (shRow a b f) := by
  have hb := blk_size f
  have hl : Z.toList.length = 1026 := by rw [Array.length_toList, hZ]
  obtain ⟨z0, z1, r, hz, hr⟩ : ∃ z0 z1 r, Z.toList = z0 :: z1 :: r ∧ r.length = 1024 := by
    match hz : Z.toList with
    | [] => rw [hz, List.length_nil] at hl; omega
    | [z0] => rw [hz] at hl; simp at hl
    | z0 :: z1 :: r => exact ⟨z0, z1, r, rfl, by rw [hz] at hl; simp at hl; omega⟩
  unfold Instr.fill
  rw [h0]
  simp only [Value.cells, List.size_toArray, List.length_cons, List.length_nil, hZ]
  rw [if_neg (by simp)]
  rw [fold_over 0 #[.int .i64 a] Z (by rw [hZ]; simp), hz]
  unfold Instr.fill
  rw [h1]
  simp only [Value.cells, List.size_toArray, List.length_cons, List.length_nil, List.take_zero, List.nil_append, List.drop_succ_cons, List.drop_zero, List.singleton_append, Nat.zero_add]
  rw [if_neg (by simp [hr])]
  rw [fold_over 1 #[.int .i64 b] _ (by simp [hr])]
  unfold Instr.fill
  rw [h2]
  simp only [Value.cells, hb, List.size_toArray, List.length_cons, List.length_nil, List.take_succ_cons, List.take_zero, List.drop_succ_cons, List.drop_zero, List.cons_append, List.nil_append, Nat.reduceAdd]
  rw [if_neg (by simp [hr])]
  rw [fold_over 2 (blk f) _ (by simp [hr, hb])]
  unfold Instr.fill
  simp only [List.take_succ_cons, List.take_zero, hb, Nat.reduceAdd]
  rw [List.drop_eq_nil_of_le (by simp [hr]), List.append_nil]
  rfl
end Go.Proofs.YtiejhjngcnkimaaGreatR
/- A sheet of the bitmap read over a log that lives: room's read and sheetOf. -/
namespace Go.Proofs.YtiejhjngcnkimaaGreatR
open Go.RowKit Go.Maps
section
variable {ops : Array Oper} {rest : List Oper} {a : Act} {w : World} {Q : Exit → Act → World → Prop} {dst : Option Tmp} {ty : TypeId} {pos : String} {aft : Array Edge} {gd : Option (Nat × Bool)} {x : Operand}
theorem isFdR (t : TypeId) {n : Nat} (h : wpList Tryz.prog ops Q (⟨dst, .field t x n, ty, pos, aft, gd⟩ :: rest) a w) : wpList Tryz.prog ops Q (⟨dst, .field t x n, ty, pos, aft, gd⟩ :: rest) a w := h
end
section
variable {w W : World} {g d : Nat} {x : Go.Proofs.YtiejhjngcnkimaaGreatRW.LSt} {t : Go.Proofs.YtiejhjngcnkimaaGreatRW.St} {book : Int → Nat → Int} {ks : List (Nat × Obj)}
theorem logI_beside {W' : World} {q : Nat} {o : Obj} (h : Go.Proofs.YtiejhjngcnkimaaGreatRW.LogI w W g d x t book ((q, o) :: ks)) (hf : Go.Proofs.YtiejhjngcnkimaaGreatRW.Fr (fun k => k = q) W W') (hq : w.heap.size ≤ q) (hks : ∀ p ∈ ks, p.1 ≠ q) : Go.Proofs.YtiejhjngcnkimaaGreatRW.LogI w W' g d x t book ks := by
  obtain ⟨s, ⟨c, mb, v, os, h⟩, hI⟩ := h
  exact ⟨s, h.beside hf hq hks, hI⟩
theorem logI_ks (h : Go.Proofs.YtiejhjngcnkimaaGreatRW.LogI w W g d x t book ks) : ∀ p ∈ ks, p.1 ≠ W.heap.size := by
  obtain ⟨s, ⟨c, mb, v, os, h⟩, hI⟩ := h
  exact h.ksLt
end
end Go.Proofs.YtiejhjngcnkimaaGreatR
/- The sheet of a data block: room's sheetOf; whether it is marked. -/
namespace Go.Proofs.YtiejhjngcnkimaaGreatR
open Go.RowKit Go.Maps
section
variable {w W : World} {g d : Nat} {x : Go.Proofs.YtiejhjngcnkimaaGreatRW.LSt} {t : Go.Proofs.YtiejhjngcnkimaaGreatRW.St} {book : Int → Nat → Int} {ks : List (Nat × Obj)}
end
end Go.Proofs.YtiejhjngcnkimaaGreatR
/- Whether a sheet marks a block, over what bits.Has answers; room's Used. -/
namespace Go.Proofs.YtiejhjngcnkimaaGreatR
open Go.RowKit Go.Maps
section
variable {w W : World} {g d : Nat} {x : Go.Proofs.YtiejhjngcnkimaaGreatRW.LSt} {t : Go.Proofs.YtiejhjngcnkimaaGreatRW.St} {book : Int → Nat → Int} {ks : List (Nat × Obj)}
theorem logI_chk (h : Go.Proofs.YtiejhjngcnkimaaGreatRW.LogI w W g d x t book ks) (hc : Go.Proofs.YtiejhjngcnkimaaGreatRW.chkE x t = 0) : Calls Tryz.prog 45 #[.pointer (some ⟨g, 0, none⟩)] W fun e W' => e = .returned (.int .i64 0) ∧ Go.Proofs.YtiejhjngcnkimaaGreatRW.LogI w W' g d x t book ks := by
  obtain ⟨s, ⟨c, mb, v, os, h⟩, hI⟩ := h
  refine h.check.mono ?_
  rintro e W' ⟨rfl, m, rfl⟩
  exact ⟨by rw [hc], s, ⟨c, mb, v, os, h.later (Go.Proofs.YtiejhjngcnkimaaGreatRW.below_drewN _ m)⟩, hI⟩
end
end Go.Proofs.YtiejhjngcnkimaaGreatR
/- The bits of a sheet: the program's Has and Set beside the plain words; room's with. -/
namespace Go.Proofs.YtiejhjngcnkimaaGreatR
open Go.RowKit Go.Maps
end Go.Proofs.YtiejhjngcnkimaaGreatR
