/- asked: all functions of past of a scene, each twice, and the document's beside them: they agree, and what they tell lies apart; lists of at most 1000. -/
import Derived.Test.YtbnbbelkddbndaaUni
namespace Go.Proofs.Ytbnbbelkddbndaa
open Go.RowKit Go.Maps
theorem scene_cells {W : World} {g : Nat} {n : Int} {p : Option Addr} {a cp : Nat} {po : Option Addr} {b co : Nat} {k : Int} {ka : Option Addr} {c kc : Nat} {q : Int} (h : W.heap[g]? = some (.cells (sceneV n p a cp po b co k ka c kc q) 28)) :
    W.cell? ⟨g, 0, none⟩ = some (.int .i64 n) ∧ W.cell? ⟨g, 1, none⟩ = some (.slice p a cp) ∧ W.cell? ⟨g, 2, none⟩ = some (.slice po b co) ∧ W.cell? ⟨g, 3, none⟩ = some (.int .i64 k) ∧ W.cell? ⟨g, 4, none⟩ = some (.slice ka c kc) ∧ W.cell? ⟨g, 5, none⟩ = some (.int .i64 q) :=
  ⟨Joins.cell_of_block h 0, Joins.cell_of_block h 1, Joins.cell_of_block h 2, Joins.cell_of_block h 3, Joins.cell_of_block h 4, Joins.cell_of_block h 5⟩
theorem img_own {B : Nat} {w : World} {p : Option Addr} {c : Nat} {l : List Cel} (h : w.ownsRow B 44 1025 (.slice p l.length c) l.length (l.flatMap celRow)) : ImgAt w p l := lies_img (own_lies celRow_len h)
theorem blksO {B : Nat} {w : World} {p : Option Addr} {c : Nat} {l : List (Nat → Int)} (h : w.ownsRow B 40 1024 (.slice p l.length c) l.length (l.flatMap enB)) : BlksAt w p l := fun h0 => by
  obtain ⟨b, off, hp, hlt, hc⟩ := own_lies lenB h h0
  exact ⟨b, off, hp, hlt, fun k f hf j v hv => hc k f hf j v hv⟩
theorem ints_own {B : Nat} {w : World} {p : Option Addr} {c : Nat} {l : List Int} (h : w.ownsRow B 3 1 (.slice p l.length c) l.length (l.flatMap enI)) : IntsAt w p l := fun h0 => by
  obtain ⟨b, off, hp, hlt, hc⟩ := own_lies lenI h h0
  refine ⟨b, off, hp, hlt, fun j x hx => ?_⟩
  have := hc j x hx 0 _ rfl
  rwa [Nat.mul_one, Nat.add_zero] at this
/-- One of two, one of four. -/
def sel2 {β : Type} (a b : β) (k : Nat) : β := if k = 0 then a else b
def sel4 {β : Type} (a b c d : β) (k : Nat) : β := if k = 0 then a else if k = 1 then b else if k = 2 then c else d
section
variable {α : Type} {en : α → List Value} {e sz et : Nat} {W : World}
theorem two_ready {Ba Bb ca cb : Nat} {pa pb : Option Addr} {l : List α} (ha : W.ownsRow Ba e sz (.slice pa l.length ca) l.length (l.flatMap en)) (hb : W.ownsRow Bb e sz (.slice pb l.length cb) l.length (l.flatMap en))
    (hne : ∀ b, (Value.slice pa l.length ca).ownBlock = some b → (Value.slice pb l.length cb).ownBlock ≠ some b) :
    Apt 2 W.heap.size (fun k => .slice (sel2 pa pb k) l.length (sel2 ca cb k)) ∧ Lsts en e sz 2 W.heap.size (fun k => .slice (sel2 pa pb k) l.length (sel2 ca cb k)) (W.alloc (.cells #[.slice pa l.length ca, .slice pb l.length cb] et)) (fun _ => l) (W.alloc (.cells #[.slice pa l.length ca, .slice pb l.length cb] et)) := by
  have hbn := below_new W (.cells #[.slice pa l.length ca, .slice pb l.length cb] et)
  have hg := heap_alloc_new W (.cells #[.slice pa l.length ca, .slice pb l.length cb] et)
  refine ⟨⟨fun k hk q => ?_, fun j k hj hk hjk b hb1 hb2 => ?_⟩, ⟨Fr.refl _ _, fun k hk => ?_, fun k hk => ?_⟩⟩
  · match k, hk, q with
    | 0, _, q => exact absurd (ha.lt _ q).2 (by omega)
    | 1, _, q => exact absurd (hb.lt _ q).2 (by omega)
  · match j, k, hj, hk, hjk, hb1, hb2 with
    | 0, 0, _, _, h, _, _ => exact h rfl
    | 1, 1, _, _, h, _, _ => exact h rfl
    | 0, 1, _, _, _, h1, h2 => exact hne b h1 h2
    | 1, 0, _, _, _, h1, h2 => exact hne b h2 h1
  · match k, hk with
    | 0, _ => exact Joins.cell_of_block hg 0
    | 1, _ => exact Joins.cell_of_block hg 1
  · match k, hk with
    | 0, _ => exact World.ownsRow.mono (own_later ha hbn) (Nat.zero_le _)
    | 1, _ => exact World.ownsRow.mono (own_later hb hbn) (Nat.zero_le _)
theorem four_ready {Ba Bb Bc Bd ca cb cc cd : Nat} {pa pb pc pd : Option Addr} {l t : List α} (ha : W.ownsRow Ba e sz (.slice pa l.length ca) l.length (l.flatMap en)) (hb : W.ownsRow Bb e sz (.slice pb l.length cb) l.length (l.flatMap en)) (hc : W.ownsRow Bc e sz (.slice pc t.length cc) t.length (t.flatMap en)) (hd : W.ownsRow Bd e sz (.slice pd t.length cd) t.length (t.flatMap en))
    (n1 : ∀ b, (Value.slice pa l.length ca).ownBlock = some b → b < Bb ∧ b < Bc ∧ b < Bd) (n2 : ∀ b, (Value.slice pb l.length cb).ownBlock = some b → b < Bc ∧ b < Bd) (n3 : ∀ b, (Value.slice pc t.length cc).ownBlock = some b → b < Bd) :
    Apt 4 W.heap.size (fun k => .slice (sel4 pa pb pc pd k) (sel4 l.length l.length t.length t.length k) (sel4 ca cb cc cd k)) ∧ Lsts en e sz 4 W.heap.size (fun k => .slice (sel4 pa pb pc pd k) (sel4 l.length l.length t.length t.length k) (sel4 ca cb cc cd k)) (W.alloc (.cells #[.slice pa l.length ca, .slice pb l.length cb, .slice pc t.length cc, .slice pd t.length cd] et)) (sel4 l l t t) (W.alloc (.cells #[.slice pa l.length ca, .slice pb l.length cb, .slice pc t.length cc, .slice pd t.length cd] et)) := by
  have hbn := below_new W (.cells #[.slice pa l.length ca, .slice pb l.length cb, .slice pc t.length cc, .slice pd t.length cd] et)
  have hg := heap_alloc_new W (.cells #[.slice pa l.length ca, .slice pb l.length cb, .slice pc t.length cc, .slice pd t.length cd] et)
  have lb : ∀ b, (Value.slice pb l.length cb).ownBlock = some b → Bb ≤ b := fun b h => (hb.lt b h).1
  have lc : ∀ b, (Value.slice pc t.length cc).ownBlock = some b → Bc ≤ b := fun b h => (hc.lt b h).1
  have ld : ∀ b, (Value.slice pd t.length cd).ownBlock = some b → Bd ≤ b := fun b h => (hd.lt b h).1
  refine ⟨⟨fun k hk q => ?_, fun j k hj hk hjk b hb1 hb2 => ?_⟩, ⟨Fr.refl _ _, fun k hk => ?_, fun k hk => ?_⟩⟩
  · match k, hk, q with
    | 0, _, q => exact absurd (ha.lt _ q).2 (by omega)
    | 1, _, q => exact absurd (hb.lt _ q).2 (by omega)
    | 2, _, q => exact absurd (hc.lt _ q).2 (by omega)
    | 3, _, q => exact absurd (hd.lt _ q).2 (by omega)
  · have w12 : ∀ b, (Value.slice pa l.length ca).ownBlock = some b → (Value.slice pb l.length cb).ownBlock = some b → False := fun b h1 h2 => by have := n1 b h1; have := lb b h2; omega
    have w13 : ∀ b, (Value.slice pa l.length ca).ownBlock = some b → (Value.slice pc t.length cc).ownBlock = some b → False := fun b h1 h2 => by have := n1 b h1; have := lc b h2; omega
    have w14 : ∀ b, (Value.slice pa l.length ca).ownBlock = some b → (Value.slice pd t.length cd).ownBlock = some b → False := fun b h1 h2 => by have := n1 b h1; have := ld b h2; omega
    have w23 : ∀ b, (Value.slice pb l.length cb).ownBlock = some b → (Value.slice pc t.length cc).ownBlock = some b → False := fun b h1 h2 => by have := n2 b h1; have := lc b h2; omega
    have w24 : ∀ b, (Value.slice pb l.length cb).ownBlock = some b → (Value.slice pd t.length cd).ownBlock = some b → False := fun b h1 h2 => by have := n2 b h1; have := ld b h2; omega
    have w34 : ∀ b, (Value.slice pc t.length cc).ownBlock = some b → (Value.slice pd t.length cd).ownBlock = some b → False := fun b h1 h2 => by have := n3 b h1; have := ld b h2; omega
    match j, k, hj, hk, hjk, hb1, hb2 with
    | 0, 0, _, _, h, _, _ => exact h rfl
    | 1, 1, _, _, h, _, _ => exact h rfl
    | 2, 2, _, _, h, _, _ => exact h rfl
    | 3, 3, _, _, h, _, _ => exact h rfl
    | 0, 1, _, _, _, h1, h2 => exact w12 b h1 h2
    | 1, 0, _, _, _, h1, h2 => exact w12 b h2 h1
    | 0, 2, _, _, _, h1, h2 => exact w13 b h1 h2
    | 2, 0, _, _, _, h1, h2 => exact w13 b h2 h1
    | 0, 3, _, _, _, h1, h2 => exact w14 b h1 h2
    | 3, 0, _, _, _, h1, h2 => exact w14 b h2 h1
    | 1, 2, _, _, _, h1, h2 => exact w23 b h1 h2
    | 2, 1, _, _, _, h1, h2 => exact w23 b h2 h1
    | 1, 3, _, _, _, h1, h2 => exact w24 b h1 h2
    | 3, 1, _, _, _, h1, h2 => exact w24 b h2 h1
    | 2, 3, _, _, _, h1, h2 => exact w34 b h1 h2
    | 3, 2, _, _, _, h1, h2 => exact w34 b h2 h1
  · match k, hk with
    | 0, _ => exact Joins.cell_of_block hg 0
    | 1, _ => exact Joins.cell_of_block hg 1
    | 2, _ => exact Joins.cell_of_block hg 2
    | 3, _ => exact Joins.cell_of_block hg 3
  · match k, hk with
    | 0, _ => exact World.ownsRow.mono (own_later ha hbn) (Nat.zero_le _)
    | 1, _ => exact World.ownsRow.mono (own_later hb hbn) (Nat.zero_le _)
    | 2, _ => exact World.ownsRow.mono (own_later hc hbn) (Nat.zero_le _)
    | 3, _ => exact World.ownsRow.mono (own_later hd hbn) (Nat.zero_le _)
theorem two_tv {Ba Bb ca cb B i : Nat} {pa pb : Option Addr} {l : List α} (ha : W.ownsRow Ba e sz (.slice pa l.length ca) l.length (l.flatMap en)) (hb : W.ownsRow Bb e sz (.slice pb l.length cb) l.length (l.flatMap en)) (h : TV 2 (fun k => .slice (sel2 pa pb k) l.length (sel2 ca cb k)) i) (hA : B ≤ Ba) (hB : B ≤ Bb) : B ≤ i ∧ ∀ {B' e' sz' n' : Nat} {v : Value} {ys : List Value}, e' ≠ e → W.ownsRow B' e' sz' v n' ys → v.ownBlock ≠ some i := by
  obtain ⟨k, hk, q⟩ := h
  match k, hk, q with
  | 0, _, q => exact ⟨by have := (ha.lt _ q).1; omega, fun hne hv => rows_apart hne ha q hv⟩
  | 1, _, q => exact ⟨by have := (hb.lt _ q).1; omega, fun hne hv => rows_apart hne hb q hv⟩
end
set_option maxRecDepth 20000 in
set_option maxHeartbeats 4000000 in
theorem asked_any (n k q m : Int) (l t : List Cel) (ops : List Rec) (keep : List Bool) (p1 po1 ka1 p2 po2 ka2 pt : Option Addr) (cp1 co1 kc1 cp2 co2 kc2 ct : Nat) (w : World)
    (hl : l.length ≤ 1000) (hlo : ops.length ≤ 1000) (hlk : keep.length ≤ 1000) (hlt : t.length ≤ 1000) (i1 : ImgAt w p1 l) (i2 : ImgAt w p2 l) (o1 : OpsAt w po1 ops) (o2 : OpsAt w po2 ops) (hco : ops.length ≤ co1)
    (b1 : BoolsAt w (.slice ka1 keep.length kc1) keep) (b2 : BoolsAt w (.slice ka2 keep.length kc2) keep) (it : ImgAt w pt t) (hcl : ∀ c ∈ l, Can c.2) (hcr : ∀ r ∈ ops, Can r.dat) (hct : ∀ c ∈ t, Can c.2) :
    Calls Try.prog 13 #[.agg (sceneV n p1 l.length cp1 po1 ops.length co1 k ka1 keep.length kc1 q), .agg (sceneV n p2 l.length cp2 po2 ops.length co2 k ka2 keep.length kc2 q), .agg #[.int .i64 m, .slice pt t.length ct]] w fun e w' => e = .returned (.bool true) ∧ Below w.heap.size w w' := by
  have bl : ∀ {W : World} {ka : Option Addr} {kc : Nat}, BoolsAt w (.slice ka keep.length kc) keep → Below w.heap.size w W → BoolsAt W (.slice ka keep.length kc) keep := fun h hW => lies_bools ((bools_lies h).later hW)
  have HAf := Hid.mk' (fun (W : World) (hW : Below w.heap.size w W) => after_uni (n := n) (k := k) p1 cp1 po1 co1 keep ka1 kc1 W hl (i1.later hW) hlo (o1.later hW) hco hlk (bl b1 hW) hcl hcr)
  have HRa := Hid.mk' (fun (W : World) (hW : Below w.heap.size w W) => refAfter_uni (n := n) (k := k) p2 cp2 po2 co2 keep ka2 kc2 W hl (i2.later hW) hlo (o2.later hW) hlk (bl b2 hW))
  have HBk := Hid.mk' (fun (W : World) (hW : Below w.heap.size w W) => block_uni (n := n) (k := k) (q := q) p1 cp1 po1 co1 W hl (i1.later hW) hlo (o1.later hW) hco hcl hcr)
  have HRb := Hid.mk' (fun (W : World) (hW : Below w.heap.size w W) => refBlock_uni (n := n) (k := k) (q := q) p2 cp2 po2 co2 W hl (i2.later hW) hlo (o2.later hW))
  have HPe := Hid.mk' (fun (W : World) (hW : Below w.heap.size w W) => pending_uni (k := k) po1 co1 W hlo (o1.later hW) hco)
  have HRp := Hid.mk' (fun (W : World) (hW : Below w.heap.size w W) => refPending_uni (k := k) po2 co2 W hlo (o2.later hW))
  have HCh := Hid.mk' (fun (W : World) (hW : Below w.heap.size w W) => changed_uni (n := n) (m := m) p1 cp1 pt ct W hl hlt (i1.later hW) (it.later hW) hcl hct)
  have HRc := Hid.mk' (fun (W : World) (hW : Below w.heap.size w W) => refChanged_uni (n := n) (m := m) p2 cp2 pt ct W hl hlt (i2.later hW) (it.later hW))
  have HWh := Hid.mk' (fun (W : World) (hW : Below w.heap.size w W) => whole_any n l p1 cp1 W (by omega) (i1.later hW))
  have HRw := Hid.mk' (fun (W : World) (hW : Below w.heap.size w W) => rWhole_any n l p2 cp2 W (by omega) (i2.later hW))
  have HSm := Hid.mk' (fun (W : World) (hW : Below w.heap.size w W) => same_any n l p1 cp1 m t pt ct W (by omega) (by omega) (i1.later hW) (it.later hW))
  have HRs := Hid.mk' (fun (W : World) (hW : Below w.heap.size w W) => refSame_any n m l t p2 pt cp2 ct W (by omega) (by omega) (i2.later hW) (it.later hW))
  rw [same_is] at HSm
  have HAw := Hid.mk' (fun (W : World) (pa : Option Addr) (ca : Nat) (hA : (afL n l ops k keep).length ≤ 1048576) (h : ImgAt W pa (afL n l ops k keep)) => rWhole_any (afN n l ops k) (afL n l ops k keep) pa ca W (by omega) h)
  have HAs := Hid.mk' (fun (W : World) (pa pb : Option Addr) (ca cb : Nat) (hA : (afL n l ops k keep).length ≤ 1048576) (ha : ImgAt W pa (afL n l ops k keep)) (hb : ImgAt W pb (afL n l ops k keep)) => same_any (afN n l ops k) (afL n l ops k keep) pa ca (afN n l ops k) (afL n l ops k keep) pb cb W (by omega) (by omega) ha hb)
  rw [same_self] at HAs
  have HBl : Hid ((bkL n l ops k q).length ≤ 2000) := by
    have e : (bkL n l ops k q).length ≤ 2000 := by
      unfold bkL rBlkL
      split
      · rename_i hb
        have h1 := foldB_len ops q (rpUpto ops k.toNat) [atL (refK l ops [] (rpUpto ops k.toNat) k.toNat) q]
        have h2 := rpUpto_len ops k.toNat
        unfold bkB at hb
        simp at hb
        obtain ⟨j, rfl, hj⟩ := pm_nat hb.1.1
        simp at h1 h2 ⊢
        omega
      · simp
    exact e
  have HPl : Hid ((pdL ops k).length ≤ 1000) := by
    have e : (pdL ops k).length ≤ 1000 := by
      have := rpUpto_len ops (upTo ops.length k)
      unfold pdL
      unfold upTo at *
      omega
    exact e
  have HCl : Hid ((rChgL n m l t).length ≤ 2000) := by
    have e : (rChgL n m l t).length ≤ 2000 := by
      have := chgM_len (l.length + t.length) l t
      unfold rChgL
      split
      · omega
      · simp
    exact e
  generalize afL n l ops k keep = A at *
  generalize afN n l ops k = na at *
  generalize afE n l ops k = ea at *
  generalize bkL n l ops k q = Bk at *
  generalize bkE n l ops k q = eb at *
  generalize pdL ops k = Pd at *
  generalize rChgL n m l t = Ch at *
  generalize rSameV n m l t = sm at *
  generalize wholeE na A = wa at *
  generalize wholeE n l = we at *
  clear i1 i2 o1 o2 b1 b2 it hcl hcr hct bl
  have HSc1 := Hid.mk' (show sceneV n p1 l.length cp1 po1 ops.length co1 k ka1 keep.length kc1 q = #[.int .i64 n, .slice p1 l.length cp1, .slice po1 ops.length co1, .int .i64 k, .slice ka1 keep.length kc1, .int .i64 q] from rfl)
  obtain ⟨w0, hw0⟩ : ∃ w0, w0 = ((w.alloc (.cells (sceneV n p1 l.length cp1 po1 ops.length co1 k ka1 keep.length kc1 q) 28)).alloc (.cells (sceneV n p2 l.length cp2 po2 ops.length co2 k ka2 keep.length kc2 q) 28)).alloc (.cells #[.int .i64 m, .slice pt t.length ct] 24) := ⟨_, rfl⟩
  have hS1 : (w.alloc (.cells (sceneV n p1 l.length cp1 po1 ops.length co1 k ka1 keep.length kc1 q) 28)).heap.size = w.heap.size + 1 := by simp
  have hS2 : ((w.alloc (.cells (sceneV n p1 l.length cp1 po1 ops.length co1 k ka1 keep.length kc1 q) 28)).alloc (.cells (sceneV n p2 l.length cp2 po2 ops.length co2 k ka2 keep.length kc2 q) 28)).heap.size = w.heap.size + 2 := by simp
  have hG3 : w0.heap[w.heap.size]? = some (.cells (sceneV n p1 l.length cp1 po1 ops.length co1 k ka1 keep.length kc1 q) 28) := by rw [hw0]; exact heap_kept (heap_kept (heap_alloc_new w _) (below_new _ _)) (below_new _ _)
  have hG4 : w0.heap[w.heap.size + 1]? = some (.cells (sceneV n p2 l.length cp2 po2 ops.length co2 k ka2 keep.length kc2 q) 28) := by
    rw [hw0]
    have := heap_alloc_new (w.alloc (.cells (sceneV n p1 l.length cp1 po1 ops.length co1 k ka1 keep.length kc1 q) 28)) (.cells (sceneV n p2 l.length cp2 po2 ops.length co2 k ka2 keep.length kc2 q) 28)
    rw [hS1] at this
    exact heap_kept this (below_new _ _)
  have hG5 : w0.heap[w.heap.size + 2]? = some (.cells #[.int .i64 m, .slice pt t.length ct] 24) := by
    rw [hw0]
    have := heap_alloc_new ((w.alloc (.cells (sceneV n p1 l.length cp1 po1 ops.length co1 k ka1 keep.length kc1 q) 28)).alloc (.cells (sceneV n p2 l.length cp2 po2 ops.length co2 k ka2 keep.length kc2 q) 28)) (.cells #[.int .i64 m, .slice pt t.length ct] 24)
    rw [hS2] at this
    exact this
  have hB0 : Below w.heap.size w w0 := by rw [hw0]; exact below_next (below_next (below_new _ _) (below_new _ _)) (below_new _ _)
  have HG3 := Hid.mk' hG3
  have HG4 := Hid.mk' hG4
  have HG5 := Hid.mk' hG5
  have HB0 := Hid.mk' hB0
  clear hG3 hG4 hG5 hB0 hS1 hS2
  generalize hL : l.length = L at *
  generalize hO : ops.length = O at *
  generalize hK : keep.length = KL at *
  generalize hT : t.length = T at *
  clear hL hO hK hT
  unfold sceneV at hw0 ⊢
  go_enter Try.func13, Try.ntmps13
  go_upto_region 1 with fail
  rw [← hw0]
  clear hw0
  obtain ⟨a0, a1, a2, a3, a4, a5⟩ := scene_cells HG3.out
  obtain ⟨x0, x1, x2, x3, x4, x5⟩ := scene_cells HG4.out
  have y0 := Joins.cell_of_block HG5.out 0
  have y1 := Joins.cell_of_block HG5.out 1
  go_wp2_with (go_at_call 21; fail)
  clear a0 a1 a2 a3 a4 a5 x0 x1 x2 x3 x4 x5 y0 y1
  refine Calls.mono (HAf.out _ HB0.out) ?_
  rintro e W1 ⟨pa, ca, rfl, hoa, hla, hb⟩
  have HLa := Hid.mk' hla
  have HOa := Hid.mk' hoa
  have THOa := Hid.mk' (fun b hb => (hoa.lt b hb).2)
  have SHOa := Hid.mk' HB0.out.size
  have HZ1 := Hid.mk' hb.size
  have hbv : Below w0.heap.size w0 (W1.alloc (.cells #[.int .i64 na, .slice pa A.length ca] 24)) := below_next hb (below_new W1 _)
  have HG3 := Hid.mk' (heap_kept HG3.out hbv)
  have HG4 := Hid.mk' (heap_kept HG4.out hbv)
  have HG5 := Hid.mk' (heap_kept HG5.out hbv)
  have HOa := Hid.mk' (own_later HOa.out (below_new W1 (.cells #[.int .i64 na, .slice pa A.length ca] 24)))
  have H7 := Hid.mk' (heap_alloc_new W1 (.cells #[.int .i64 na, .slice pa A.length ca] 24))
  have HBn := Hid.mk' (below_next HB0.out hbv)
  clear hbv hb
  have HBB1 := HBn
  clear HBn HB0
  clear hoa hla
  obtain ⟨a0, a1, a2, a3, a4, a5⟩ := scene_cells HG3.out
  obtain ⟨x0, x1, x2, x3, x4, x5⟩ := scene_cells HG4.out
  have y0 := Joins.cell_of_block HG5.out 0
  have y1 := Joins.cell_of_block HG5.out 1
  go_wp2_with (go_at_call 21; fail)
  clear a0 a1 a2 a3 a4 a5 x0 x1 x2 x3 x4 x5 y0 y1
  refine Calls.mono (HAf.out _ HBB1.out) ?_
  rintro e W2 ⟨pb, cb, rfl, hob, _, hb⟩
  have HOb := Hid.mk' hob
  have THOb := Hid.mk' (fun b hb => (hob.lt b hb).2)
  have SHOb := Hid.mk' HBB1.out.size
  have HZ2 := Hid.mk' hb.size
  have hbv : Below (W1.alloc (.cells #[.int .i64 na, .slice pa A.length ca] 24)).heap.size (W1.alloc (.cells #[.int .i64 na, .slice pa A.length ca] 24)) (W2.alloc (.cells #[.int .i64 na, .slice pb A.length cb] 24)) := below_next hb (below_new W2 _)
  have HG3 := Hid.mk' (heap_kept HG3.out hbv)
  have HG4 := Hid.mk' (heap_kept HG4.out hbv)
  have HG5 := Hid.mk' (heap_kept HG5.out hbv)
  have H7 := Hid.mk' (heap_kept H7.out hbv)
  have HOa := Hid.mk' (own_later HOa.out hbv)
  have HOb := Hid.mk' (own_later HOb.out (below_new W2 (.cells #[.int .i64 na, .slice pb A.length cb] 24)))
  have H9 := Hid.mk' (heap_alloc_new W2 (.cells #[.int .i64 na, .slice pb A.length cb] 24))
  have HBn := Hid.mk' (below_next HBB1.out hbv)
  clear hbv hb
  have HBB2 := HBn
  clear HBn HBB1
  clear hob HAf
  obtain ⟨a0, a1, a2, a3, a4, a5⟩ := scene_cells HG3.out
  obtain ⟨x0, x1, x2, x3, x4, x5⟩ := scene_cells HG4.out
  have y0 := Joins.cell_of_block HG5.out 0
  have y1 := Joins.cell_of_block HG5.out 1
  go_wp2_with (go_at_call 40; fail)
  clear a0 a1 a2 a3 a4 a5 x0 x1 x2 x3 x4 x5 y0 y1
  refine Calls.mono (HRa.out _ HBB2.out) ?_
  rintro e W3 ⟨pw, cw, rfl, hiw, hb⟩
  have HZ3 := Hid.mk' hb.size
  have HIw := Hid.mk' hiw
  have hbv : Below (W2.alloc (.cells #[.int .i64 na, .slice pb A.length cb] 24)).heap.size (W2.alloc (.cells #[.int .i64 na, .slice pb A.length cb] 24)) (W3.alloc (.cells #[.int .i64 na, .slice pw A.length cw] 24)) := below_next hb (below_new W3 _)
  have HG3 := Hid.mk' (heap_kept HG3.out hbv)
  have HG4 := Hid.mk' (heap_kept HG4.out hbv)
  have HG5 := Hid.mk' (heap_kept HG5.out hbv)
  have H7 := Hid.mk' (heap_kept H7.out hbv)
  have H9 := Hid.mk' (heap_kept H9.out hbv)
  have HOa := Hid.mk' (own_later HOa.out hbv)
  have HOb := Hid.mk' (own_later HOb.out hbv)
  have HIw := Hid.mk' (ImgAt.later HIw.out (below_new W3 (.cells #[.int .i64 na, .slice pw A.length cw] 24)))
  have H11 := Hid.mk' (heap_alloc_new W3 (.cells #[.int .i64 na, .slice pw A.length cw] 24))
  have HBn := Hid.mk' (below_next HBB2.out hbv)
  clear hbv hb
  have HBB3 := HBn
  clear HBn HBB2
  clear hiw HRa
  go_upto_region 4 with fail
  generalize (W3.alloc (.cells #[.int .i64 na, .slice pw A.length cw] 24)) = V at *
  have h7c0 : ∀ x : Later V, x.val.cell? ⟨W1.heap.size, 0, none⟩ = some (.int .i64 na) := fun x => Joins.cell_of_block ((x.heap W1.heap.size (Array.getElem?_eq_some_iff.1 H7.out).1).trans H7.out) 0
  have h7c1 : ∀ x : Later V, x.val.cell? ⟨W1.heap.size, 1, none⟩ = some (.slice pa A.length ca) := fun x => Joins.cell_of_block ((x.heap W1.heap.size (Array.getElem?_eq_some_iff.1 H7.out).1).trans H7.out) 1
  have h9c0 : ∀ x : Later V, x.val.cell? ⟨W2.heap.size, 0, none⟩ = some (.int .i64 na) := fun x => Joins.cell_of_block ((x.heap W2.heap.size (Array.getElem?_eq_some_iff.1 H9.out).1).trans H9.out) 0
  have h9c1 : ∀ x : Later V, x.val.cell? ⟨W2.heap.size, 1, none⟩ = some (.slice pb A.length cb) := fun x => Joins.cell_of_block ((x.heap W2.heap.size (Array.getElem?_eq_some_iff.1 H9.out).1).trans H9.out) 1
  have h11c0 : ∀ x : Later V, x.val.cell? ⟨W3.heap.size, 0, none⟩ = some (.int .i64 na) := fun x => Joins.cell_of_block ((x.heap W3.heap.size (Array.getElem?_eq_some_iff.1 H11.out).1).trans H11.out) 0
  have h11c1 : ∀ x : Later V, x.val.cell? ⟨W3.heap.size, 1, none⟩ = some (.slice pw A.length cw) := fun x => Joins.cell_of_block ((x.heap W3.heap.size (Array.getElem?_eq_some_iff.1 H11.out).1).trans H11.out) 1
  have hg3c0 : ∀ x : Later V, x.val.cell? ⟨w.heap.size, 0, none⟩ = some (.int .i64 n) := fun x => Joins.cell_of_block ((x.heap w.heap.size (Array.getElem?_eq_some_iff.1 HG3.out).1).trans HG3.out) 0
  have hg3c1 : ∀ x : Later V, x.val.cell? ⟨w.heap.size, 1, none⟩ = some (.slice p1 L cp1) := fun x => Joins.cell_of_block ((x.heap w.heap.size (Array.getElem?_eq_some_iff.1 HG3.out).1).trans HG3.out) 1
  have hg4c0 : ∀ x : Later V, x.val.cell? ⟨(w.heap.size + 1), 0, none⟩ = some (.int .i64 n) := fun x => Joins.cell_of_block ((x.heap (w.heap.size + 1) (Array.getElem?_eq_some_iff.1 HG4.out).1).trans HG4.out) 0
  have hg4c1 : ∀ x : Later V, x.val.cell? ⟨(w.heap.size + 1), 1, none⟩ = some (.slice p2 L cp2) := fun x => Joins.cell_of_block ((x.heap (w.heap.size + 1) (Array.getElem?_eq_some_iff.1 HG4.out).1).trans HG4.out) 1
  have h41 : ∀ (x : Later V) (p q : Option Addr) (cp cq : Nat), ImgAt x.val p A → ImgAt x.val q A → Calls Try.prog 41 #[.agg #[.int .i64 na, .slice p A.length cp], .agg #[.int .i64 na, .slice q A.length cq]] x.val fun e w' => e = .returned (.bool true) ∧ Below x.val.heap.size x.val w' := fun x p q cp cq hp hq => same_one na A p q cp cq x.val (by have := HLa.out; omega) hp hq
  have i7 : ∀ x : Later V, ImgAt x.val pa A := fun x => (img_own HOa.out).later x.below
  have i9 : ∀ x : Later V, ImgAt x.val pb A := fun x => (img_own HOb.out).later x.below
  have i11 : ∀ x : Later V, ImgAt x.val pw A := fun x => HIw.out.later x.below
  have h22 : ∀ x : Later V, Calls Try.prog 22 #[.agg #[.int .i64 n, .slice p1 L cp1]] x.val fun e w' => e = .returned (.int .i64 we) ∧ Below x.val.heap.size x.val w' := fun x => HWh.out _ (below_next HBB3.out x.below)
  have h42 : ∀ x : Later V, Calls Try.prog 42 #[.agg #[.int .i64 n, .slice p2 L cp2]] x.val fun e w' => e = .returned (.int .i64 we) ∧ Below x.val.heap.size x.val w' := fun x => HRw.out _ (below_next HBB3.out x.below)
  have hne := later_some V
  refine wp_region_later (by kernel_rfl) (by kernel_rfl) V (Below.refl _ _) ?_
  repeat (go_big_quiet_step (first | (go_at_call 41; exact Later.call _ (h41 _ _ _ _ _ (by first | exact i7 _ | exact i9 _) (i11 _))) | (go_at_call 22; exact Later.call _ (h22 _)) | (go_at_call 42; exact Later.call _ (h42 _))))
  refine wpQuiet_nil ?_
  rintro _ ⟨x, rfl⟩
  clear h41 i7 i9 i11 h22 h42 hne h7c0 h7c1 h9c0 h9c1 h11c0 h11c1 hg3c0 hg3c1 hg4c0 hg4c1 HWh HRw
  obtain ⟨U, hb⟩ := x
  dsimp only
  have HG3 := Hid.mk' (heap_kept HG3.out hb)
  have HG4 := Hid.mk' (heap_kept HG4.out hb)
  have HG5 := Hid.mk' (heap_kept HG5.out hb)
  have H7 := Hid.mk' (heap_kept H7.out hb)
  have H9 := Hid.mk' (heap_kept H9.out hb)
  have H11 := Hid.mk' (heap_kept H11.out hb)
  have HOa := Hid.mk' (own_later HOa.out hb)
  have HOb := Hid.mk' (own_later HOb.out hb)
  have HIw := Hid.mk' (ImgAt.later HIw.out hb)
  have HBU := Hid.mk' (below_next HBB3.out hb)
  clear HBB3 hb
  obtain ⟨a0, a1, a2, a3, a4, a5⟩ := scene_cells HG3.out
  obtain ⟨x0, x1, x2, x3, x4, x5⟩ := scene_cells HG4.out
  have y0 := Joins.cell_of_block HG5.out 0
  have y1 := Joins.cell_of_block HG5.out 1
  go_wp2_with (go_at_call 24; fail)
  clear a0 a1 a2 a3 a4 a5 x0 x1 x2 x3 x4 x5 y0 y1
  refine Calls.mono (HBk.out _ HBU.out) ?_
  rintro e W4 ⟨v, rfl, hok, hb⟩
  obtain ⟨pk, ck, rfl, _⟩ := own_slice hok
  have HOk := Hid.mk' hok
  have THOk := Hid.mk' (fun b hb => (hok.lt b hb).2)
  have SHOk := Hid.mk' HBU.out.size
  have HZ4 := Hid.mk' hb.size
  have hbv := hb
  have HG3 := Hid.mk' (heap_kept HG3.out hbv)
  have HG4 := Hid.mk' (heap_kept HG4.out hbv)
  have HG5 := Hid.mk' (heap_kept HG5.out hbv)
  have H7 := Hid.mk' (heap_kept H7.out hbv)
  have H9 := Hid.mk' (heap_kept H9.out hbv)
  have H11 := Hid.mk' (heap_kept H11.out hbv)
  have HOa := Hid.mk' (own_later HOa.out hbv)
  have HOb := Hid.mk' (own_later HOb.out hbv)
  have HIw := Hid.mk' (ImgAt.later HIw.out hbv)
  have HBn := Hid.mk' (below_next HBU.out hbv)
  clear hbv hb
  have HBB4 := HBn
  clear HBn HBU
  clear hok
  obtain ⟨a0, a1, a2, a3, a4, a5⟩ := scene_cells HG3.out
  obtain ⟨x0, x1, x2, x3, x4, x5⟩ := scene_cells HG4.out
  have y0 := Joins.cell_of_block HG5.out 0
  have y1 := Joins.cell_of_block HG5.out 1
  go_wp2_with (go_at_call 24; fail)
  clear a0 a1 a2 a3 a4 a5 x0 x1 x2 x3 x4 x5 y0 y1
  refine Calls.mono (HBk.out _ HBB4.out) ?_
  rintro e W5 ⟨v, rfl, hom, hb⟩
  obtain ⟨pm, cm, rfl, _⟩ := own_slice hom
  have HOm := Hid.mk' hom
  have THOm := Hid.mk' (fun b hb => (hom.lt b hb).2)
  have SHOm := Hid.mk' HBB4.out.size
  have HZ5 := Hid.mk' hb.size
  have hbv := hb
  have HG3 := Hid.mk' (heap_kept HG3.out hbv)
  have HG4 := Hid.mk' (heap_kept HG4.out hbv)
  have HG5 := Hid.mk' (heap_kept HG5.out hbv)
  have H7 := Hid.mk' (heap_kept H7.out hbv)
  have H9 := Hid.mk' (heap_kept H9.out hbv)
  have H11 := Hid.mk' (heap_kept H11.out hbv)
  have HOa := Hid.mk' (own_later HOa.out hbv)
  have HOb := Hid.mk' (own_later HOb.out hbv)
  have HOk := Hid.mk' (own_later HOk.out hbv)
  have HIw := Hid.mk' (ImgAt.later HIw.out hbv)
  have HBn := Hid.mk' (below_next HBB4.out hbv)
  clear hbv hb
  have HBB5 := HBn
  clear HBn HBB4
  clear hom HBk
  obtain ⟨a0, a1, a2, a3, a4, a5⟩ := scene_cells HG3.out
  obtain ⟨x0, x1, x2, x3, x4, x5⟩ := scene_cells HG4.out
  have y0 := Joins.cell_of_block HG5.out 0
  have y1 := Joins.cell_of_block HG5.out 1
  go_wp2_with (go_at_call 43; fail)
  clear a0 a1 a2 a3 a4 a5 x0 x1 x2 x3 x4 x5 y0 y1
  refine Calls.mono (HRb.out _ HBB5.out) ?_
  rintro e W6 ⟨v, rfl, hor, hb⟩
  obtain ⟨pr, cr, rfl, _⟩ := own_slice hor
  have HOr := Hid.mk' hor
  have THOr := Hid.mk' (fun b hb => (hor.lt b hb).2)
  have SHOr := Hid.mk' HBB5.out.size
  have HZ6 := Hid.mk' hb.size
  have hbv := hb
  have HG3 := Hid.mk' (heap_kept HG3.out hbv)
  have HG4 := Hid.mk' (heap_kept HG4.out hbv)
  have HG5 := Hid.mk' (heap_kept HG5.out hbv)
  have H7 := Hid.mk' (heap_kept H7.out hbv)
  have H9 := Hid.mk' (heap_kept H9.out hbv)
  have H11 := Hid.mk' (heap_kept H11.out hbv)
  have HOa := Hid.mk' (own_later HOa.out hbv)
  have HOb := Hid.mk' (own_later HOb.out hbv)
  have HOk := Hid.mk' (own_later HOk.out hbv)
  have HOm := Hid.mk' (own_later HOm.out hbv)
  have HIw := Hid.mk' (ImgAt.later HIw.out hbv)
  have HBn := Hid.mk' (below_next HBB5.out hbv)
  clear hbv hb
  have HBB6 := HBn
  clear HBn HBB5
  clear hor HRb
  go_wp2_with (go_at_call 44; fail)
  refine Calls.mono (sameBlocks_one Bk pk pr ck cr _ (by have := HBl.out; omega) (blksO HOk.out) (blksO HOr.out)) ?_
  rintro e W7 ⟨rfl, hb⟩
  have HG3 := Hid.mk' (heap_kept HG3.out hb)
  have HG4 := Hid.mk' (heap_kept HG4.out hb)
  have HG5 := Hid.mk' (heap_kept HG5.out hb)
  have H7 := Hid.mk' (heap_kept H7.out hb)
  have H9 := Hid.mk' (heap_kept H9.out hb)
  have H11 := Hid.mk' (heap_kept H11.out hb)
  have HOa := Hid.mk' (own_later HOa.out hb)
  have HOb := Hid.mk' (own_later HOb.out hb)
  have HOk := Hid.mk' (own_later HOk.out hb)
  have HOm := Hid.mk' (own_later HOm.out hb)
  have HOr := Hid.mk' (own_later HOr.out hb)
  have HIw := Hid.mk' (ImgAt.later HIw.out hb)
  have HBB7 := Hid.mk' (below_next HBB6.out hb)
  clear hb HBB6
  go_wp2_with (go_at_call 44; fail)
  refine Calls.mono (sameBlocks_one Bk pm pr cm cr _ (by have := HBl.out; omega) (blksO HOm.out) (blksO HOr.out)) ?_
  rintro e W8 ⟨rfl, hb⟩
  have HG3 := Hid.mk' (heap_kept HG3.out hb)
  have HG4 := Hid.mk' (heap_kept HG4.out hb)
  have HG5 := Hid.mk' (heap_kept HG5.out hb)
  have H7 := Hid.mk' (heap_kept H7.out hb)
  have H9 := Hid.mk' (heap_kept H9.out hb)
  have H11 := Hid.mk' (heap_kept H11.out hb)
  have HOa := Hid.mk' (own_later HOa.out hb)
  have HOb := Hid.mk' (own_later HOb.out hb)
  have HOk := Hid.mk' (own_later HOk.out hb)
  have HOm := Hid.mk' (own_later HOm.out hb)
  have HOr := Hid.mk' (own_later HOr.out hb)
  have HIw := Hid.mk' (ImgAt.later HIw.out hb)
  have HBB8 := Hid.mk' (below_next HBB7.out hb)
  clear hb HBB7
  clear HOr
  obtain ⟨a0, a1, a2, a3, a4, a5⟩ := scene_cells HG3.out
  obtain ⟨x0, x1, x2, x3, x4, x5⟩ := scene_cells HG4.out
  have y0 := Joins.cell_of_block HG5.out 0
  have y1 := Joins.cell_of_block HG5.out 1
  go_wp2_with (go_at_call 27; fail)
  clear a0 a1 a2 a3 a4 a5 x0 x1 x2 x3 x4 x5 y0 y1
  refine Calls.mono (HPe.out _ HBB8.out) ?_
  rintro e W9 ⟨v, rfl, hop, hb⟩
  obtain ⟨zp, ep, rfl, _⟩ := own_slice hop
  have HIp := Hid.mk' hop
  have THIp := Hid.mk' (fun b hb => (hop.lt b hb).2)
  have SHIp := Hid.mk' HBB8.out.size
  have HZ9 := Hid.mk' hb.size
  have hbv := hb
  have HG3 := Hid.mk' (heap_kept HG3.out hbv)
  have HG4 := Hid.mk' (heap_kept HG4.out hbv)
  have HG5 := Hid.mk' (heap_kept HG5.out hbv)
  have H7 := Hid.mk' (heap_kept H7.out hbv)
  have H9 := Hid.mk' (heap_kept H9.out hbv)
  have H11 := Hid.mk' (heap_kept H11.out hbv)
  have HOa := Hid.mk' (own_later HOa.out hbv)
  have HOb := Hid.mk' (own_later HOb.out hbv)
  have HOk := Hid.mk' (own_later HOk.out hbv)
  have HOm := Hid.mk' (own_later HOm.out hbv)
  have HIw := Hid.mk' (ImgAt.later HIw.out hbv)
  have HBn := Hid.mk' (below_next HBB8.out hbv)
  clear hbv hb
  have HBB9 := HBn
  clear HBn HBB8
  clear hop
  obtain ⟨a0, a1, a2, a3, a4, a5⟩ := scene_cells HG3.out
  obtain ⟨x0, x1, x2, x3, x4, x5⟩ := scene_cells HG4.out
  have y0 := Joins.cell_of_block HG5.out 0
  have y1 := Joins.cell_of_block HG5.out 1
  go_wp2_with (go_at_call 27; fail)
  clear a0 a1 a2 a3 a4 a5 x0 x1 x2 x3 x4 x5 y0 y1
  refine Calls.mono (HPe.out _ HBB9.out) ?_
  rintro e W10 ⟨v, rfl, hoq, hb⟩
  obtain ⟨zq, eq, rfl, _⟩ := own_slice hoq
  have HIq := Hid.mk' hoq
  have THIq := Hid.mk' (fun b hb => (hoq.lt b hb).2)
  have SHIq := Hid.mk' HBB9.out.size
  have HZ10 := Hid.mk' hb.size
  have hbv := hb
  have HG3 := Hid.mk' (heap_kept HG3.out hbv)
  have HG4 := Hid.mk' (heap_kept HG4.out hbv)
  have HG5 := Hid.mk' (heap_kept HG5.out hbv)
  have H7 := Hid.mk' (heap_kept H7.out hbv)
  have H9 := Hid.mk' (heap_kept H9.out hbv)
  have H11 := Hid.mk' (heap_kept H11.out hbv)
  have HOa := Hid.mk' (own_later HOa.out hbv)
  have HOb := Hid.mk' (own_later HOb.out hbv)
  have HOk := Hid.mk' (own_later HOk.out hbv)
  have HOm := Hid.mk' (own_later HOm.out hbv)
  have HIp := Hid.mk' (own_later HIp.out hbv)
  have HIw := Hid.mk' (ImgAt.later HIw.out hbv)
  have HBn := Hid.mk' (below_next HBB9.out hbv)
  clear hbv hb
  have HBB10 := HBn
  clear HBn HBB9
  clear hoq
  obtain ⟨a0, a1, a2, a3, a4, a5⟩ := scene_cells HG3.out
  obtain ⟨x0, x1, x2, x3, x4, x5⟩ := scene_cells HG4.out
  have y0 := Joins.cell_of_block HG5.out 0
  have y1 := Joins.cell_of_block HG5.out 1
  go_wp2_with (go_at_call 28; fail)
  clear a0 a1 a2 a3 a4 a5 x0 x1 x2 x3 x4 x5 y0 y1
  refine Calls.mono (HCh.out _ HBB10.out) ?_
  rintro e W11 ⟨v, rfl, hoc, hb⟩
  obtain ⟨zc, ec, rfl, _⟩ := own_slice hoc
  have HIc := Hid.mk' hoc
  have THIc := Hid.mk' (fun b hb => (hoc.lt b hb).2)
  have SHIc := Hid.mk' HBB10.out.size
  have HZ11 := Hid.mk' hb.size
  have hbv := hb
  have HG3 := Hid.mk' (heap_kept HG3.out hbv)
  have HG4 := Hid.mk' (heap_kept HG4.out hbv)
  have HG5 := Hid.mk' (heap_kept HG5.out hbv)
  have H7 := Hid.mk' (heap_kept H7.out hbv)
  have H9 := Hid.mk' (heap_kept H9.out hbv)
  have H11 := Hid.mk' (heap_kept H11.out hbv)
  have HOa := Hid.mk' (own_later HOa.out hbv)
  have HOb := Hid.mk' (own_later HOb.out hbv)
  have HOk := Hid.mk' (own_later HOk.out hbv)
  have HOm := Hid.mk' (own_later HOm.out hbv)
  have HIp := Hid.mk' (own_later HIp.out hbv)
  have HIq := Hid.mk' (own_later HIq.out hbv)
  have HIw := Hid.mk' (ImgAt.later HIw.out hbv)
  have HBn := Hid.mk' (below_next HBB10.out hbv)
  clear hbv hb
  have HBB11 := HBn
  clear HBn HBB10
  clear hoc
  obtain ⟨a0, a1, a2, a3, a4, a5⟩ := scene_cells HG3.out
  obtain ⟨x0, x1, x2, x3, x4, x5⟩ := scene_cells HG4.out
  have y0 := Joins.cell_of_block HG5.out 0
  have y1 := Joins.cell_of_block HG5.out 1
  go_wp2_with (go_at_call 28; fail)
  clear a0 a1 a2 a3 a4 a5 x0 x1 x2 x3 x4 x5 y0 y1
  refine Calls.mono (HCh.out _ HBB11.out) ?_
  rintro e W12 ⟨v, rfl, hod, hb⟩
  obtain ⟨zd, ed, rfl, _⟩ := own_slice hod
  have HId := Hid.mk' hod
  have THId := Hid.mk' (fun b hb => (hod.lt b hb).2)
  have SHId := Hid.mk' HBB11.out.size
  have HZ12 := Hid.mk' hb.size
  have hbv := hb
  have HG3 := Hid.mk' (heap_kept HG3.out hbv)
  have HG4 := Hid.mk' (heap_kept HG4.out hbv)
  have HG5 := Hid.mk' (heap_kept HG5.out hbv)
  have H7 := Hid.mk' (heap_kept H7.out hbv)
  have H9 := Hid.mk' (heap_kept H9.out hbv)
  have H11 := Hid.mk' (heap_kept H11.out hbv)
  have HOa := Hid.mk' (own_later HOa.out hbv)
  have HOb := Hid.mk' (own_later HOb.out hbv)
  have HOk := Hid.mk' (own_later HOk.out hbv)
  have HOm := Hid.mk' (own_later HOm.out hbv)
  have HIp := Hid.mk' (own_later HIp.out hbv)
  have HIq := Hid.mk' (own_later HIq.out hbv)
  have HIc := Hid.mk' (own_later HIc.out hbv)
  have HIw := Hid.mk' (ImgAt.later HIw.out hbv)
  have HBn := Hid.mk' (below_next HBB11.out hbv)
  clear hbv hb
  have HBB12 := HBn
  clear HBn HBB11
  clear hod
  obtain ⟨a0, a1, a2, a3, a4, a5⟩ := scene_cells HG3.out
  obtain ⟨x0, x1, x2, x3, x4, x5⟩ := scene_cells HG4.out
  have y0 := Joins.cell_of_block HG5.out 0
  have y1 := Joins.cell_of_block HG5.out 1
  go_wp2_with (go_at_call 45; fail)
  clear a0 a1 a2 a3 a4 a5 x0 x1 x2 x3 x4 x5 y0 y1
  refine Calls.mono (HRp.out _ HBB12.out) ?_
  rintro e W13 ⟨v, rfl, hoo, hb⟩
  obtain ⟨zo, eo, rfl, _⟩ := own_slice hoo
  have HIo := Hid.mk' hoo
  have THIo := Hid.mk' (fun b hb => (hoo.lt b hb).2)
  have SHIo := Hid.mk' HBB12.out.size
  have HZ13 := Hid.mk' hb.size
  have hbv := hb
  have HG3 := Hid.mk' (heap_kept HG3.out hbv)
  have HG4 := Hid.mk' (heap_kept HG4.out hbv)
  have HG5 := Hid.mk' (heap_kept HG5.out hbv)
  have H7 := Hid.mk' (heap_kept H7.out hbv)
  have H9 := Hid.mk' (heap_kept H9.out hbv)
  have H11 := Hid.mk' (heap_kept H11.out hbv)
  have HOa := Hid.mk' (own_later HOa.out hbv)
  have HOb := Hid.mk' (own_later HOb.out hbv)
  have HOk := Hid.mk' (own_later HOk.out hbv)
  have HOm := Hid.mk' (own_later HOm.out hbv)
  have HIp := Hid.mk' (own_later HIp.out hbv)
  have HIq := Hid.mk' (own_later HIq.out hbv)
  have HIc := Hid.mk' (own_later HIc.out hbv)
  have HId := Hid.mk' (own_later HId.out hbv)
  have HIw := Hid.mk' (ImgAt.later HIw.out hbv)
  have HBn := Hid.mk' (below_next HBB12.out hbv)
  clear hbv hb
  have HBB13 := HBn
  clear HBn HBB12
  clear hoo
  obtain ⟨a0, a1, a2, a3, a4, a5⟩ := scene_cells HG3.out
  obtain ⟨x0, x1, x2, x3, x4, x5⟩ := scene_cells HG4.out
  have y0 := Joins.cell_of_block HG5.out 0
  have y1 := Joins.cell_of_block HG5.out 1
  go_wp2_with (go_at_call 46; fail)
  clear a0 a1 a2 a3 a4 a5 x0 x1 x2 x3 x4 x5 y0 y1
  refine Calls.mono (HRc.out _ HBB13.out) ?_
  rintro e W14 ⟨v, rfl, hot, hb⟩
  obtain ⟨zt, et, rfl, _⟩ := own_slice hot
  have HIt := Hid.mk' hot
  have THIt := Hid.mk' (fun b hb => (hot.lt b hb).2)
  have SHIt := Hid.mk' HBB13.out.size
  have HZ14 := Hid.mk' hb.size
  have hbv := hb
  have HG3 := Hid.mk' (heap_kept HG3.out hbv)
  have HG4 := Hid.mk' (heap_kept HG4.out hbv)
  have HG5 := Hid.mk' (heap_kept HG5.out hbv)
  have H7 := Hid.mk' (heap_kept H7.out hbv)
  have H9 := Hid.mk' (heap_kept H9.out hbv)
  have H11 := Hid.mk' (heap_kept H11.out hbv)
  have HOa := Hid.mk' (own_later HOa.out hbv)
  have HOb := Hid.mk' (own_later HOb.out hbv)
  have HOk := Hid.mk' (own_later HOk.out hbv)
  have HOm := Hid.mk' (own_later HOm.out hbv)
  have HIp := Hid.mk' (own_later HIp.out hbv)
  have HIq := Hid.mk' (own_later HIq.out hbv)
  have HIc := Hid.mk' (own_later HIc.out hbv)
  have HId := Hid.mk' (own_later HId.out hbv)
  have HIo := Hid.mk' (own_later HIo.out hbv)
  have HIw := Hid.mk' (ImgAt.later HIw.out hbv)
  have HBn := Hid.mk' (below_next HBB13.out hbv)
  clear hbv hb
  have HBB14 := HBn
  clear HBn HBB13
  clear hot
  clear HPe HCh HRp HRc
  go_upto_region 17 with fail
  generalize W14 = V2 at *
  skip
  have h7c0 : ∀ x : Later V2, x.val.cell? ⟨W1.heap.size, 0, none⟩ = some (.int .i64 na) := fun x => Joins.cell_of_block ((x.heap W1.heap.size (Array.getElem?_eq_some_iff.1 H7.out).1).trans H7.out) 0
  have h7c1 : ∀ x : Later V2, x.val.cell? ⟨W1.heap.size, 1, none⟩ = some (.slice pa A.length ca) := fun x => Joins.cell_of_block ((x.heap W1.heap.size (Array.getElem?_eq_some_iff.1 H7.out).1).trans H7.out) 1
  have h9c0 : ∀ x : Later V2, x.val.cell? ⟨W2.heap.size, 0, none⟩ = some (.int .i64 na) := fun x => Joins.cell_of_block ((x.heap W2.heap.size (Array.getElem?_eq_some_iff.1 H9.out).1).trans H9.out) 0
  have h9c1 : ∀ x : Later V2, x.val.cell? ⟨W2.heap.size, 1, none⟩ = some (.slice pb A.length cb) := fun x => Joins.cell_of_block ((x.heap W2.heap.size (Array.getElem?_eq_some_iff.1 H9.out).1).trans H9.out) 1
  have h11c0 : ∀ x : Later V2, x.val.cell? ⟨W3.heap.size, 0, none⟩ = some (.int .i64 na) := fun x => Joins.cell_of_block ((x.heap W3.heap.size (Array.getElem?_eq_some_iff.1 H11.out).1).trans H11.out) 0
  have h11c1 : ∀ x : Later V2, x.val.cell? ⟨W3.heap.size, 1, none⟩ = some (.slice pw A.length cw) := fun x => Joins.cell_of_block ((x.heap W3.heap.size (Array.getElem?_eq_some_iff.1 H11.out).1).trans H11.out) 1
  have hg3c0 : ∀ x : Later V2, x.val.cell? ⟨w.heap.size, 0, none⟩ = some (.int .i64 n) := fun x => Joins.cell_of_block ((x.heap w.heap.size (Array.getElem?_eq_some_iff.1 HG3.out).1).trans HG3.out) 0
  have hg3c1 : ∀ x : Later V2, x.val.cell? ⟨w.heap.size, 1, none⟩ = some (.slice p1 L cp1) := fun x => Joins.cell_of_block ((x.heap w.heap.size (Array.getElem?_eq_some_iff.1 HG3.out).1).trans HG3.out) 1
  have hg4c0 : ∀ x : Later V2, x.val.cell? ⟨(w.heap.size + 1), 0, none⟩ = some (.int .i64 n) := fun x => Joins.cell_of_block ((x.heap (w.heap.size + 1) (Array.getElem?_eq_some_iff.1 HG4.out).1).trans HG4.out) 0
  have hg4c1 : ∀ x : Later V2, x.val.cell? ⟨(w.heap.size + 1), 1, none⟩ = some (.slice p2 L cp2) := fun x => Joins.cell_of_block ((x.heap (w.heap.size + 1) (Array.getElem?_eq_some_iff.1 HG4.out).1).trans HG4.out) 1
  have hg5c0 : ∀ x : Later V2, x.val.cell? ⟨(w.heap.size + 2), 0, none⟩ = some (.int .i64 m) := fun x => Joins.cell_of_block ((x.heap (w.heap.size + 2) (Array.getElem?_eq_some_iff.1 HG5.out).1).trans HG5.out) 0
  have hg5c1 : ∀ x : Later V2, x.val.cell? ⟨(w.heap.size + 2), 1, none⟩ = some (.slice pt T ct) := fun x => Joins.cell_of_block ((x.heap (w.heap.size + 2) (Array.getElem?_eq_some_iff.1 HG5.out).1).trans HG5.out) 1
  obtain ⟨r, hr⟩ : ∃ r, decide (wa = 0) = r := ⟨_, rfl⟩
  rw [hr] at HAs
  have hr2 : (wa == 0) = r := by rw [← hr]; rfl
  clear hr
  have h29 : ∀ (x : Later V2) (zs : List Int) (p q : Option Addr) (cp cq : Nat), IntsAt x.val p zs → IntsAt x.val q zs → zs.length ≤ 2000 → Calls Try.prog 29 #[.slice p zs.length cp, .slice q zs.length cq] x.val fun e w' => e = .returned (.bool true) ∧ Below x.val.heap.size x.val w' := fun x zs p q cp cq hp hq hz => by
    have := sameInts_any zs zs p q cp cq x.val (by omega) hp hq
    rwa [decide_eq_true rfl] at this
  have jp : ∀ x : Later V2, IntsAt x.val zp Pd := fun x => (ints_own HIp.out).later x.below
  have jq : ∀ x : Later V2, IntsAt x.val zq Pd := fun x => (ints_own HIq.out).later x.below
  have jo : ∀ x : Later V2, IntsAt x.val zo Pd := fun x => (ints_own HIo.out).later x.below
  have jc : ∀ x : Later V2, IntsAt x.val zc Ch := fun x => (ints_own HIc.out).later x.below
  have jd : ∀ x : Later V2, IntsAt x.val zd Ch := fun x => (ints_own HId.out).later x.below
  have jt : ∀ x : Later V2, IntsAt x.val zt Ch := fun x => (ints_own HIt.out).later x.below
  have lp : Pd.length ≤ 2000 := by have := HPl.out; omega
  have lc : Ch.length ≤ 2000 := HCl.out
  have h23 : ∀ x : Later V2, Calls Try.prog 23 #[.agg #[.int .i64 n, .slice p1 L cp1], .agg #[.int .i64 m, .slice pt T ct]] x.val fun e w' => e = .returned (.bool sm) ∧ Below x.val.heap.size x.val w' := fun x => HSm.out _ (below_next HBB14.out x.below)
  have h47 : ∀ x : Later V2, Calls Try.prog 47 #[.agg #[.int .i64 n, .slice p2 L cp2], .agg #[.int .i64 m, .slice pt T ct]] x.val fun e w' => e = .returned (.bool sm) ∧ Below x.val.heap.size x.val w' := fun x => HRs.out _ (below_next HBB14.out x.below)
  have h23b : ∀ x : Later V2, Calls Try.prog 23 #[.agg #[.int .i64 na, .slice pb A.length cb], .agg #[.int .i64 na, .slice pa A.length ca]] x.val fun e w' => e = .returned (.bool r) ∧ Below x.val.heap.size x.val w' := fun x => HAs.out _ pb pa cb ca HLa.out ((img_own HOb.out).later x.below) ((img_own HOa.out).later x.below)
  have h42 : ∀ x : Later V2, Calls Try.prog 42 #[.agg #[.int .i64 na, .slice pw A.length cw]] x.val fun e w' => e = .returned (.int .i64 wa) ∧ Below x.val.heap.size x.val w' := fun x => HAw.out _ pw cw HLa.out (HIw.out.later x.below)
  have hne := later_some V2
  refine wp_region_later (by kernel_rfl) (by kernel_rfl) V2 (Below.refl _ _) ?_
  repeat (go_big_quiet_step (first | (go_at_call 29; exact Later.call _ (h29 _ _ _ _ _ _ (by first | exact jp _ | exact jq _ | exact jc _ | exact jd _) (by first | exact jo _ | exact jt _) (by first | exact lp | exact lc))) | (go_at_call_of 23 (Value.agg #[.int .i64 n, .slice p1 L cp1]); exact Later.call _ (h23 _)) | (go_at_call_of 23 (Value.agg #[.int .i64 na, .slice pb A.length cb]); exact Later.call _ (h23b _)) | (go_at_call 47; exact Later.call _ (h47 _)) | (go_at_call 42; exact Later.call _ (h42 _))))
  refine wpQuiet_nil ?_
  rintro _ ⟨x, rfl⟩
  clear h29 jp jq jo jc jd jt lp lc h23 h47 h23b h42 hne hr2 h7c0 h7c1 h9c0 h9c1 h11c0 h11c1 hg3c0 hg3c1 hg4c0 hg4c1 hg5c0 hg5c1 HSm HRs HAw HAs HIo HIt THIo THIt SHIo SHIt
  obtain ⟨U2, hb⟩ := x
  dsimp only
  have HG3 := Hid.mk' (heap_kept HG3.out hb)
  have HG4 := Hid.mk' (heap_kept HG4.out hb)
  have HG5 := Hid.mk' (heap_kept HG5.out hb)
  have H7 := Hid.mk' (heap_kept H7.out hb)
  have H9 := Hid.mk' (heap_kept H9.out hb)
  have H11 := Hid.mk' (heap_kept H11.out hb)
  have HOa := Hid.mk' (own_later HOa.out hb)
  have HOb := Hid.mk' (own_later HOb.out hb)
  have HOk := Hid.mk' (own_later HOk.out hb)
  have HOm := Hid.mk' (own_later HOm.out hb)
  have HIp := Hid.mk' (own_later HIp.out hb)
  have HIq := Hid.mk' (own_later HIq.out hb)
  have HIc := Hid.mk' (own_later HIc.out hb)
  have HId := Hid.mk' (own_later HId.out hb)
  have HIw := Hid.mk' (ImgAt.later HIw.out hb)
  have HBU2 := Hid.mk' (below_next HBB14.out hb)
  clear HBB14 hb HG3 HG4 HG5 H11 HIw
  have k7 := Joins.cell_of_block H7.out 1
  have k9 := Joins.cell_of_block H9.out 1
  clear H7 H9
  go_wp2_with (go_at_call 48; fail)
  clear k7 k9
  obtain ⟨hap, hls⟩ := two_ready (et := 22) HOa.out HOb.out (fun b h1 h2 => by
    have e1 := THOa.out b h1
    have e2 := (HOb.out.lt b h2).1
    simp only [World.alloc, Array.size_push] at e2
    omega)
  refine Calls.mono (apartH_any 2 U2.heap.size (sel2 pa pb) (fun _ => A.length) (sel2 ca cb) _ (fun _ => A) (by omega) (by omega) 2 (fun k _ => ⟨rfl, by have := HLa.out; omega⟩) hap hls) ?_
  rintro e X1 ⟨rfl, hf1⟩
  have hbn := below_new U2 (.cells #[.slice pa A.length ca, .slice pb A.length cb] 22)
  have HOk := Hid.mk' (own_frame (own_later HOk.out hbn) hf1 (fun i hi hT => (two_tv (own_later HOa.out hbn) (own_later HOb.out hbn) hT (Nat.zero_le _) (Nat.zero_le _)).2 (by decide) (own_later HOk.out hbn) hi))
  have HOm := Hid.mk' (own_frame (own_later HOm.out hbn) hf1 (fun i hi hT => (two_tv (own_later HOa.out hbn) (own_later HOb.out hbn) hT (Nat.zero_le _) (Nat.zero_le _)).2 (by decide) (own_later HOm.out hbn) hi))
  have HIp := Hid.mk' (own_frame (own_later HIp.out hbn) hf1 (fun i hi hT => (two_tv (own_later HOa.out hbn) (own_later HOb.out hbn) hT (Nat.zero_le _) (Nat.zero_le _)).2 (by decide) (own_later HIp.out hbn) hi))
  have HIq := Hid.mk' (own_frame (own_later HIq.out hbn) hf1 (fun i hi hT => (two_tv (own_later HOa.out hbn) (own_later HOb.out hbn) hT (Nat.zero_le _) (Nat.zero_le _)).2 (by decide) (own_later HIq.out hbn) hi))
  have HIc := Hid.mk' (own_frame (own_later HIc.out hbn) hf1 (fun i hi hT => (two_tv (own_later HOa.out hbn) (own_later HOb.out hbn) hT (Nat.zero_le _) (Nat.zero_le _)).2 (by decide) (own_later HIc.out hbn) hi))
  have HId := Hid.mk' (own_frame (own_later HId.out hbn) hf1 (fun i hi hT => (two_tv (own_later HOa.out hbn) (own_later HOb.out hbn) hT (Nat.zero_le _) (Nat.zero_le _)).2 (by decide) (own_later HId.out hbn) hi))
  have HBX1 := Hid.mk' (Below.trans (below_next HBU2.out hbn) (Fr.below hf1 (fun i hT => (two_tv (own_later HOa.out hbn) (own_later HOb.out hbn) hT SHOa.out SHOb.out).1) (Nat.le_trans HBU2.out.size hbn.size)))
  clear hbn hap hls hf1 HOa HOb HBU2
  go_wp2_with (go_at_call 49; fail)
  obtain ⟨hap, hls⟩ := two_ready (et := 52) HOk.out HOm.out (fun b h1 h2 => by
    have e1 := THOk.out b h1
    have e2 := (HOm.out.lt b h2).1
    omega)
  refine Calls.mono (apartB_any 2 X1.heap.size (sel2 pk pm) (fun _ => Bk.length) (sel2 ck cm) _ (fun _ => Bk) (by omega) (by omega) 2 (fun k _ => ⟨rfl, by have := HBl.out; omega⟩) hap hls) ?_
  rintro e X2 ⟨rfl, hf2⟩
  have hbn := below_new X1 (.cells #[.slice pk Bk.length ck, .slice pm Bk.length cm] 52)
  have HIp := Hid.mk' (own_frame (own_later HIp.out hbn) hf2 (fun i hi hT => (two_tv (own_later HOk.out hbn) (own_later HOm.out hbn) hT (Nat.zero_le _) (Nat.zero_le _)).2 (by decide) (own_later HIp.out hbn) hi))
  have HIq := Hid.mk' (own_frame (own_later HIq.out hbn) hf2 (fun i hi hT => (two_tv (own_later HOk.out hbn) (own_later HOm.out hbn) hT (Nat.zero_le _) (Nat.zero_le _)).2 (by decide) (own_later HIq.out hbn) hi))
  have HIc := Hid.mk' (own_frame (own_later HIc.out hbn) hf2 (fun i hi hT => (two_tv (own_later HOk.out hbn) (own_later HOm.out hbn) hT (Nat.zero_le _) (Nat.zero_le _)).2 (by decide) (own_later HIc.out hbn) hi))
  have HId := Hid.mk' (own_frame (own_later HId.out hbn) hf2 (fun i hi hT => (two_tv (own_later HOk.out hbn) (own_later HOm.out hbn) hT (Nat.zero_le _) (Nat.zero_le _)).2 (by decide) (own_later HId.out hbn) hi))
  have HBX2 := Hid.mk' (Below.trans (below_next HBX1.out hbn) (Fr.below hf2 (fun i hT => (two_tv (own_later HOk.out hbn) (own_later HOm.out hbn) hT SHOk.out SHOm.out).1) (Nat.le_trans HBX1.out.size hbn.size)))
  clear hbn hap hls hf2 HOk HOm HBX1
  go_wp2_with (go_at_call 50; fail)
  obtain ⟨hap, hls⟩ := four_ready (et := 57) HIp.out HIq.out HIc.out HId.out (fun b h => by have e1 := THIp.out b h; have e2 := HZ10.out; have e3 := HZ11.out; omega) (fun b h => by have e1 := THIq.out b h; have e3 := HZ11.out; omega) (fun b h => by have e1 := THIc.out b h; omega)
  refine Calls.mono (apartI_any 4 X2.heap.size (sel4 zp zq zc zd) (sel4 Pd.length Pd.length Ch.length Ch.length) (sel4 ep eq ec ed) _ (sel4 Pd Pd Ch Ch) (by omega) (by omega) 4 (fun k hk => by
    have h1 := HPl.out
    have h2 := HCl.out
    match k, hk with
    | 0, _ => exact ⟨rfl, Nat.le_trans h1 (by omega)⟩
    | 1, _ => exact ⟨rfl, Nat.le_trans h1 (by omega)⟩
    | 2, _ => exact ⟨rfl, Nat.le_trans h2 (by omega)⟩
    | 3, _ => exact ⟨rfl, Nat.le_trans h2 (by omega)⟩) hap hls) ?_
  rintro e X3 ⟨rfl, hf3⟩
  have hbn := below_new X2 (.cells #[.slice zp Pd.length ep, .slice zq Pd.length eq, .slice zc Ch.length ec, .slice zd Ch.length ed] 57)
  have HBX3 := Hid.mk' (Below.trans (below_next HBX2.out hbn) (Fr.below hf3 (fun i hT => by
    obtain ⟨k, hk, q⟩ := hT
    match k, hk, q with
    | 0, _, q => exact Nat.le_trans SHIp.out (HIp.out.lt _ q).1
    | 1, _, q => exact Nat.le_trans SHIq.out (HIq.out.lt _ q).1
    | 2, _, q => exact Nat.le_trans SHIc.out (HIc.out.lt _ q).1
    | 3, _, q => exact Nat.le_trans SHId.out (HId.out.lt _ q).1) (Nat.le_trans HBX2.out.size hbn.size)))
  clear hbn hap hls hf3
  go_wp2
  go_ret
  exact ⟨rfl, HBX3.out⟩
end Go.Proofs.Ytbnbbelkddbndaa
