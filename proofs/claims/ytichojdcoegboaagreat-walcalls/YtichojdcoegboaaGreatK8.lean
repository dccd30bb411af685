/- Several texts joined: the log, its cache and its disk, of the program and of the document; no condition. -/
import Derived.Test.YtichojdcoegboaaGreatK7
import Derived.Test.YtichojdcoegboaaGreatK5
import Derived.Deep.DeepAppendWide
import Derived.Deep.Onto
import Derived.OneCell
namespace Go.Proofs.YtichojdcoegboaaGreatW
open Go.RowKit
section
variable {P : Program} {ops : Array Oper} {Q : Exit → Act → World → Prop} {A B : World → Prop} {m : Nat}
section
variable {r : List (Nat × Bool × Oper)} {mm f : Bool} {a : Act} {w w' : World} {o : Oper} {v : Value}
end
end
end Go.Proofs.YtichojdcoegboaaGreatW
namespace Go.Proofs.YtichojdcoegboaaGreatW
open Go.RowKit Go.Maps
section
variable {w W W' : World} {v v' : Value}
theorem append_gen {st e : TypeId} {i : TypeInfo} {z : Value} {size bytes : Nat} (ht : Tryz.prog.underlying st = some (.slice e)) (hi : Tryz.prog.info? e = some i) (hz : i.zero = some z) (hsize : i.size = size) (hby : i.bytes = bytes) (hzs : z.cells.size = size) (hsz : 0 < size)
  {B : Nat} {n : Nat} {xs : List Value} (hown : W.ownsRow B e size v n xs) {ad : Addr} {m c : Nat} {news : List Value} (hm : 0 < m) (hl : news.length = m * size)
  (hnews : ∀ j u, news[j]? = some u → W.cell? (ad.add j) = some u) (h1 : ∀ u ∈ news, u.oneCell' = true) (h63 : n + m ≤ maxLen) (hbytes : ((n + m) + (n + m) / 4 + 192) * bytes ≤ 281474976710656) (hB : B ≤ W.heap.size) (ty : TypeId) :
  ∃ v' w', (Builtin.append_ #[st, st] ty #[v, .slice (some ad) m c]).run Tryz.prog W = .ok v' w' ∧ w'.ownsRow B e size v' (n + m) (xs ++ news) ∧ Fr (fun k => v.ownBlock = some k) W w' ∧ ∀ k, v'.ownBlock = some k → v.ownBlock = some k ∨ W.heap.size ≤ k := by
 obtain ⟨v', w', hr, h2, hg, _⟩ := run_append_own_wide (P := Tryz.prog) W B st ty e i z size bytes ht hi hz hsize hby hzs hsz v n xs hown ad m c news hl hnews h1 h63 hbytes hB
 refine ⟨v', w', hr, h2, Fr.ofGrown hg, fun k hk => ?_⟩
 have hmx : n + m ≤ 9223372036854775807 := by simp only [maxLen] at h63; omega
 have hmb : m * i.bytes ≤ 281474976710656 := by
  rw [hby]
  exact Nat.le_trans (Nat.mul_le_mul_right _ (by omega)) hbytes
 subst hsize
 subst hby
 rcases hown.2 with ⟨rfl, rfl⟩ | ⟨g, cap, cur, rfl, _, hg', hnc, hcm, hcs, htake⟩
 ·rw [run_append_nil (P := Tryz.prog) W st ty e i _ ht hi hz ad m c news hl hnews hm (by omega) hmb] at hr
  injection hr with q1 q2
  rw [← q1] at hk
  injection hk with hk
  exact .inr (by rw [← hk]; exact Nat.le_refl _)
 ·by_cases hroom : n + m ≤ cap
  ·have hfit : n * i.size + news.length ≤ cur.size := by rw [hl, hcs, ← Nat.add_mul]; exact Nat.mul_le_mul_right _ hroom
   rw [run_append_room (P := Tryz.prog) W st ty e i ht hi g n cap cur hg' ad m c news hl hnews h1 hroom hfit] at hr
   injection hr with q1 q2
   rw [← q1] at hk
   exact .inl hk
  ·rw [run_append_grow (P := Tryz.prog) W st ty e i _ ht hi hz ⟨g, 0, none⟩ n cap xs hown.1 (hown.cells (g := g) rfl) ad m c news hl hnews (by omega) (by omega) (growslice_fits_wide (by omega) hbytes)] at hr
   injection hr with q1 q2
   rw [← q1] at hk
   injection hk with hk
   exact .inr (by rw [← hk]; exact Nat.le_refl _)
theorem exec_push {o : Oper} {a : Act} {s y : Operand} {st : TypeId} {ad : Addr} {m c : Nat} (ho : o.op = .call { callee := .builtin .append, args := #[s, y], argTypes := #[st, st] }) (hs : a.eval s = v) (hx : a.eval y = .slice (some ad) m c)
  (hr : (Builtin.append_ #[st, st] o.type #[v, .slice (some ad) m c]).run Tryz.prog W = .ok v' W') : (execOp a.eval o).run Tryz.prog W = .ok (.value v') W' := by
 simp [execOp, ho, resolve, invoke, builtin, hs, hx, hr, Result.andThen]
theorem build30 (c : Cel) (u : World) : (Instr.buildSlice 22 1 #[(0, .agg (celRow c).toArray)]).run Tryz.prog u = .ok (.slice (some ⟨u.heap.size, 0, none⟩) 1 1) (u.alloc (.cells (celRow c).toArray 76)) :=
 build1 22 76 1025 _ _ Tryz.underlying22 Tryz.sizeOf76 (by omega) zero85 (cel_size c) u
section
variable {o : Oper} {a : Act}
theorem exec_slice85 {y : Operand} {c : Cel} (ho : o.op = .buildSlice 22 1 #[(0, y)]) (hy : a.eval y = .agg (celRow c).toArray) : (execOp a.eval o).run Tryz.prog W = .ok (.value (.slice (some ⟨W.heap.size, 0, none⟩) 1 1)) (W.alloc (.cells (celRow c).toArray 76)) := by
 have e := build30 c W
 generalize (celRow c).toArray = Z at *
 simp [execOp, ho, hy, e]
theorem exec_build85 {x y : Operand} {p : Int} {f : Nat → Int} (ho : o.op = .build 76 #[(0, x), (1, y)]) (hx : a.eval x = .int .i64 p) (hy : a.eval y = .agg (blk f)) : (execOp a.eval o).run Tryz.prog W = .ok (.value (.agg (celRow (p, f)).toArray)) W := by
 have e := build85 p f W
 generalize (celRow (p, f)).toArray = Z at *
 generalize blk f = Y at *
 simp [execOp, ho, hx, hy, e]
theorem exec_load85 {x : Operand} {g off : Nat} {c : Cel} (ho : o.op = .load 76 x) (hx : a.eval x = .pointer (some ⟨g, off, none⟩)) (hc : CelAt W g off c) : (execOp a.eval o).run Tryz.prog W = .ok (.value (.agg (celRow c).toArray)) W := by
 have e := load85 hc
 generalize (celRow c).toArray = Z at *
 unfold execOp
 simp only [ho, hx, e, Sem.run_bind, Result.andThen_ok, Sem.run_pure]
theorem wpList_exec {ops : Array Oper} {rest : List Oper} {Q : Exit → Act → World → Prop} {v : Value} {W' : World} (hgd : o.guard = none) (hr : (execOp a.eval o).run Tryz.prog W = .ok (.value v) W') (h : wpList Tryz.prog ops Q rest (a.put o.dst v) W') : wpList Tryz.prog ops Q (o :: rest) a W := by
 refine wpList_plain hgd fun K' hK' => ?_
 unfold Oper.wp
 rw [hr]
 exact hK' _ _ h
end
def HL (B : Nat) (W : World) (v : Value) (l : List Cel) : Prop := W.ownsRow B 76 1025 v l.length (celCells l)
theorem HL.img {B : Nat} {l : List Cel} (h : HL B W v l) : ∃ p c, v = .slice p l.length c ∧ ImgAt W p l ∧ l.length ≤ c ∧ (∀ b off, p = some ⟨b, off, none⟩ → B ≤ b ∧ b < W.heap.size ∧ off = 0) := by
 have h' := h
 rcases h.2 with ⟨h1, h2⟩ | ⟨g, cap, cur, h1, hB, hg, hnc, _, hcs, ht⟩
 ·exact ⟨none, 0, by rw [h1, h2], fun q => by omega, by omega, fun _ _ q => by cases q⟩
 ·have hlt := (Array.getElem?_eq_some_iff.1 hg).1
  subst h1
  refine ⟨some ⟨g, 0, none⟩, cap, rfl, fun _ => ⟨g, 0, rfl, hlt, fun k c hc => ?_⟩, hnc, fun b off q => ?_⟩
  ·have q := cel_at h' (K := 0 + k * 1025) (by omega) hc
   exact q
  ·injection q with q
   injection q with q1 q2
   exact ⟨by omega, by omega, by omega⟩
theorem celCells_snoc (l : List Cel) (c : Cel) : celCells (l ++ [c]) = celCells l ++ celRow c := by simp [celCells]
theorem HL.nil (B : Nat) (W : World) : HL B W (.slice none 0 0) [] := ⟨rfl, .inl ⟨rfl, rfl⟩⟩
theorem HL.push {B : Nat} {l : List Cel} (h : HL B W v l) (hB : B ≤ W.heap.size) (hl : l.length ≤ 100000000) (c : Cel) (ty : TypeId) :
  ∃ v' W', (Builtin.append_ #[22, 22] ty #[v, .slice (some ⟨W.heap.size, 0, none⟩) 1 1]).run Tryz.prog (W.alloc (.cells (celRow c).toArray 76)) = .ok v' W' ∧ HL B W' v' (l ++ [c]) ∧ Below B W W' ∧ Fr (fun k => v.ownBlock = some k) W W' ∧ ∀ k, v'.ownBlock = some k → v.ownBlock = some k ∨ W.heap.size ≤ k := by
 obtain ⟨i0, hi0, hz0, hz1, hz2⟩ := info_parts info85
 have hnews : ∀ j u, (celRow c)[j]? = some u → (W.alloc (.cells (celRow c).toArray 76)).cell? ((⟨W.heap.size, 0, none⟩ : Addr).add j) = some u := fun j u hu => by
  rw [Go.WideShapes.add_plain, Nat.zero_add, cell_of_row _ _ j _ 76 _ (heap_alloc_new W _), List.getElem?_toArray]
  exact hu
 obtain ⟨v', W', hr, h2, h3, h4⟩ := append_gen Tryz.underlying22 hi0 hz0 hz1 hz2 (cel_size (0, nought)) (by omega) (World.ownsRow.alloc h (.cells (celRow c).toArray 76)) (ad := ⟨W.heap.size, 0, none⟩) (m := 1) (c := 1) (news := celRow c) (by omega) (by rw [celRow_len]) hnews (celRow_one c) (by unfold maxLen; omega) (by omega) (by simp only [World.alloc, Array.size_push]; omega) ty
 have hF : Fr (fun k => v.ownBlock = some k) W W' := (Fr.alloc _ W (.cells (celRow c).toArray 76)).trans h3 fun _ _ q => q
 refine ⟨v', W', hr, ?_, hF.below (fun i q => (h.lt i q).1) hB, hF, fun k hk => ?_⟩
 ·unfold HL
  rw [celCells_snoc, List.length_append]
  exact h2
 ·rcases h4 k hk with q | q
  ·exact .inl q
  ·exact .inr (by simp only [World.alloc, Array.size_push] at q; omega)
end
section
variable {α : Type} {en : α → List Value} {sz : Nat}
theorem fml (hr : ∀ x, (en x).length = sz) : ∀ l : List α, (l.flatMap en).length = l.length * sz
 | [] => by simp
 | x :: t => by rw [List.flatMap_cons, List.length_append, hr, fml hr t, List.length_cons, Nat.add_mul, Nat.one_mul, Nat.add_comm]
def putE (cur : Array Value) (off : Nat) (r : List Value) : Array Value := (cur.toList.take off ++ r ++ cur.toList.drop (off + r.length)).toArray
theorem own_set (hr : ∀ x, (en x).length = sz) {B e g n c i : Nat} {w : World} {l : List α} {x : α} (h : w.ownsRow B e sz (.slice (some ⟨g, 0, none⟩) n c) n (l.flatMap en)) (hl : l.length = n) (hi : i < n) :
  ∃ cur, w.heap[g]? = some (.cells cur e) ∧ i * sz + sz ≤ cur.size ∧ (w.setRow g (putE cur (i * sz) (en x))).ownsRow B e sz (.slice (some ⟨g, 0, none⟩) n c) n ((l.set i x).flatMap en) := by
 obtain ⟨_, h2⟩ := h
 rcases h2 with ⟨q, _⟩ | ⟨g', cap, cur, hv, hB, hg, hnc, hcm, hcs, ht⟩
 ·simp at q
 ·injection hv with q1 q2 q3
  injection q1 with q1
  injection q1 with q1
  subst q1; subst q3
  have el : l = l.take i ++ l[i] :: l.drop (i + 1) := by rw [← List.drop_eq_getElem_cons (by omega), List.take_append_drop]
  have es : l.set i x = l.take i ++ x :: l.drop (i + 1) := List.set_eq_take_append_cons_drop.trans (if_pos (by omega))
  have hA : ((l.take i).flatMap en).length = i * sz := by rw [fml hr, List.length_take, Nat.min_eq_left (by omega)]
  have hC : ((l.drop (i + 1)).flatMap en).length = (n - (i + 1)) * sz := by rw [fml hr, List.length_drop, hl]
  have hF : l.flatMap en = (l.take i).flatMap en ++ (en l[i] ++ (l.drop (i + 1)).flatMap en) := by
   conv => lhs; rw [el]
   rw [List.flatMap_append, List.flatMap_cons]
  have hcur : cur.toList = (l.take i).flatMap en ++ (en l[i] ++ ((l.drop (i + 1)).flatMap en ++ cur.toList.drop (n * sz))) := by
   conv => lhs; rw [← List.take_append_drop (n * sz) cur.toList]
   rw [ht, hF, List.append_assoc, List.append_assoc]
  have hmul : i * sz + (sz + (n - (i + 1)) * sz) = n * sz := by
   rw [← Nat.add_assoc, show i * sz + sz = (i + 1) * sz by rw [Nat.add_mul, Nat.one_mul], ← Nat.add_mul]
   congr 1
   omega
  have hle : n * sz ≤ cur.size := by rw [hcs]; exact Nat.mul_le_mul_right _ hnc
  have hne : (l.set i x).flatMap en = (l.take i).flatMap en ++ (en x ++ (l.drop (i + 1)).flatMap en) := by rw [es, List.flatMap_append, List.flatMap_cons]
  generalize (l.take i).flatMap en = A at *
  generalize (l.drop (i + 1)).flatMap en = C at *
  generalize cur.toList.drop (n * sz) = R at *
  have hp : putE cur (i * sz) (en x) = (A ++ (en x ++ (C ++ R))).toArray := by
   unfold putE
   rw [hr, hcur, ← hA, List.take_left, show A.length + sz = (A ++ en l[i]).length by rw [List.length_append, hr], ← List.append_assoc, List.drop_left, List.append_assoc]
  have hcl : cur.size = A.length + (sz + (C.length + R.length)) := by
   rw [← Array.length_toList, hcur, List.length_append, List.length_append, List.length_append, hr]
  refine ⟨cur, hg, by omega, ?_⟩
  rw [hp, hne]
  refine ⟨by rw [List.length_append, List.length_append, hr, hA, hC]; exact hmul, .inr ⟨g, c, _, rfl, hB, setRow_heap _ _ _ _ _ _ hg, hnc, hcm, ?_, ?_⟩⟩
  ·rw [List.size_toArray, List.length_append, List.length_append, List.length_append, hr, ← hcl, hcs]
  ·rw [List.toList_toArray, show n * sz = (A ++ (en x ++ C)).length by rw [List.length_append, List.length_append, hr, hA, hC]; exact hmul.symm, ← List.append_assoc, ← List.append_assoc, ← List.append_assoc, List.take_left]
theorem own_other {B e n g : Nat} {w : World} {v : Value} {xs : List Value} (h : w.ownsRow B e sz v n xs) (hg : v.ownBlock ≠ some g) (cs : Array Value) : (w.setRow g cs).ownsRow B e sz v n xs := by
 obtain ⟨h1, h2⟩ := h
 refine ⟨h1, ?_⟩
 rcases h2 with h2 | ⟨g', cap, cur, rfl, hB, hh, r⟩
 ·exact .inl h2
 ·refine .inr ⟨g', cap, cur, rfl, hB, ?_, r⟩
  rw [setRow_other w g g' cs fun q => hg (by rw [q]; rfl)]
  exact hh
theorem own_later {w w' : World} {base e size : Nat} {v : Value} {n : Nat} {xs : List Value} (h : w.ownsRow base e size v n xs) (hb : Below w.heap.size w w') : w'.ownsRow base e size v n xs := by
 obtain ⟨h1, h2⟩ := h
 refine ⟨h1, ?_⟩
 rcases h2 with h2 | ⟨g, cap, cur, hv, hg, hh, r⟩
 ·exact .inl h2
 ·exact .inr ⟨g, cap, cur, hv, hg, (hb.block g (Array.getElem?_eq_some_iff.1 hh).1).trans hh, r⟩
theorem own_frame {w w' : World} {base e size : Nat} {v : Value} {n : Nat} {xs : List Value} {T : Nat → Prop} (h : w.ownsRow base e size v n xs) (hf : Fr T w w') (hT : ∀ i, v.ownBlock = some i → ¬ T i) : w'.ownsRow base e size v n xs := by
 obtain ⟨h1, h2⟩ := h
 refine ⟨h1, ?_⟩
 rcases h2 with h2 | ⟨g, cap, cur, rfl, hg, hh, r⟩
 ·exact .inl h2
 ·exact .inr ⟨g, cap, cur, rfl, hg, (hf.block g (Array.getElem?_eq_some_iff.1 hh).1 (hT g rfl)).trans hh, r⟩
theorem own_get (hr : ∀ x, (en x).length = sz) {B e g n c i : Nat} {w : World} {l : List α} {x : α} (h : w.ownsRow B e sz (.slice (some ⟨g, 0, none⟩) n c) n (l.flatMap en)) (hx : l[i]? = some x) : ∀ j v, (en x)[j]? = some v → w.cell? ⟨g, i * sz + j, none⟩ = some v := fun j v hv => by
 have hj : j < sz := by have := (List.getElem?_eq_some_iff.1 hv).1; rwa [hr] at this
 have hln := h.1
 rw [fml hr] at hln
 have hi : i < l.length := (List.getElem?_eq_some_iff.1 hx).1
 have hlt : i * sz + j < n * sz := by
  rw [← hln]
  have : (i + 1) * sz ≤ l.length * sz := Nat.mul_le_mul_right _ hi
  rw [Nat.add_mul, Nat.one_mul] at this
  omega
 rw [World.ownsRow.cellAt h _ hlt, fm_get (row := en) (n := sz) hr l i j x hx hj]
 exact hv
theorem own_form {w : World} {B e n : Nat} {v : Value} {xs : List Value} (h : w.ownsRow B e sz v n xs) : (v = .slice none 0 0 ∧ n = 0) ∨ ∃ g c, v = .slice (some ⟨g, 0, none⟩) n c ∧ g < w.heap.size := by
 rcases h.2 with q | ⟨g, c, cur, hv, _, hh, _⟩
 ·exact .inl q
 ·exact .inr ⟨g, c, hv, (Array.getElem?_eq_some_iff.1 hh).1⟩
end
section
variable {α : Type} {en : α → List Value} {e sl sz K gl : Nat} {mk : Nat → Nat → α} {vs : Nat → Value} {ns : Nat → Nat}
end
section
variable {α : Type} {en : α → List Value} {sz e : Nat}
def LiesE (en : α → List Value) (sz : Nat) (w : World) (p : Option Addr) (l : List α) : Prop := 0 < l.length → ∃ b off, p = some ⟨b, off, none⟩ ∧ b < w.heap.size ∧ ∀ k x, l[k]? = some x → ∀ j v, (en x)[j]? = some v → w.cell? ⟨b, off + k * sz + j, none⟩ = some v
theorem own_lies (hr : ∀ x, (en x).length = sz) {B : Nat} {w : World} {p : Option Addr} {c : Nat} {l : List α} (h : w.ownsRow B e sz (.slice p l.length c) l.length (l.flatMap en)) : LiesE en sz w p l := fun h0 => by
 rcases own_form h with ⟨_, q⟩ | ⟨g, c', q, hlt⟩
 ·omega
 ·injection q with q1 q2 q3
  subst q1
  exact ⟨g, 0, rfl, hlt, fun k x hx j v hv => by
   rw [Nat.zero_add]
   exact own_get hr h hx j v hv⟩
theorem own_slice {B n : Nat} {w : World} {v : Value} {xs : List Value} (h : w.ownsRow B e sz v n xs) : ∃ p c, v = .slice p n c ∧ (p = none → n = 0) := by
 rcases own_form h with ⟨q, r⟩ | ⟨g, c', q, hlt⟩
 ·exact ⟨none, 0, by rw [q, r], fun _ => r⟩
 ·exact ⟨_, c', q, fun q => by cases q⟩
end
theorem exec_pushY {o : Oper} {a : Act} {s y : Operand} {st : TypeId} {Y v v' : Value} {W W' : World} (ho : o.op = .call { callee := .builtin .append, args := #[s, y], argTypes := #[st, st] }) (hs : a.eval s = v) (hx : a.eval y = Y)
  (hr : (Builtin.append_ #[st, st] o.type #[v, Y]).run Tryz.prog W = .ok v' W') : (execOp a.eval o).run Tryz.prog W = .ok (.value v') W' := by
 simp [execOp, ho, resolve, invoke, builtin, hs, hx, hr, Result.andThen]
theorem own_pushF {α : Type} {en : α → List Value} {sz e : Nat} {st : TypeId} {i : TypeInfo} {z : Value} {bytes : Nat} (hr : ∀ x, (en x).length = sz) (h1 : ∀ x, ∀ u ∈ en x, u.oneCell' = true) (ht : Tryz.prog.underlying st = some (.slice e)) (hi : Tryz.prog.info? e = some i) (hz : i.zero = some z) (hsize : i.size = sz) (hby : i.bytes = bytes) (hzs : z.cells.size = sz) (hsz : 0 < sz) (hbb : bytes ≤ 2000)
  {B : Nat} {w : World} {v : Value} {l : List α} (h : w.ownsRow B e sz v l.length (l.flatMap en)) (hB : B ≤ w.heap.size) (hn : l.length ≤ 50000000) (x : α) (ty : TypeId) :
  ∃ v' w', (Builtin.append_ #[st, st] ty #[v, .slice (some ⟨w.heap.size, 0, none⟩) 1 1]).run Tryz.prog (w.alloc (.cells (en x).toArray e)) = .ok v' w' ∧ w'.ownsRow B e sz v' (l ++ [x]).length ((l ++ [x]).flatMap en) ∧ Below B w w' ∧ Fr (fun b => v.ownBlock = some b) w w' := by
 have hnews : ∀ j v, (en x)[j]? = some v → (w.alloc (.cells (en x).toArray e)).cell? ((⟨w.heap.size, 0, none⟩ : Addr).add j) = some v := fun j v hv => by
  rw [Go.WideShapes.add_plain, Nat.zero_add, cell_of_row _ _ j _ e _ (heap_alloc_new w _), List.getElem?_toArray]
  exact hv
 have hbt : ((l.length + 1) + (l.length + 1) / 4 + 192) * bytes ≤ 281474976710656 := by
  have : ((l.length + 1) + (l.length + 1) / 4 + 192) * bytes ≤ 62500194 * 2000 := Nat.mul_le_mul (by omega) hbb
  omega
 obtain ⟨v', w', hrun, ho', hf, _⟩ := append_gen (W := w.alloc (.cells (en x).toArray e)) (v := v) ht hi hz hsize hby hzs hsz (World.ownsRow.alloc h (.cells (en x).toArray e)) (ad := ⟨w.heap.size, 0, none⟩) (m := 1) (c := 1) (news := en x) (by omega) (by rw [hr, Nat.one_mul]) hnews (h1 x) (by unfold maxLen; omega) hbt (by simp only [World.alloc, Array.size_push]; omega) ty
 have hF : Fr (fun b => v.ownBlock = some b) w w' := (Fr.alloc _ w (.cells (en x).toArray e)).trans hf fun _ _ q => q
 refine ⟨v', w', hrun, ?_, hF.below (fun j q => (h.lt j q).1) hB, hF⟩
 rw [List.length_append, List.flatMap_append]
 simpa using ho'
theorem own_pushL {α : Type} {en : α → List Value} {sz e : Nat} {st : TypeId} {i : TypeInfo} {z : Value} {bytes : Nat} (hr : ∀ x, (en x).length = sz) (h1 : ∀ x, ∀ u ∈ en x, u.oneCell' = true) (ht : Tryz.prog.underlying st = some (.slice e)) (hi : Tryz.prog.info? e = some i) (hz : i.zero = some z) (hsize : i.size = sz) (hby : i.bytes = bytes) (hzs : z.cells.size = sz) (hsz : 0 < sz) (hbb : bytes ≤ 2000)
  {B : Nat} {w : World} {v : Value} {l : List α} (h : w.ownsRow B e sz v l.length (l.flatMap en)) (hB : B ≤ w.heap.size) (hn : l.length ≤ 50000000) (x : α) (ty : TypeId) :
  ∃ v' w', (Builtin.append_ #[st, st] ty #[v, .slice (some ⟨w.heap.size, 0, none⟩) 1 1]).run Tryz.prog (w.alloc (.cells (en x).toArray e)) = .ok v' w' ∧ w'.ownsRow B e sz v' (l ++ [x]).length ((l ++ [x]).flatMap en) ∧ Below B w w' ∧ Fr (fun b => v.ownBlock = some b) w w' ∧ ∀ k, v'.ownBlock = some k → v.ownBlock = some k ∨ w.heap.size ≤ k := by
 have hnews : ∀ j v, (en x)[j]? = some v → (w.alloc (.cells (en x).toArray e)).cell? ((⟨w.heap.size, 0, none⟩ : Addr).add j) = some v := fun j v hv => by
  rw [Go.WideShapes.add_plain, Nat.zero_add, cell_of_row _ _ j _ e _ (heap_alloc_new w _), List.getElem?_toArray]
  exact hv
 have hbt : ((l.length + 1) + (l.length + 1) / 4 + 192) * bytes ≤ 281474976710656 := by
  have : ((l.length + 1) + (l.length + 1) / 4 + 192) * bytes ≤ 62500194 * 2000 := Nat.mul_le_mul (by omega) hbb
  omega
 obtain ⟨v', w', hrun, ho', hf, hor⟩ := append_gen (W := w.alloc (.cells (en x).toArray e)) (v := v) ht hi hz hsize hby hzs hsz (World.ownsRow.alloc h (.cells (en x).toArray e)) (ad := ⟨w.heap.size, 0, none⟩) (m := 1) (c := 1) (news := en x) (by omega) (by rw [hr, Nat.one_mul]) hnews (h1 x) (by unfold maxLen; omega) hbt (by simp only [World.alloc, Array.size_push]; omega) ty
 have hF : Fr (fun b => v.ownBlock = some b) w w' := (Fr.alloc _ w (.cells (en x).toArray e)).trans hf fun _ _ q => q
 refine ⟨v', w', hrun, ?_, hF.below (fun j q => (h.lt j q).1) hB, hF, fun k hk => ?_⟩
 ·rw [List.length_append, List.flatMap_append]
  simpa using ho'
 ·rcases hor k hk with q | q
  ·exact .inl q
  ·simp only [World.alloc, Array.size_push] at q
   exact .inr (by omega)
theorem rows_apart {W : World} {B B' e e' sz sz' n n' b : Nat} {x v : Value} {xs ys : List Value} (hne : e' ≠ e) (hx : W.ownsRow B e sz x n xs) (hb : x.ownBlock = some b) (hv : W.ownsRow B' e' sz' v n' ys) : v.ownBlock ≠ some b := fun q => by
 obtain ⟨_, hx⟩ := hx
 obtain ⟨_, hv⟩ := hv
 rcases hx with ⟨rfl, _⟩ | ⟨g1, c1, r1, rfl, _, hg1, _⟩
 ·cases hb
 ·rcases hv with ⟨rfl, _⟩ | ⟨g2, c2, r2, rfl, _, hg2, _⟩
  ·cases q
  ·injection hb with hb
   injection q with q
   have e1 : g1 = g2 := by rw [show g1 = b from hb, show g2 = b from q]
   subst e1
   rw [hg1] at hg2
   injection hg2 with hg2
   injection hg2 with _ hg2
   exact hne hg2.symm
theorem own_ne {W : World} {B e sz n g t : Nat} {v : Value} {xs : List Value} {Z : Array Value} (h : W.ownsRow B e sz v n xs) (hg : W.heap[g]? = some (.cells Z t)) (hne : e ≠ t) : v.ownBlock ≠ some g := fun q => by
 obtain ⟨_, h⟩ := h
 rcases h with ⟨rfl, _⟩ | ⟨g1, c1, r1, rfl, _, hg1, _⟩
 ·cases q
 ·injection q with q
  have q' : g1 = g := q
  subst q'
  rw [hg1] at hg
  injection hg with hg
  injection hg with _ hg
  exact hne hg
section
variable {α : Type} {en : α → List Value} {sz : Nat}
end
theorem box_ne {w : World} {g g' t e : Nat} {cs cur : Array Value} (h : w.heap[g]? = some (.cells cs t)) (h' : w.heap[g']? = some (.cells cur e)) (hne : t ≠ e) : g ≠ g' := fun q => by
 subst q
 rw [h] at h'
 injection h' with h'
 injection h' with _ h'
 exact hne h'
section
variable {α : Type} {en : α → List Value} {e sz et : Nat} {W : World}
end
structure RSt where
 n : Int
 held : List Cel
 wait : List Cel
 fused : Bool
 left : Int
 dead : Bool
 ops : List Rec
 count : Int
 seen : Int
 claims : Int
 owner : Int
def rdRow (hv wv ov : Value) (s : RSt) : Array Value := #[.int .i64 s.n, hv, wv, .bool s.fused, .int .i64 s.left, .bool s.dead, ov, .int .i64 s.count, .int .i64 s.seen, .int .i64 s.claims, .int .i64 s.owner]
structure RDAt (w : World) (B g : Nat) (hv wv ov : Value) (s : RSt) : Prop where
 row : w.heap[g]? = some (.cells (rdRow hv wv ov s) 73)
 held : w.ownsRow B 76 1025 hv s.held.length (s.held.flatMap celRow)
 wait : w.ownsRow B 76 1025 wv s.wait.length (s.wait.flatMap celRow)
 ops : w.ownsRow B 98 1026 ov s.ops.length (s.ops.flatMap recCells)
 two : ∀ b, hv.ownBlock = some b → wv.ownBlock ≠ some b
 base : B ≤ g
section
variable {w w' : World} {B g : Nat} {hv wv ov : Value} {s s' : RSt}
theorem RDAt.later (h : RDAt w B g hv wv ov s) (hb : Below w.heap.size w w') : RDAt w' B g hv wv ov s :=
 ⟨heap_kept h.row hb, own_later h.held hb, own_later h.wait hb, own_later h.ops hb, h.two, h.base⟩
theorem RDAt.free (h : RDAt w B g hv wv ov s) (i : Nat) : w.frozen? ⟨g, i, none⟩ = false := Joins.unfrozen_of_block h.row i
theorem RDAt.cells (h : RDAt w B g hv wv ov s) : w.cell? ⟨g, 0, none⟩ = some (.int .i64 s.n) ∧ w.cell? ⟨g, 1, none⟩ = some hv ∧ w.cell? ⟨g, 2, none⟩ = some wv ∧ w.cell? ⟨g, 3, none⟩ = some (.bool s.fused) ∧ w.cell? ⟨g, 4, none⟩ = some (.int .i64 s.left) ∧ w.cell? ⟨g, 5, none⟩ = some (.bool s.dead) ∧ w.cell? ⟨g, 6, none⟩ = some ov ∧ w.cell? ⟨g, 7, none⟩ = some (.int .i64 s.count) ∧ w.cell? ⟨g, 8, none⟩ = some (.int .i64 s.seen) ∧ w.cell? ⟨g, 9, none⟩ = some (.int .i64 s.claims) ∧ w.cell? ⟨g, 10, none⟩ = some (.int .i64 s.owner) :=
 ⟨Joins.cell_of_block h.row 0, Joins.cell_of_block h.row 1, Joins.cell_of_block h.row 2, Joins.cell_of_block h.row 3, Joins.cell_of_block h.row 4, Joins.cell_of_block h.row 5, Joins.cell_of_block h.row 6, Joins.cell_of_block h.row 7, Joins.cell_of_block h.row 8, Joins.cell_of_block h.row 9, Joins.cell_of_block h.row 10⟩
theorem RDAt.set (h : RDAt w B g hv wv ov s) {j : Nat} {u : Value} (hr : (rdRow hv wv ov s).setIfInBounds j u = rdRow hv wv ov s') (h1 : s'.held = s.held) (h2 : s'.wait = s.wait) (h3 : s'.ops = s.ops) : RDAt (w.setCell ⟨g, j, none⟩ u) B g hv wv ov s' := by
 refine ⟨?_, ?_, ?_, ?_, h.two, h.base⟩
 ·rw [heap_setCell_same w g j _ 73 u h.row, hr]
 ·rw [h1]; exact ownsRow_setCell_other h.held (a := ⟨g, j, none⟩) (own_ne h.held h.row (by decide)) u
 ·rw [h2]; exact ownsRow_setCell_other h.wait (a := ⟨g, j, none⟩) (own_ne h.wait h.row (by decide)) u
 ·rw [h3]; exact ownsRow_setCell_other h.ops (a := ⟨g, j, none⟩) (own_ne h.ops h.row (by decide)) u
theorem rLen_any (h : RDAt w B g hv wv ov s) : Calls Tryz.prog 141 #[.pointer (some ⟨g, 0, none⟩)] w fun e w' => e = .returned (.int .i64 s.n) ∧ w' = w := by
 obtain ⟨c0, _⟩ := h.cells
 go_enter Tryz.func141, Tryz.ntmps141
 go_wp2
 go_ret
 exact ⟨rfl, rfl⟩
theorem rMade_any (h : RDAt w B g hv wv ov s) : Calls Tryz.prog 59 #[.pointer (some ⟨g, 0, none⟩)] w fun e w' => e = .returned (.int .i64 s.count) ∧ w' = w := by
 have c7 := h.cells.2.2.2.2.2.2.2.1
 go_enter Tryz.func59, Tryz.ntmps59
 go_wp2
 go_ret
 exact ⟨rfl, rfl⟩
theorem rStopped_any (h : RDAt w B g hv wv ov s) : Calls Tryz.prog 61 #[.pointer (some ⟨g, 0, none⟩)] w fun e w' => e = .returned (.bool s.dead) ∧ w' = w := by
 have c5 := h.cells.2.2.2.2.2.1
 go_enter Tryz.func61, Tryz.ntmps61
 go_wp2
 go_ret
 exact ⟨rfl, rfl⟩
def rClaimed (s : RSt) (n : Int) : Bool := !s.dead && decide (0 < n) && decide (n = s.owner)
theorem rClaimed_any (h : RDAt w B g hv wv ov s) (n : Int) : Calls Tryz.prog 99 #[.pointer (some ⟨g, 0, none⟩), .int .i64 n] w fun e w' => e = .returned (.bool (rClaimed s n)) ∧ w' = w := by
 have c5 := h.cells.2.2.2.2.2.1
 have c10 := h.cells.2.2.2.2.2.2.2.2.2.2
 unfold rClaimed
 cases hd : s.dead
 ·rw [hd] at c5
  by_cases h0 : 0 < n
  ·by_cases h1 : n = s.owner
   ·have e1 : (n == s.owner) = true := by simpa using h1
    have e2 : (!false && decide (0 < n) && decide (n = s.owner)) = true := by rw [decide_eq_true h0, decide_eq_true h1]; rfl
    rw [e2]
    go_enter Tryz.func99, Tryz.ntmps99
    go_wp2
    go_ret
    exact ⟨rfl, rfl⟩
   ·have e1 : (n == s.owner) = false := by simpa using h1
    have e2 : (!false && decide (0 < n) && decide (n = s.owner)) = false := by simp [h1]
    rw [e2]
    clear h1 e2
    go_enter Tryz.func99, Tryz.ntmps99
    go_wp2
    go_ret
    exact ⟨rfl, rfl⟩
  ·have e1 : decide (0 < n) = false := decide_eq_false h0
   have e2 : (!false && decide (0 < n) && decide (n = s.owner)) = false := by simp [h0]
   rw [e2]
   clear h0 e2
   go_enter Tryz.func99, Tryz.ntmps99
   go_wp2
   go_ret
   exact ⟨rfl, rfl⟩
 ·rw [hd] at c5
  go_enter Tryz.func99, Tryz.ntmps99
  go_wp2
  go_ret
  exact ⟨rfl, rfl⟩
def rFuse (s : RSt) (n : Int) : RSt := if s.dead then s else { s with fused := decide (0 ≤ n), left := n }
theorem rFuse_any (h : RDAt w B g hv wv ov s) (n : Int) : Calls Tryz.prog 41 #[.pointer (some ⟨g, 0, none⟩), .int .i64 n] w fun e w' => e = .returned (.tuple #[]) ∧ RDAt w' B g hv wv ov (rFuse s n) ∧ Fr (fun i => i = g) w w' := by
 have c5 := h.cells.2.2.2.2.2.1
 have c3 := h.cells.2.2.2.1
 have f3 := h.free 3
 unfold rFuse
 cases hd : s.dead
 ·rw [hd] at c5
  have H1 := Hid.mk' (h.set (j := 3) (u := .bool (decide (0 ≤ n))) (s' := { s with fused := decide (0 ≤ n) }) rfl rfl rfl rfl)
  have HF1 := Hid.mk' (Fr.setCell w g 3 (.bool (decide (0 ≤ n))))
  have HD := Hid.mk' hd
  clear h hd
  go_enter Tryz.func41, Tryz.ntmps41
  go_upto_region 2 with fail
  clear c3 f3 c5
  generalize w.setCell ⟨g, 3, none⟩ (.bool (decide (0 ≤ n))) = w1 at *
  have c4 := H1.out.cells.2.2.2.2.1
  have f4 := H1.out.free 4
  have H2 := Hid.mk' (H1.out.set (j := 4) (u := .int .i64 n) (s' := { s with fused := decide (0 ≤ n), left := n }) rfl rfl rfl rfl)
  have HF2 := Hid.mk' (HF1.out.trans (Fr.setCell w1 g 4 (.int .i64 n)) fun _ _ q => q)
  clear H1 HF1
  go_wp2
  go_end0
  refine ⟨rfl, ?_, HF2.out⟩
  have e := H2.out
  rw [HD.out] at e
  exact e
 ·rw [hd] at c5
  have HH := Hid.mk' h
  clear h
  go_enter Tryz.func41, Tryz.ntmps41
  go_wp2
  refine bodyPost_ret (results_none rfl _ _ _) rfl ?_
  exact ⟨rfl, HH.out, Fr.refl _ _⟩
def rClaim (s : RSt) : RSt := if s.dead then s else { s with claims := s.claims + 1, owner := s.claims + 1 }
def rClaimN (s : RSt) : Int := if s.dead then 0 else s.claims + 1
theorem rClaim_any (h : RDAt w B g hv wv ov s) (hc : 0 ≤ s.claims ∧ s.claims < 9223372036854775807) : Calls Tryz.prog 97 #[.pointer (some ⟨g, 0, none⟩)] w fun e w' => e = .returned (.int .i64 (rClaimN s)) ∧ RDAt w' B g hv wv ov (rClaim s) ∧ Fr (fun i => i = g) w w' := by
 have c5 := h.cells.2.2.2.2.2.1
 have c9 := h.cells.2.2.2.2.2.2.2.2.2.1
 have f9 := h.free 9
 unfold rClaim rClaimN
 cases hd : s.dead
 ·rw [hd] at c5
  have hw : IntKind.i64.wrap (s.claims + 1) = s.claims + 1 := by rw [IntKind.wrap_i64]; omega
  have H1 := Hid.mk' (h.set (j := 9) (u := .int .i64 (s.claims + 1)) (s' := { s with claims := s.claims + 1 }) rfl rfl rfl rfl)
  have HF1 := Hid.mk' (Fr.setCell w g 9 (.int .i64 (s.claims + 1)))
  have HD := Hid.mk' hd
  clear h hd
  go_enter Tryz.func97, Tryz.ntmps97
  go_upto_region 4 with fail
  clear c9 f9 c5
  generalize w.setCell ⟨g, 9, none⟩ (.int .i64 (s.claims + 1)) = w1 at *
  have c9 := H1.out.cells.2.2.2.2.2.2.2.2.2.1
  have c10 := H1.out.cells.2.2.2.2.2.2.2.2.2.2
  have f10 := H1.out.free 10
  dsimp only at c9 c10
  have H2 := Hid.mk' (H1.out.set (j := 10) (u := .int .i64 (s.claims + 1)) (s' := { s with claims := s.claims + 1, owner := s.claims + 1 }) rfl rfl rfl rfl)
  have HF2 := Hid.mk' (HF1.out.trans (Fr.setCell w1 g 10 (.int .i64 (s.claims + 1))) fun _ _ q => q)
  clear H1 HF1
  go_upto_region 5 with fail
  clear c9 c10 f10
  generalize w1.setCell ⟨g, 10, none⟩ (.int .i64 (s.claims + 1)) = w2 at *
  have c9 := H2.out.cells.2.2.2.2.2.2.2.2.2.1
  dsimp only at c9
  go_wp2
  go_ret
  refine ⟨rfl, ?_, HF2.out⟩
  have e := H2.out
  rw [HD.out] at e
  exact e
 ·rw [hd] at c5
  have HH := Hid.mk' h
  clear h
  go_enter Tryz.func97, Tryz.ntmps97
  go_wp2
  go_ret
  exact ⟨rfl, HH.out, Fr.refl _ _⟩
def rLetsB (s : RSt) : Bool := !(s.fused && decide (s.left = 0))
def rLets (s : RSt) : RSt := if rLetsB s then (if s.fused then { s with left := s.left - 1, count := s.count + 1 } else { s with count := s.count + 1 }) else { s with dead := true }
theorem rLets_any (h : RDAt w B g hv wv ov s) (hl : s.fused = true → 0 ≤ s.left ∧ s.left ≤ 9223372036854775807) (hc : 0 ≤ s.count ∧ s.count < 9223372036854775807) : Calls Tryz.prog 114 #[.pointer (some ⟨g, 0, none⟩)] w fun e w' => e = .returned (.bool (rLetsB s)) ∧ RDAt w' B g hv wv ov (rLets s) ∧ Fr (fun i => i = g) w w' := by
 have c3 := h.cells.2.2.2.1
 have c4 := h.cells.2.2.2.2.1
 have c5 := h.cells.2.2.2.2.2.1
 have c7 := h.cells.2.2.2.2.2.2.2.1
 have f4 := h.free 4
 have f5 := h.free 5
 have f7 := h.free 7
 have hw7 : IntKind.i64.wrap (s.count + 1) = s.count + 1 := by rw [IntKind.wrap_i64]; omega
 unfold rLets rLetsB
 cases hf : s.fused
 ·rw [hf] at c3
  have H1 := Hid.mk' (h.set (j := 7) (u := .int .i64 (s.count + 1)) (s' := { s with count := s.count + 1 }) rfl rfl rfl rfl)
  have HF1 := Hid.mk' (Fr.setCell w g 7 (.int .i64 (s.count + 1)))
  have HD := Hid.mk' hf
  clear h hf hl
  go_enter Tryz.func114, Tryz.ntmps114
  go_wp2
  go_ret
  refine ⟨rfl, ?_, HF1.out⟩
  have e := H1.out
  rw [HD.out] at e
  exact e
 ·rw [hf] at c3
  by_cases h0 : s.left = 0
  ·have H1 := Hid.mk' (h.set (j := 5) (u := .bool true) (s' := { s with dead := true }) rfl rfl rfl rfl)
   have HF1 := Hid.mk' (Fr.setCell w g 5 (.bool true))
   have HD := Hid.mk' hf
   have e0 : (s.left == 0) = true := by simpa using h0
   have HE : Hid ((!(true && decide (s.left = 0))) = false) := by rw [decide_eq_true h0]; exact Hid.mk' rfl
   rw [HE.out]
   clear h hf hl h0 HE
   go_enter Tryz.func114, Tryz.ntmps114
   go_wp2
   go_ret
   refine ⟨rfl, ?_, HF1.out⟩
   have e := H1.out
   rw [HD.out] at e
   exact e
  ·have hl0 := hl hf
   have e0 : (s.left == 0) = false := by simpa using h0
   have HE : Hid ((!(true && decide (s.left = 0))) = true) := by rw [decide_eq_false h0]; exact Hid.mk' rfl
   have hw4 : IntKind.i64.wrap (s.left - 1) = s.left - 1 := by rw [IntKind.wrap_i64]; omega
   have H1 := Hid.mk' (h.set (j := 4) (u := .int .i64 (s.left - 1)) (s' := { s with left := s.left - 1 }) rfl rfl rfl rfl)
   have HF1 := Hid.mk' (Fr.setCell w g 4 (.int .i64 (s.left - 1)))
   have HD := Hid.mk' hf
   rw [HE.out]
   clear h hf hl h0 HE hl0
   go_enter Tryz.func114, Tryz.ntmps114
   go_upto_region 6 with fail
   clear c3 c4 c5 c7 f4 f5 f7
   generalize w.setCell ⟨g, 4, none⟩ (.int .i64 (s.left - 1)) = w1 at *
   have c7 := H1.out.cells.2.2.2.2.2.2.2.1
   have f7 := H1.out.free 7
   dsimp only at c7
   have H2 := Hid.mk' (H1.out.set (j := 7) (u := .int .i64 (s.count + 1)) (s' := { s with left := s.left - 1, count := s.count + 1 }) rfl rfl rfl rfl)
   have HF2 := Hid.mk' (HF1.out.trans (Fr.setCell w1 g 7 (.int .i64 (s.count + 1))) fun _ _ q => q)
   clear H1 HF1
   go_wp2
   go_ret
   refine ⟨rfl, ?_, HF2.out⟩
   have e := H2.out
   rw [HD.out] at e
   exact e
end
end Go.Proofs.YtichojdcoegboaaGreatW
