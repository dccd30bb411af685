/- Leaving the row and standing last in it, as the program does; no condition. -/
import Derived.Test.YtencclpcebpgmaaNode
import Derived.Test.YtencclpcebpgmaaOrd
import Derived.BigRegion
namespace Go.Proofs.Ytencclpcebpgmaa
open Go.RowKit

/-- The holdings of S lie in memory as M says. -/
def Nodes (w : World) (M : Nat → Nd) (S : Nat → Prop) : Prop := ∀ g, S g → RowAt w g (M g).pos (M g).fast (ptr (M g).pv) (ptr (M g).nx) (M g).dat
variable {w : World} {M : Nat → Nd} {S : Nat → Prop}
theorem Nodes.setNx (h : Nodes w M S) {g : Nat} (hg : S g) (z : Nat) : Nodes (w.setCell ⟨g, 3, none⟩ (ptr z)) (setNx M g z) S := fun k hk => by
  unfold Go.Proofs.Ytencclpcebpgmaa.setNx setM
  by_cases e : k = g
  · subst e
    rw [if_pos rfl]
    exact (h k hk).set3 (ptr z)
  · rw [if_neg e]
    exact (h k hk).other 3 _ e
theorem Nodes.setPv (h : Nodes w M S) {g : Nat} (hg : S g) (z : Nat) : Nodes (w.setCell ⟨g, 2, none⟩ (ptr z)) (setPv M g z) S := fun k hk => by
  unfold Go.Proofs.Ytencclpcebpgmaa.setPv setM
  by_cases e : k = g
  · subst e
    rw [if_pos rfl]
    exact (h k hk).set2 (ptr z)
  · rw [if_neg e]
    exact (h k hk).other 2 _ e
theorem Nodes.kept {w' : World} (h : Nodes w M S) (hb : ∀ g, S g → w'.heap[g]? = w.heap[g]?) : Nodes w' M S := fun g hg => (hb g hg).trans (h g hg)
theorem Nodes.mono {S' : Nat → Prop} (h : Nodes w M S) (hs : ∀ g, S' g → S g) : Nodes w M S' := fun g hg => h g (hs g hg)
set_option maxHeartbeats 1000000 in
theorem leave_of (hN : Nodes w M S) {h : Nat} (hh : S h) (hp : S (M h).pv) (hn : S (M h).nx) :
    Calls Try.prog 63 #[ptr h] w fun e w' => e = .returned (.tuple #[]) ∧ Nodes w' (leaveM M h) S ∧ Fr (fun k => k = (M h).pv ∨ k = (M h).nx) w w' := by
  have k2 := (hN h hh).c2
  have k3 := (hN h hh).c3
  have p3 := (hN _ hp).c3
  have fp := (hN _ hp).free 3
  have n2 := (hN _ hn).c2
  have fn := (hN _ hn).free 2
  have N1 : Nodes ((w.setCell ⟨(M h).pv, 3, none⟩ (ptr (M h).nx)).setCell ⟨(M h).nx, 2, none⟩ (ptr (M h).pv)) (leaveM M h) S := (hN.setNx hp _).setPv hn _
  have F1 : Fr (fun k => k = (M h).pv ∨ k = (M h).nx) w ((w.setCell ⟨(M h).pv, 3, none⟩ (ptr (M h).nx)).setCell ⟨(M h).nx, 2, none⟩ (ptr (M h).pv)) := by
    refine ((Fr.setCell w (M h).pv 3 (ptr (M h).nx)).mono (T' := fun k => k = (M h).pv ∨ k = (M h).nx) fun _ _ q => .inl q).trans (Fr.setCell _ (M h).nx 2 (ptr (M h).pv)) fun _ _ q => .inr q
  have HN : Hid (Nodes _ (leaveM M h) S) := N1
  have HF : Hid (Fr _ w _) := F1
  clear N1 F1 hN
  generalize leaveM M h = M' at *
  generalize (M h).pv = P at *
  generalize (M h).nx = X at *
  unfold ptr at *
  go_enter Try.func63, Try.ntmps63
  go_wp2_with (fail)
  go_region
  go_end0
  exact ⟨rfl, HN.out, HF.out.trans (Fr.drew (T := fun _ => False) _) fun _ _ q => q.elim⟩
set_option maxHeartbeats 1000000 in
/-- h stands with anything where its neighbours do. -/
theorem stand_of (hN : Nodes w M S) {h e : Nat} {n : Nd} {p q : Value} (hS : ¬ S h) (he : S e) (hz : S (M e).pv) (hh : RowAt w h n.pos n.fast p q n.dat) :
    Calls Try.prog 65 #[ptr h, ptr e] w fun x w' => x = .returned (.tuple #[]) ∧ Nodes w' (standM (setM M h n) h e) (fun k => k = h ∨ S k) ∧ Fr (fun k => k = h ∨ k = e ∨ k = (M e).pv) w w' := by
  have hhe : h ≠ e := fun q => hS (q ▸ he)
  have hhz : h ≠ (M e).pv := fun q => hS (q ▸ hz)
  have e2 := (hN e he).c2
  have fe := (hN e he).free 2
  have z3 := (hN _ hz).c3
  have fz := (hN _ hz).free 3
  have h2 := hh.c2
  have h3 := hh.c3
  have f2 := hh.free 2
  have f3 := hh.free 3
  have eM : (setM M h n e) = M e := by unfold setM; rw [if_neg (Ne.symm hhe)]
  have e1 : ∀ k, k ≠ h → setM M h n k = M k := fun k hk => by unfold setM; rw [if_neg hk]
  have N1 : Nodes ((((w.setCell ⟨h, 2, none⟩ (ptr (M e).pv)).setCell ⟨h, 3, none⟩ (ptr e)).setCell ⟨(M e).pv, 3, none⟩ (ptr h)).setCell ⟨e, 2, none⟩ (ptr h)) (standM (setM M h n) h e) (fun k => k = h ∨ S k) := by
    unfold standM
    rw [eM]
    refine Nodes.setPv (Nodes.setNx ?_ (.inr hz) _) (.inr he) _
    rintro k (rfl | hk)
    · have := (hh.set2 (ptr (M e).pv)).set3 (ptr e)
      have e3 : setNx (setPv (setM M k n) k (M e).pv) k e k = { n with pv := (M e).pv, nx := e } := by unfold setNx setPv setM; simp
      rw [e3]
      exact this
    · have hk' : k ≠ h := fun q => hS (q ▸ hk)
      have e3 : setNx (setPv (setM M h n) h (M e).pv) h e k = M k := by unfold setNx setPv setM; simp [hk']
      rw [e3]
      exact ((hN k hk).other 2 _ hk').other 3 _ hk'
  have F1 : Fr (fun k => k = h ∨ k = e ∨ k = (M e).pv) w ((((w.setCell ⟨h, 2, none⟩ (ptr (M e).pv)).setCell ⟨h, 3, none⟩ (ptr e)).setCell ⟨(M e).pv, 3, none⟩ (ptr h)).setCell ⟨e, 2, none⟩ (ptr h)) := by
    have a1 := (Fr.setCell w h 2 (ptr (M e).pv)).mono (T' := fun k => k = h ∨ k = e ∨ k = (M e).pv) fun _ _ q => .inl q
    have a2 := a1.trans (Fr.setCell _ h 3 (ptr e)) fun _ _ q => .inl q
    have a3 := a2.trans (Fr.setCell _ (M e).pv 3 (ptr h)) fun _ _ q => .inr (.inr q)
    exact a3.trans (Fr.setCell _ e 2 (ptr h)) fun _ _ q => .inr (.inl q)
  have HN : Hid (Nodes _ _ _) := N1
  have HF : Hid (Fr _ w _) := F1
  clear N1 F1 hN eM e1 hh
  generalize standM (setM M h n) h e = M' at *
  generalize (M e).pv = Z at *
  unfold ptr at *
  go_enter Try.func65, Try.ntmps65
  go_wp2
  go_end0
  exact ⟨rfl, HN.out, HF.out⟩
end Go.Proofs.Ytencclpcebpgmaa
