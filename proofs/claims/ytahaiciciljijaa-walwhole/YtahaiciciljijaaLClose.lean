/- Sync of a log on a disk that goes, whatever its group holds; Close of a log with nothing to commit: the log is none, and the disk is as it was; no condition. -/
import Derived.Test.YtahaiciciljijaaLRunS
namespace Go.Proofs.Ytahaiciciljijaa
open Go.RowKit Go.Maps
section
variable {w W W' : World} {g d : Nat} {x : LSt} {t : St} {book : Int → Nat → Int} {ks : List (Nat × Obj)}
/-- What a Sync leaves of a log and its disk. -/
def syX (x : LSt) : LSt := if x.blocks = [] then x else { forgotL x with commits := x.commits + 1 }
def syT (x : LSt) (book : Int → Nat → Int) (t : St) : St := if x.blocks = [] then t else runV (cmtOps x book) t
theorem LogI.syncAny {b l i : Int} (h : LogI w W g d x t book ks) (hG : Going b l i x t) (ho : x.opn = false) (hm : t.made ≤ 1000000) (hcm : x.commits < 1000000) :
    Calls Try.prog 25 #[ptr g] W fun e W' => e = .returned (.int .i64 0) ∧ LogI w W' g d (syX x) (syT x book t) book ks := by
  unfold syX syT
  by_cases hb : x.blocks = []
  · rw [if_pos hb, if_pos hb]
    exact h.syncNone (hG.ref ho) hb
  · rw [if_neg hb, if_neg hb]
    have hlen : (x.blocks.length : Int) ≤ x.l - 1 ∧ x.l ≤ 256 := by
      obtain ⟨s, _, hI⟩ := h
      exact ⟨hI.len, hI.fine.2.1⟩
    exact h.syncAll (hG.ref ho) hb (hG.rm hm (by omega)) (by omega) hG.fu
theorem LogI.synced {b l i : Int} (h : LogI w W g d x t book ks) (hG : Going b l i x t) : Going b l i (syX x) (syT x book t) ∧ (syX x).blocks = [] ∧ (syX x).opn = x.opn ∧ (syX x).steps = x.steps ∧ (syX x).commits ≤ x.commits + 1 ∧ (syT x book t).made ≤ t.made + 516 := by
  unfold syX syT
  by_cases hb : x.blocks = []
  · rw [if_pos hb, if_pos hb]
    exact ⟨hG, hb, rfl, rfl, by omega, by omega⟩
  · rw [if_neg hb, if_neg hb]
    have hlen : (x.blocks.length : Int) ≤ x.l - 1 ∧ x.l ≤ 256 := by
      obtain ⟨s, _, hI⟩ := h
      exact ⟨hI.len, hI.fine.2.1⟩
    obtain ⟨_, h2, h3⟩ := h.went hG (x' := { forgotL x with commits := x.commits + 1 }) rfl rfl rfl rfl
    exact ⟨h2, rfl, rfl, rfl, Int.le_refl _, by omega⟩
/-- A log that is none. -/
def lg0 : Array Value := #[.pointer none, .pointer none, .int .i64 0, .int .i64 0, .int .i64 0, .int .i64 0, .int .i64 0, .int .i64 0, .int .i64 0, .int .i64 0, .int .i64 0, .int .i64 0, .pointer none, .slice none 0 0, .map none, .bool false, .int .i64 0, .int .i64 0, .int .i64 0]
theorem size48 : (Try.prog.info? 48).map (·.size) = some lg0.size := by kernel_rfl
theorem lg0_one : lg0.all (·.oneCell') = true := by
  unfold lg0
  simp [Value.oneCell']
/-- A log with nothing to commit is closed. -/
theorem LogI.close (h : LogI w W g d x t book ks) (hr : refL x t false = 0) (hb : x.blocks = []) :
    Calls Try.prog 27 #[ptr g] W fun e W' => e = .returned (.int .i64 0) ∧ NoneAt W' (ptr g) ∧ Sits w W' d t ks := by
  have HS := Hid.mk' (h.syncNone hr hb)
  clear h
  go_enter Try.func27, Try.ntmps27
  go_wp2_with (first | (go_at_call 25; fail))
  refine HS.out.mono ?_
  rintro e W1 ⟨rfl, h1⟩
  obtain ⟨s, h2, _⟩ := h1
  obtain ⟨c, mb, v, h3⟩ := h2.toSits
  obtain ⟨_, _, _, _, h4⟩ := h2
  have hn := (h4.own g (.inl rfl)).1
  have hap : ∀ p ∈ ks, p.1 ≠ g := fun p hp e => h4.ap p hp (.inl e)
  have hrow := (Sits.ctx w d).obj h3 (List.mem_cons_self ..)
  clear HS h4
  unfold ptr
  go_wp2_with (first | (with_reducible refine H.isStore 48 ?_; refine wpList_store_row rfl 48 _ _ rfl g lg0 rfl rfl 48 _ hrow size48 rfl lg0_one ?_))
  go_ret
  have hrow' : (W1.setRow g lg0).heap[g]? = some (.cells lg0 48) := setRow_heap _ _ _ _ _ _ hrow
  refine ⟨rfl, .inr ⟨g, rfl, Joins.cell_of_block hrow' 0⟩, (Sits.ctx w d).side (T := fun k => k = g) h3 (Fr.setRow W1 g _) (fun k e => by subst e; exact ⟨hn, _, List.mem_cons_self ..⟩) fun p hp => ?_⟩
  have k1 := (Sits.ctx w d).obj h3 (q := p.1) (o := p.2) (List.mem_cons_of_mem _ hp)
  exact ⟨((Fr.setRow W1 g _).block p.1 (Array.getElem?_eq_some_iff.1 k1).1 (hap p hp)).trans k1, .inl ⟨p.2, List.mem_cons_of_mem _ hp⟩⟩
end
end Go.Proofs.Ytahaiciciljijaa
