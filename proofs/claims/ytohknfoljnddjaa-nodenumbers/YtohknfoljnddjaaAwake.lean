/- The laws' own check and what the document's examples say; no condition. -/
import Derived.Test.YtohknfoljnddjaaChk3
import Derived.Test.YtohknfoljnddjaaDec
import Derived.Test.YtohknfoljnddjaaSixty
namespace Go.Proofs.Ytohknfoljnddjaa
open Go.RowKit

/-- What the law's own check answers. -/
def lchk (k l s b : Int) (d : Nat → Int) : Int := if mayV 38 400 k l s b d = false then 4 else 0
set_option maxRecDepth 20000 in
set_option maxHeartbeats 400000 in
theorem lcheck_any (k l s b : Int) (d : Nat → Int) (w : World) (h : NodeOk k l s b d) :
    Calls Try.prog 22 #[.agg (node16 k l s b d)] w fun e' w' => e' = .returned (.int .i64 (lchk k l s b d)) ∧ Below w.heap.size w w' := by
  have hc : ∀ w, Calls Try.prog 19 #[.agg #[.int .i64 400, .int .i64 32, .int .i64 60]] w fun e w' => e = .returned (.tuple #[.agg (lay9 400 32 60 1 33 4 37 1 38), .int .i64 0]) ∧ Below w.heap.size w w' := fun w => by
    have := of_any 400 32 60 w (by unfold I64; omega)
    rwa [show ofV 400 32 60 = .agg (lay9 400 32 60 1 33 4 37 1 38) from by rfl, show ofE 400 32 60 = 0 from by rfl] at this
  have c1 := fun W => check_any 400 32 60 1 33 4 37 1 38 k l s b d W h (by unfold I64; omega)
  rw [show checkE 400 32 60 1 33 4 37 1 38 k l s b d = lchk k l s b d from by unfold checkE lchk; rw [show standsB 400 32 60 1 33 4 37 1 38 = true from by decide]; rfl] at c1
  have z43 : ∀ w, (zeroValue 43).run Try.prog w = .ok (.agg (lay9 0 0 0 0 0 0 0 0 0)) w := fun w =>
    (zero_of_info (show (Try.prog.info? 43).map (fun i => (i.zero, i.size)) = some (some (.agg (lay9 0 0 0 0 0 0 0 0 0)), 9) by kernel_rfl)).1 w
  have H27 : Hid ((Try.prog.info? 27).map (·.size) = some (node16 k l s b d).size) := size27
  have H43 : Hid ((Try.prog.info? 43).map (·.size) = some (lay9 400 32 60 1 33 4 37 1 38).size) := size43
  have HS : Hid ((lay9 0 0 0 0 0 0 0 0 0).size = (lay9 400 32 60 1 33 4 37 1 38).size) := rfl
  have HO : Hid ((lay9 400 32 60 1 33 4 37 1 38).all (·.oneCell') = true) := by show _ = _; simp [lay9, Value.oneCell']
  generalize lchk k l s b d = v at *
  clear h
  generalize node16 k l s b d = N at *
  generalize lay9 400 32 60 1 33 4 37 1 38 = Y at *
  generalize lay9 0 0 0 0 0 0 0 0 0 = O at *
  go_enter Try.func22, Try.ntmps22
  go_wp2_with (first | (go_at_call 19; fail))
  refine (hc _).mono ?_
  rintro e' W1 ⟨rfl, hb1⟩
  have HN : Hid _ := heap_kept (heap_alloc_new w (.cells N 27)) hb1
  have HB : Hid _ := below_next (below_new w (.cells N 27)) hb1
  clear hc hb1
  go_wp2_with (first | refine wpList_stNew 43 rfl _ _ rfl _ _ _ 43 H43.out HS.out HO.out rfl rfl rfl ?_ | refine wpList_ldR 43 Try.underlying43 rfl rfl _ rfl _ rfl _ 43 (0, 0) H43.out (heap_alloc_new _ _) ?_ | refine wpList_ldR 27 Try.underlying27 rfl rfl _ rfl _ rfl _ 27 (0, 0) H27.out (heap_kept HN.out (below_new _ _)) ?_ | (go_at_call 16; fail))
  refine (c1 _).mono ?_
  rintro e' W2 ⟨rfl, hb2⟩
  have HB2 : Hid _ := below_next (below_next HB.out (below_new W1 (.cells Y 43))) hb2
  clear c1 hb2
  go_wp2
  go_ret
  exact ⟨rfl, HB2.out⟩

/-- The bytes of the document's example. -/
def wantF : Nat → Int := upd (upd (upd (upd (upd nought 0 1) 2 1) 4 3) 8 1) 12 39
theorem smallOk : NodeOk 1 1 3 1 (one0 39) := ⟨by omega, by omega, by omega, by omega, fun i => by unfold one0; split <;> omega⟩
theorem want_enc : sameN 64 (encN 1 1 3 1 (one0 39) 12) wantF = true := by decide
theorem want_dec : sameNode (numN wantF 0 2) (numN wantF 2 2) (numN wantF 4 4) (numN wantF 8 4) (decD wantF) 1 1 3 1 (one0 39) = true := by decide
theorem want_chk : lchk 1 1 3 1 (one0 39) = 0 := by decide
theorem want_byte : ∀ i, 0 ≤ wantF i ∧ wantF i ≤ 255 := fun i => by
  unfold wantF upd nought
  repeat' split
  all_goals omega
theorem eq37 (i k l s b i' k' l' s' b' : Int) (w : World) : (Op.equalIn 10000 37 (.agg (statV i k l s b)) (.agg (statV i' k' l' s' b'))).run Try.prog w = .ok (i == i' && (k == k' && (l == l' && (s == s' && b == b')))) w := by
  have hf : Try.prog.underlying 37 = some (.struct (Try.prog.fieldsOf 37)) := by kernel_rfl
  have hp : Try.prog.stoodInHeld 37 = false := by kernel_rfl
  unfold statV
  show (Op.equalIn (9999 + 1) 37 _ _).run Try.prog w = _
  rw [run_equalIn_agg _ _ _ _ _ hf hp]
  simp only [Program.fieldsOf, Try.underlying37, Op.eqFields]
  simp [part, go_sem]
  by_cases h1 : i = i'
  · by_cases h2 : k = k'
    · by_cases h3 : l = l'
      · by_cases h4 : s = s'
        · by_cases h5 : b = b' <;> simp [h1, h2, h3, h4, h5]
        · simp [h4]
      · simp [h3]
    · simp [h2]
  · simp [h1]
set_option maxRecDepth 20000 in
set_option maxHeartbeats 1000000 in
theorem awake_any (w : World) : Calls Try.prog 18 #[] w fun e' w' => e' = .returned (.bool true) ∧ Below w.heap.size w w' := by
  have hsm := small_any
  have hen := fun W => encode_any 1 1 3 1 (one0 39) W smallOk
  have hde := fun W => decode_any wantF W want_byte
  have hck := fun W => lcheck_any 1 1 3 1 (one0 39) W smallOk
  rw [want_chk] at hck
  have hst := fun W => stat_any 5 1 1 3 1 (one0 39) W smallOk
  have q1 := fun W => eq31 (encN 1 1 3 1 (one0 39) 12) wantF W
  rw [want_enc] at q1
  have q2 := fun W => eq27 (numN wantF 0 2) (numN wantF 2 2) (numN wantF 4 4) (numN wantF 8 4) (decD wantF) 1 1 3 1 (one0 39) W
  rw [want_dec] at q2
  change ∀ W, (Op.equalIn 10000 27 (.agg (decN wantF)) (.agg (node16 1 1 3 1 (one0 39)))).run Try.prog W = .ok true W at q2
  have q3 := fun W => eq37 5 1 1 3 1 5 1 1 3 1 W
  have z31 := zero31
  have HW : Hid (rowA (upd (upd (upd (upd (upd (upd (upd (upd (upd (upd (upd (upd (upd nought 0 1) 1 0) 2 1) 3 0) 4 3) 5 0) 6 0) 7 0) 8 1) 9 0) 10 0) 11 0) 12 39) 64 = rowA wantF 64) := rowA_congr fun i hi => by
    unfold wantF upd nought
    repeat' split
    all_goals omega
  have hset := fun f i x => rowA_set f 64 i x
  have hsz := fun f => rowA_size f 64
  generalize encN 1 1 3 1 (one0 39) 12 = E at *
  generalize decN wantF = DN at *
  generalize node16 1 1 3 1 (one0 39) = N at *
  go_enter Try.func18, Try.ntmps18
  go_wp2_with (first | (go_at_call 21; fail))
  refine (hsm _).mono ?_
  rintro e' W1 ⟨rfl, hb1⟩
  go_wp2_with (first | (go_at_call 9; fail))
  refine (hen _).mono ?_
  rintro e' W2 ⟨rfl, hb2⟩
  have HB2 : Hid _ := below_next hb1 hb2
  clear hen hb1 hb2
  go_wp2_with (first | refine wpList_stNew 31 rfl _ _ rfl _ (rowA E 64) _ 31 (by rw [rowA_size]; exact size31) (by simp only [rowA_size]) (row64_one _) rfl rfl rfl ?_ | refine wpList_stNew 31 rfl _ _ rfl _ (rowA wantF 64) _ 31 (by rw [rowA_size]; exact size31) (by simp only [rowA_size]) (row64_one _) rfl (by simp only [World.size_alloc]) (by exact congrArg Value.agg HW.out) ?_ | refine wpList_ldR 31 Try.underlying31 rfl rfl _ rfl _ rfl _ 31 (0, 0) (by rw [rowA_size]; exact size31) (heap_alloc2_old _ _ _) ?_ | refine wpList_ldR 31 Try.underlying31 rfl rfl _ rfl _ rfl _ 31 (0, 0) (by rw [rowA_size]; exact size31) (heap_alloc2_new _ _ _) ?_ | (go_at_call 11; fail))
  refine (hde _).mono ?_
  rintro e' W3 ⟨rfl, hb3⟩
  have HB3 : Hid _ := below_next (bel_al (bel_al HB2.out _) _) hb3
  clear hde hb3 HB2 q1 hset hsz HW
  go_wp2_with (first | (go_at_call 21; fail))
  refine (hsm _).mono ?_
  rintro e' W4 ⟨rfl, hb4⟩
  have HB4 : Hid _ := below_next HB3.out hb4
  clear hb4 HB3
  go_wp2_with (first | (go_at_call 21; fail))
  refine (hsm _).mono ?_
  rintro e' W5 ⟨rfl, hb5⟩
  have HB5 : Hid _ := below_next HB4.out hb5
  clear hb5 HB4 q2
  go_wp2_with (first | (go_at_call 22; fail))
  refine (hck _).mono ?_
  rintro e' W6 ⟨rfl, hb6⟩
  have HB6 : Hid _ := below_next HB5.out hb6
  clear hb6 HB5 hck
  go_wp2_with (first | (go_at_call 21; fail))
  refine (hsm _).mono ?_
  rintro e' W7 ⟨rfl, hb7⟩
  have HB7 : Hid _ := below_next HB6.out hb7
  clear hb7 HB6 hsm
  go_wp2_with (first | (go_at_call 13; fail))
  refine (hst _).mono ?_
  rintro e' W8 ⟨rfl, hb8⟩
  have HB8 : Hid _ := below_next HB7.out hb8
  clear hb8 HB7 hst
  unfold statV at q3 ⊢
  go_wp2
  go_ret
  exact ⟨rfl, HB8.out⟩
end Go.Proofs.Ytohknfoljnddjaa
