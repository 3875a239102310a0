/-
  P2.1, P2.2: ClockDays: for all integers t and day and every window, Day, Slot, Weekday and Valid return what is specified, and the chapter's examples hold; the tied card. Conditions: the row's own (Go's own tables and error values hold what the program's text lays when the call begins).
-/
import Derived.Test.YtkiedopknoekpaaDoorClkP
import Derived.Lib.QuietBelow
namespace Go.Proofs.YtkiedopknoekpaaDoor.clockDays
open Go.ChangeShapes Go.WideShapes Go.ChangeAt Go.RowKit
set_option linter.unusedVariables false

theorem agg_alloc (w : World) (a b : Int) : Below w.heap.size w (w.alloc (.cells #[.int .i64 a, .int .i64 b] 23)) := (Below.refl _ _).alloc (Nat.le_refl _) _

set_option maxRecDepth 100000 in
set_option maxHeartbeats 4000000 in
theorem walk (w : World) (f : Facts w) (a0 : Int) (lo0 : -9223372036854775808 ≤ a0) (hi0 : a0 ≤ 9223372036854775807) (a1 : Int) (lo1 : -9223372036854775808 ≤ a1) (hi1 : a1 ≤ 9223372036854775807) (a2 b2 : Int) (alo2 : -9223372036854775808 ≤ a2) (ahi2 : a2 ≤ 9223372036854775807) (blo2 : -9223372036854775808 ≤ b2) (bhi2 : b2 ≤ 9223372036854775807) :
    Calls Tryd.prog 3 #[.int .i64 a0, .int .i64 a1, .agg #[.int .i64 a2, .int .i64 b2]] w fun e w' => e = .returned (.bool true) ∧ Below w.heap.size w w' := by
  have F := Lib.hid f
  have D1 := fun w => day_any a0 w lo0 hi0
  have D2 := fun w => refDay_any a0 w lo0 hi0
  have S1 := fun w => slot_any a0 w lo0 hi0
  have S2 := fun w => refSlot_any a0 w lo0 hi0
  have W1 := fun w => weekday_any a1 w lo1 hi1
  have W2 := fun w => refWeekday_any a1 w lo1 hi1
  have V1 := fun w => valid_any a2 b2 w alo2 ahi2 blo2 bhi2
  have V2 := fun w => refValid_any a2 b2 w alo2 ahi2 blo2 bhi2
  generalize dayS a0 = d at D1 D2
  generalize slotS a0 = s at S1 S2
  generalize weekdayS a1 = k at W1 W2
  generalize okB (a2, b2) = v at V1 V2
  obtain ⟨d1, d2⟩ := d
  obtain ⟨s1, s2⟩ := s
  obtain ⟨k1, k2⟩ := k
  dsimp only at D1 D2 S1 S2 W1 W2
  have H1 := Lib.hid D1
  have H2 := Lib.hid D2
  have H3 := Lib.hid S1
  have H4 := Lib.hid S2
  have H5 := Lib.hid W1
  have H6 := Lib.hid W2
  have H7 := Lib.hid V1
  have H8 := Lib.hid V2
  have g1 : (d1 == d1) = true := by simp
  have g2 : (d2 == d2) = true := by simp
  have g3 : (s1 == s1) = true := by simp
  have g4 : (s2 == s2) = true := by simp
  have g5 : (k1 == k1) = true := by simp
  have g6 : (k2 == k2) = true := by simp
  have g7 : (v == v) = true := by simp
  clear D1 D2 S1 S2 W1 W2 V1 V2 f
  go_enter Tryd.func3, Tryd.ntmps3
  go_wp2_with fail
  refine (H1.out _).mono ?_
  rintro e w' ⟨rfl, rfl⟩
  go_wp2_with fail
  refine (H2.out _).mono ?_
  rintro e w' ⟨rfl, rfl⟩
  go_wp2_with fail
  refine (H3.out _).mono ?_
  rintro e w' ⟨rfl, rfl⟩
  go_wp2_with fail
  refine (H4.out _).mono ?_
  rintro e w' ⟨rfl, rfl⟩
  go_wp2_with fail
  refine (H5.out _).mono ?_
  rintro e w' ⟨rfl, rfl⟩
  go_wp2_with fail
  refine (H6.out _).mono ?_
  rintro e w' ⟨rfl, rfl⟩
  go_wp2_with fail
  have hW : Below w.heap.size w (w.alloc (.cells #[.int .i64 a2, .int .i64 b2] 23)) := agg_alloc w a2 b2
  have k0 : (w.alloc (.cells #[.int .i64 a2, .int .i64 b2] 23)).cell? ⟨w.heap.size, 0, none⟩ = some (.int .i64 a2) := by rw [World.cell?_alloc_new]; rfl
  have k1 : (w.alloc (.cells #[.int .i64 a2, .int .i64 b2] 23)).cell? ⟨w.heap.size, 1, none⟩ = some (.int .i64 b2) := by rw [World.cell?_alloc_new]; rfl
  generalize w.alloc (.cells #[.int .i64 a2, .int .i64 b2] 23) = W at hW k0 k1 ⊢
  have j0 := cell_regrown k0
  have j1 := cell_regrown k1
  have FA : Hid (∀ d os, Facts (Sort.grow (redrawn W d) os)) := Lib.hid (fun d os => F.out.below (Below.step hW (below_regrown W d os)))
  have HV1 : Hid (∀ w', Calls Tryd.prog 17 #[.agg #[.int .i64 a2, .int .i64 b2]] w' fun e w'' => e = .returned (.bool v) ∧ Below w'.heap.size w' w'') := Lib.hid (fun w' => (H7.out w').mono fun e w'' ⟨he, hw⟩ => ⟨he, hw ▸ agg_alloc w' a2 b2⟩)
  have HV2 : Hid (∀ w', Calls Tryd.prog 18 #[.agg #[.int .i64 a2, .int .i64 b2]] w' fun e w'' => e = .returned (.bool v) ∧ Below w'.heap.size w' w'') := Lib.hid (fun w' => (H8.out w').mono fun e w'' ⟨he, hw⟩ => ⟨he, hw ▸ agg_alloc w' a2 b2⟩)
  clear H7 H8 k0 k1
  refine wp_region_quiet_below (by kernel_rfl) (by kernel_rfl) ?_
  repeat (quiet_step ((first | (go_at_call 17; exact Calls.regrown_of (HV1.out _)) | (go_at_call 18; exact Calls.regrown_of (HV2.out _)) | (go_at_call 19; exact Calls.regrown_of (awake_any _ (FA.out _ _))))))
  refine wpQuiet_nil ?_
  intro _ hw'
  obtain ⟨⟨dq, osq⟩, hw''⟩ := hw'
  subst hw''
  go_wp2
  go_ret
  exact ⟨rfl, Below.step hW (below_regrown W dq osq)⟩

set_option maxRecDepth 100000 in
theorem lifted (os : Os) (started : os.Started) (H : Type) (enc : TypeId × Value → H) (F : Stop.Interp) :
    ReturnsInHanded {} Tryd.checked os 3 .any ((OpenSpec.ofChange Rows.clockDaysSpec).preRow enc Tryd.prog Tryd.f3 Rows.clockDaysRow.domain false Rows.clockDaysRow.laid) (((OpenSpec.ofChange Rows.clockDaysSpec).at F).post enc Tryd.prog Tryd.f3 false true false false) := by
  refine returnsInHanded_of_row (C := Tryd.checked) (s := OpenSpec.ofChange Rows.clockDaysSpec) own started (by kernel_rfl) Tryd.func3
    (ChangeSpec.witness_shaped (enc := enc) (C := Tryd.checked) (os := os) (X := fun w _ => laidMetH Tryd.prog Rows.clockDaysRow.laid w) false (World.laidAll Tryd.prog os Rows.clockDaysRow.laid) #[.int .i64 0, .int .i64 0, .agg #[.int .i64 0, .int .i64 0]] 8 (World.laidAll_os _ _ _)
      (World.shaped_of_ZipB (by kernel_rfl) (by kernel_rfl)) (by kernel_rfl) (by kernel_rfl) (by kernel_rfl)
      (by rw [MakeChecks.laidMetH_plain _ _ _ (by kernel_rfl)]; exact laidMet_laidAll _ (by kernel_rfl) (by kernel_rfl))) ?_
  intro W base args ds gs before hval0 hW _ _ _ hL hsh _
  have hval : ∀ (j : Nat) t v, Tryd.f3.params[j]? = some t → args[j]? = some v → Value.okWide Tryd.prog W .any base t v := hval0
  have hW' := hW
  obtain ⟨p, q, hA0, hV, rfl, hfz, hnd⟩ := hW
  have hA : DataW.TrodAll enc Tryd.prog W 0 (fun _ => true) true Tryd.f3.params.toList args.toList ds p := hA0
  rw [Tryd.params3] at hA hval
  obtain ⟨v0, vs0, d0, ds0, p0, q0, hargs, rfl, rfl, h0, r0⟩ := trodAll_cons hA
  obtain ⟨v1, vs1, d1, ds1, p1, q1, rfl, rfl, rfl, h1, r1⟩ := trodAll_cons r0
  obtain ⟨v2, vs2, d2, ds2, p2, q2, rfl, rfl, rfl, h2, r2⟩ := trodAll_cons r1
  obtain ⟨rfl, rfl, rfl⟩ := trodAll_nil r2
  obtain rfl : args = #[v0, v1, v2] := by cases args; simp_all
  obtain ⟨rfl, rfl⟩ := trodVars_none hV
  obtain ⟨a0, rfl, rfl, rfl, w0⟩ := open_int Tryd.underlying3 (hval 0 3 v0 rfl rfl) h0
  have bd0 := i64_bd w0
  obtain ⟨a1, rfl, rfl, rfl, w1⟩ := open_int Tryd.underlying3 (hval 1 3 v1 rfl rfl) h1
  have bd1 := i64_bd w1
  obtain ⟨a2, b2, rfl, alo2, ahi2, blo2, bhi2⟩ := win_open (hval 2 23 v2 rfl rfl) h2
  clear hA0 hval0
  simp only [List.append_nil] at hW'
  have hlt2 : ∀ x ∈ p2, x.block < W.heap.size := fun x hx => by simpa using hW'.lt x (by simp [hx])
  have hargs2 : ∀ (W' : World), Below W.heap.size W W' → DataW.Trod enc Tryd.prog W' 0 (fun b => decide (b < W.heap.size)) true 23 (.agg #[.int .i64 a2, .int .i64 b2]) d2 p2 := fun W' hn => Below.trod laidOut (by kernel_rfl) (of_decide_eq_true (by kernel_rfl)) h2 hn hlt2
  refine (walk W (facts_of W hL hsh) a0 bd0.1 bd0.2 a1 bd1.1 bd1.2 a2 b2 alo2 ahi2 blo2 bhi2).mono fun e W' ⟨he, hb⟩ => ?_
  subst he
  exact ⟨_, rfl, _, _, _, [], [] ++ ([] ++ (p2 ++ ([]))), [], hW', trodAll_mk1 (shut_bool Tryd.underlying4 _), (trodAll_cons_mk (shut_int Tryd.underlying3 w0) (trodAll_cons_mk (shut_int Tryd.underlying3 w1) (trodAll_cons_mk (hargs2 W' hb) trodAll_mk0))), rfl, hb.frame _, fun h => by cases h⟩

theorem said : Rows.ClockDaysSaid :=
  OpenClaim.holds_of_cond 3 Tryd.f3 rfl rfl rfl rfl rfl rfl rfl ⟨rfl, rfl, rfl, rfl, rfl⟩ rfl rfl rfl rfl rfl (by kernel_rfl) Tryd.func3 (by kernel_rfl)
    (of_decide_eq_true (by kernel_rfl)) (by unfold Func.isWrapper; first | (rw [if_pos (by decide +kernel)]; kernel_rfl) | (rw [if_neg (by decide +kernel)]; exact ⟨rfl, rfl⟩))
    (fun os started H enc _ F => by rw [OpenClaim.pre_eq_preRow]; exact lifted os started H enc F)

theorem plain (f : FuncId) (fn : Func) (hf : Tryd.pinned.checked.prog.funcNamed "bikeshare/bikesharelaw02.ClockDays" = some f) (hfn : Tryd.pinned.checked.prog.funcs[f]? = some fn) :
    true = Tryd.pinned.checked.prog.looks [] ∧ ∀ (j : Nat) t, fn.params[j]? = some t → Tryd.pinned.checked.prog.wantsStandIn t = false := by
  obtain rfl : f = 3 := Option.some.inj ((show Tryd.prog.funcNamed "bikeshare/bikesharelaw02.ClockDays" = some 3 by kernel_rfl).symm.trans hf) |>.symm
  obtain rfl : fn = Tryd.f3 := (Option.some.inj (Tryd.func3.symm.trans hfn)).symm
  refine ⟨by kernel_rfl, fun j t ht => ?_⟩
  rw [Tryd.params3] at ht
  have hm : t ∈ [3, 3, 23] := by simpa using Array.mem_of_getElem? ht
  have hall : ([3, 3, 23].all fun u => !Tryd.prog.wantsStandIn u) = true := by kernel_rfl
  exact (show Tryd.prog.wantsStandIn t = false by simpa using List.all_eq_true.1 hall t hm)

/-- The card. -/
theorem card : Rows.ClockDaysCardSaid :=
  Claim7.holds_tied_plain_at .later [] _ _ _ _ said (fun _ h => by cases h) (by kernel_rfl) (fun _ h => by cases h) clockDays_row_tie rfl ⟨rfl, rfl⟩ (by kernel_rfl) rfl plain (by kernel_rfl)
#print axioms card
end Go.Proofs.YtkiedopknoekpaaDoor.clockDays
