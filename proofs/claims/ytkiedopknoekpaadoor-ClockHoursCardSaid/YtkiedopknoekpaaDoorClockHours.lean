/-
  P2.1, P2.8: ClockHours: for every integer, an hour later the hour of the week is the next one, and a week later it is the same, within the moments; Day, Weekday and Slot agree, and the chapter's examples hold; the tied card. Conditions: the row's own (Go's own tables and error values hold what the program's text lays when the call begins).
-/
import Derived.Test.YtkiedopknoekpaaDoorClkP
namespace Go.Proofs.YtkiedopknoekpaaDoor.clockHours
open Go.ChangeShapes Go.WideShapes Go.ChangeAt Go.RowKit
set_option linter.unusedVariables false

theorem slotS_nat (t : Int) (h0 : 0 ≤ t) (h1 : t ≤ 4294943999) : slotS t = (t / 3600 % 168, 0) := by
  have : 0 ≤ t ∧ t ≤ 4294943999 := ⟨h0, h1⟩
  simp [slotS, momB, this]
theorem dayS_nat (t : Int) (h0 : 0 ≤ t) (h1 : t ≤ 4294943999) : dayS t = (t / 86400, 0) := by
  have : 0 ≤ t ∧ t ≤ 4294943999 := ⟨h0, h1⟩
  simp [dayS, momB, this]
theorem weekdayS_nat (d : Int) (h0 : 0 ≤ d) (h1 : d ≤ 49709) : weekdayS d = (d % 7, 0) := if_pos ⟨h0, h1⟩

set_option maxRecDepth 100000 in
set_option maxHeartbeats 4000000 in
theorem walk (w : World) (f : Facts w) (a0 : Int) (lo0 : -9223372036854775808 ≤ a0) (hi0 : a0 ≤ 9223372036854775807) :
    Calls Tryd.prog 9 #[.int .i64 a0] w fun e w' => e = .returned (.bool true) ∧ Below w.heap.size w w' := by
  have F := Lib.hid f
  cases hm : momB a0
  · have hb := momB_false hm
    have S1 : Hid (∀ w, Calls Tryd.prog 13 #[.int .i64 a0] w fun e w' => e = .returned (.tuple #[.int .i64 0, .int .i64 1]) ∧ w = w') := Lib.hid (fun w => by
      have := slot_any a0 w lo0 hi0
      rwa [show slotS a0 = (0, 1) by simp [slotS, hm]] at this)
    have D1 : Hid (∀ w, Calls Tryd.prog 11 #[.int .i64 a0] w fun e w' => e = .returned (.tuple #[.int .i64 0, .int .i64 1]) ∧ w = w') := Lib.hid (fun w => by
      have := day_any a0 w lo0 hi0
      rwa [show dayS a0 = (0, 1) by simp [dayS, hm]] at this)
    clear f hm
    by_cases c0 : a0 < 0
    · go_enter Tryd.func9, Tryd.ntmps9
      go_wp2_with fail
      refine (S1.out _).mono ?_
      rintro e w' ⟨rfl, rfl⟩
      go_wp2_with fail
      refine (D1.out _).mono ?_
      rintro e w' ⟨rfl, rfl⟩
      go_wp2_with fail
      refine (awake_any _ F.out).mono ?_
      rintro e w1 ⟨rfl, hb1⟩
      go_wp2_with fail
      go_ret
      exact ⟨rfl, hb1⟩
    · have c1 : 4294943999 < a0 := by omega
      go_enter Tryd.func9, Tryd.ntmps9
      go_wp2_with fail
      refine (S1.out _).mono ?_
      rintro e w' ⟨rfl, rfl⟩
      go_wp2_with fail
      refine (D1.out _).mono ?_
      rintro e w' ⟨rfl, rfl⟩
      go_wp2_with fail
      refine (awake_any _ F.out).mono ?_
      rintro e w1 ⟨rfl, hb1⟩
      go_wp2_with fail
      go_ret
      exact ⟨rfl, hb1⟩
  · obtain ⟨h0, h1⟩ := momB_true hm
    obtain ⟨n, hn⟩ : ∃ n, a0 / 3600 % 168 = n := ⟨_, rfl⟩
    obtain ⟨d, hd⟩ : ∃ n, a0 / 86400 = n := ⟨_, rfl⟩
    obtain ⟨k, hk⟩ : ∃ n, d % 7 = n := ⟨_, rfl⟩
    have S1 : Hid (∀ w, Calls Tryd.prog 13 #[.int .i64 a0] w fun e w' => e = .returned (.tuple #[.int .i64 n, .int .i64 0]) ∧ w = w') := Lib.hid (fun w => by
      have := slot_any a0 w lo0 hi0
      rwa [slotS_nat a0 h0 h1, hn] at this)
    have D1 : Hid (∀ w, Calls Tryd.prog 11 #[.int .i64 a0] w fun e w' => e = .returned (.tuple #[.int .i64 d, .int .i64 0]) ∧ w = w') := Lib.hid (fun w => by
      have := day_any a0 w lo0 hi0
      rwa [dayS_nat a0 h0 h1, hd] at this)
    have W1 : Hid (∀ w, Calls Tryd.prog 15 #[.int .i64 d] w fun e w' => e = .returned (.tuple #[.int .i64 k, .int .i64 0]) ∧ w = w') := Lib.hid (fun w => by
      have := weekday_any d w (by omega) (by omega)
      rwa [weekdayS_nat d (by omega) (by omega), hk] at this)
    obtain ⟨n2, hn2⟩ : ∃ n2, (if n = 167 then 0 else n + 1) = n2 := ⟨_, rfl⟩
    have S2 : Hid (a0 + 3600 ≤ 4294943999 → ∀ w, Calls Tryd.prog 13 #[.int .i64 (a0 + 3600)] w fun e w' => e = .returned (.tuple #[.int .i64 n2, .int .i64 0]) ∧ w = w') := Lib.hid (fun hh w => by
      have := slot_any (a0 + 3600) w (by omega) (by omega)
      rwa [slotS_nat (a0 + 3600) (by omega) hh, show (a0 + 3600) / 3600 % 168 = n2 by rw [← hn2]; split <;> omega] at this)
    have S3 : Hid (a0 + 604800 ≤ 4294943999 → ∀ w, Calls Tryd.prog 13 #[.int .i64 (a0 + 604800)] w fun e w' => e = .returned (.tuple #[.int .i64 n, .int .i64 0]) ∧ w = w') := Lib.hid (fun hh w => by
      have := slot_any (a0 + 604800) w (by omega) (by omega)
      rwa [slotS_nat (a0 + 604800) (by omega) hh, show (a0 + 604800) / 3600 % 168 = n by omega] at this)
    have g0 : 0 ≤ n := by omega
    have g1 : n < 168 := by omega
    have gk : (k == n / 24) = true := by rw [beq_iff_eq]; omega
    have gk2 : k = n / 24 := by omega
    have g2 : ¬ a0 < d * 86400 := by omega
    have g2' : d * 86400 ≤ a0 := by omega
    have g3 : a0 - d * 86400 < 86400 := by omega
    have gd0 : 0 ≤ d := by omega
    have gd1 : d ≤ 49709 := by omega
    have gn2 : n2 = (n + 1) % 168 := by rw [← hn2]; split <;> omega
    have gnn : (n == n) = true := by simp
    have gn2b : (n2 == (n + 1) % 168) = true := by rw [beq_iff_eq]; omega
    clear hm hn hd hk hn2 f gn2
    by_cases q1 : a0 + 3600 ≤ 4294943999
    · have S2' := Lib.hid (S2.out q1)
      by_cases q2 : a0 + 604800 ≤ 4294943999
      · have S3' := Lib.hid (S3.out q2)
        clear S2 S3
        go_enter Tryd.func9, Tryd.ntmps9
        go_wp2_with fail
        refine (S1.out _).mono ?_
        rintro e w' ⟨rfl, rfl⟩
        go_wp2_with fail
        refine (D1.out _).mono ?_
        rintro e w' ⟨rfl, rfl⟩
        go_wp2_with fail
        refine (W1.out _).mono ?_
        rintro e w' ⟨rfl, rfl⟩
        go_wp2_with fail
        refine (S2'.out _).mono ?_
        rintro e w' ⟨rfl, rfl⟩
        go_wp2_with fail
        refine (S3'.out _).mono ?_
        rintro e w' ⟨rfl, rfl⟩
        go_wp2_with fail
        refine (awake_any _ F.out).mono ?_
        rintro e w1 ⟨rfl, hb1⟩
        go_wp2_with fail
        go_ret
        exact ⟨rfl, hb1⟩
      · clear S2 S3
        go_enter Tryd.func9, Tryd.ntmps9
        go_wp2_with fail
        refine (S1.out _).mono ?_
        rintro e w' ⟨rfl, rfl⟩
        go_wp2_with fail
        refine (D1.out _).mono ?_
        rintro e w' ⟨rfl, rfl⟩
        go_wp2_with fail
        refine (W1.out _).mono ?_
        rintro e w' ⟨rfl, rfl⟩
        go_wp2_with fail
        refine (S2'.out _).mono ?_
        rintro e w' ⟨rfl, rfl⟩
        go_wp2_with fail
        refine (awake_any _ F.out).mono ?_
        rintro e w1 ⟨rfl, hb1⟩
        go_wp2_with fail
        go_ret
        exact ⟨rfl, hb1⟩
    · have q2 : ¬ a0 + 604800 ≤ 4294943999 := by omega
      clear S2 S3
      go_enter Tryd.func9, Tryd.ntmps9
      go_wp2_with fail
      refine (S1.out _).mono ?_
      rintro e w' ⟨rfl, rfl⟩
      go_wp2_with fail
      refine (D1.out _).mono ?_
      rintro e w' ⟨rfl, rfl⟩
      go_wp2_with fail
      refine (W1.out _).mono ?_
      rintro e w' ⟨rfl, rfl⟩
      go_wp2_with fail
      refine (awake_any _ F.out).mono ?_
      rintro e w1 ⟨rfl, hb1⟩
      go_wp2_with fail
      go_ret
      exact ⟨rfl, hb1⟩

set_option maxRecDepth 100000 in
theorem lifted (os : Os) (started : os.Started) (H : Type) (enc : TypeId × Value → H) (F : Stop.Interp) :
    ReturnsInHanded {} Tryd.checked os 9 .any ((OpenSpec.ofChange Rows.clockHoursSpec).preRow enc Tryd.prog Tryd.f9 Rows.clockHoursRow.domain false Rows.clockHoursRow.laid) (((OpenSpec.ofChange Rows.clockHoursSpec).at F).post enc Tryd.prog Tryd.f9 false true false false) := by
  refine returnsInHanded_of_row (C := Tryd.checked) (s := OpenSpec.ofChange Rows.clockHoursSpec) own started (by kernel_rfl) Tryd.func9
    (ChangeSpec.witness_shaped (enc := enc) (C := Tryd.checked) (os := os) (X := fun w _ => laidMetH Tryd.prog Rows.clockHoursRow.laid w) false (World.laidAll Tryd.prog os Rows.clockHoursRow.laid) #[.int .i64 0] 8 (World.laidAll_os _ _ _)
      (World.shaped_of_ZipB (by kernel_rfl) (by kernel_rfl)) (by kernel_rfl) (by kernel_rfl) (by kernel_rfl)
      (by rw [MakeChecks.laidMetH_plain _ _ _ (by kernel_rfl)]; exact laidMet_laidAll _ (by kernel_rfl) (by kernel_rfl))) ?_
  intro W base args ds gs before hval0 hW _ _ _ hL hsh _
  have hval : ∀ (j : Nat) t v, Tryd.f9.params[j]? = some t → args[j]? = some v → Value.okWide Tryd.prog W .any base t v := hval0
  have hW' := hW
  obtain ⟨p, q, hA0, hV, rfl, hfz, hnd⟩ := hW
  have hA : DataW.TrodAll enc Tryd.prog W 0 (fun _ => true) true Tryd.f9.params.toList args.toList ds p := hA0
  rw [Tryd.params9] at hA hval
  obtain ⟨v0, vs0, d0, ds0, p0, q0, hargs, rfl, rfl, h0, r0⟩ := trodAll_cons hA
  obtain ⟨rfl, rfl, rfl⟩ := trodAll_nil r0
  obtain rfl : args = #[v0] := by cases args; simp_all
  obtain ⟨rfl, rfl⟩ := trodVars_none hV
  obtain ⟨a0, rfl, rfl, rfl, w0⟩ := open_int Tryd.underlying3 (hval 0 3 v0 rfl rfl) h0
  have bd0 := i64_bd w0
  clear hA0 hval0
  simp only [List.append_nil] at hW'
  refine (walk W (facts_of W hL hsh) a0 bd0.1 bd0.2).mono fun e W' ⟨he, hb⟩ => ?_
  subst he
  exact ⟨_, rfl, _, _, _, [], [], [], hW', trodAll_mk1 (shut_bool Tryd.underlying4 _), (trodAll_cons_mk (shut_int Tryd.underlying3 w0) trodAll_mk0), rfl, hb.frame _, fun h => by cases h⟩

theorem said : Rows.ClockHoursSaid :=
  OpenClaim.holds_of_cond 9 Tryd.f9 rfl rfl rfl rfl rfl rfl rfl ⟨rfl, rfl, rfl, rfl, rfl⟩ rfl rfl rfl rfl rfl (by kernel_rfl) Tryd.func9 (by kernel_rfl)
    (of_decide_eq_true (by kernel_rfl)) (by unfold Func.isWrapper; first | (rw [if_pos (by decide +kernel)]; kernel_rfl) | (rw [if_neg (by decide +kernel)]; exact ⟨rfl, rfl⟩))
    (fun os started H enc _ F => by rw [OpenClaim.pre_eq_preRow]; exact lifted os started H enc F)

theorem plain (f : FuncId) (fn : Func) (hf : Tryd.pinned.checked.prog.funcNamed "bikeshare/bikesharelaw02.ClockHours" = some f) (hfn : Tryd.pinned.checked.prog.funcs[f]? = some fn) :
    true = Tryd.pinned.checked.prog.looks [] ∧ ∀ (j : Nat) t, fn.params[j]? = some t → Tryd.pinned.checked.prog.wantsStandIn t = false := by
  obtain rfl : f = 9 := Option.some.inj ((show Tryd.prog.funcNamed "bikeshare/bikesharelaw02.ClockHours" = some 9 by kernel_rfl).symm.trans hf) |>.symm
  obtain rfl : fn = Tryd.f9 := (Option.some.inj (Tryd.func9.symm.trans hfn)).symm
  refine ⟨by kernel_rfl, fun j t ht => ?_⟩
  rw [Tryd.params9] at ht
  have hm : t ∈ [3] := by simpa using Array.mem_of_getElem? ht
  have hall : ([3].all fun u => !Tryd.prog.wantsStandIn u) = true := by kernel_rfl
  exact (show Tryd.prog.wantsStandIn t = false by simpa using List.all_eq_true.1 hall t hm)

/-- The card. -/
theorem card : Rows.ClockHoursCardSaid :=
  Claim7.holds_tied_plain_at .later [] _ _ _ _ said (fun _ h => by cases h) (by kernel_rfl) (fun _ h => by cases h) clockHours_row_tie rfl ⟨rfl, rfl⟩ (by kernel_rfl) rfl plain (by kernel_rfl)
#print axioms card
end Go.Proofs.YtkiedopknoekpaaDoor.clockHours
