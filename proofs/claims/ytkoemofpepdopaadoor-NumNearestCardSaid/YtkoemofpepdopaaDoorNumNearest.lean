/-
  P1.2: NumNearest: for all integers, Nearest returns the integer within half of the divisor, and of two such integers the greater one; and the chapter's examples hold; the tied card. Conditions: the row's own (Go's own tables and error values hold what the program's text lays when the call begins).
-/
import Derived.Test.YtkoemofpepdopaaDoorNumP
import Derived.Test.YtkoemofpepdopaaDoorCards
import Derived.Test.YtkoemofpepdopaaDoorTie
namespace Go.Proofs.YtkoemofpepdopaaDoor.numNearest
open Go.ChangeShapes Go.WideShapes Go.ChangeAt Go.RowKit
set_option linter.unusedVariables false

theorem near_facts (a b q : Int) (ha : -1125899906842624 ≤ a ∧ a ≤ 1125899906842624) (hb1 : 1 ≤ b) (hb2 : b ≤ 1125899906842624) (hq : q = (2 * a + b) / (2 * b)) :
    2 * a - b < 2 * q * b ∧ 2 * q * b ≤ 2 * a + b ∧ -1125899906842624 ≤ q ∧ q ≤ 1125899906842624 ∧ (∀ A, a ≤ A → -a ≤ A → q ≤ (A + b) / b ∧ -q ≤ (A + b) / b) := by
  have hp : 0 < 2 * b := by omega
  have h1 := Int.mul_ediv_add_emod (2 * a + b) (2 * b)
  have h2 := Int.emod_nonneg (2 * a + b) (show 2 * b ≠ 0 by omega)
  have h3 := Int.emod_lt_of_pos (2 * a + b) hp
  rw [← hq] at h1
  have e1 : 2 * q * b = 2 * b * q := by rw [Int.mul_assoc, Int.mul_comm q b, ← Int.mul_assoc]
  have e2 : q * b = b * q := Int.mul_comm q b
  have e3 : 2 * b * q = 2 * (b * q) := Int.mul_assoc _ _ _
  refine ⟨by omega, by omega, ?_, ?_, fun A h4 h5 => ⟨?_, ?_⟩⟩
  · rw [hq, Int.le_ediv_iff_mul_le hp]
    omega
  · have : (2 * a + b) / (2 * b) < 1125899906842625 := by rw [Int.ediv_lt_iff_lt_mul hp]; omega
    omega
  · rw [Int.le_ediv_iff_mul_le (by omega)]
    omega
  · rw [Int.le_ediv_iff_mul_le (by omega)]
    have e4 : -q * b = -(q * b) := Int.neg_mul _ _
    omega

set_option maxRecDepth 100000 in
set_option maxHeartbeats 4000000 in
theorem walk (w : World) (f : Facts w) (a0 : Int) (lo0 : -9223372036854775808 ≤ a0) (hi0 : a0 ≤ 9223372036854775807) (a1 : Int) (lo1 : -9223372036854775808 ≤ a1) (hi1 : a1 ≤ 9223372036854775807) :
    Calls Tryd.prog 8 #[.int .i64 a0, .int .i64 a1] w fun e w' => e = .returned (.bool true) ∧ Below w.heap.size w w' := by
  have hM := fun w => nearest_any a0 a1 w lo0 hi0 lo1 hi1
  have F := Lib.hid f
  clear f
  cases ha : validB a0
  · have hN : nearS a0 a1 = (0, 1) := by simp [nearS, ha]
    simp only [hN] at hM
    have HM := Lib.hid hM
    clear hM hN
    go_enter Tryd.func8, Tryd.ntmps8
    go_wp2_with (first | (go_at_call 22; refine (HM.out _).mono ?_; rintro e w' ⟨rfl, rfl⟩) | (go_at_call 25; refine (refValid_any _ _ (by omega) (by omega)).mono ?_; rintro e w' ⟨rfl, rfl⟩) | (go_at_call 24; refine (count_any _ _ _ (by omega) (by omega) (by omega) (by omega)).mono ?_; rintro e w' ⟨rfl, rfl⟩) | (go_at_call 17; refine (awake_any _ F.out).mono ?_; rintro e w' ⟨rfl, hbw⟩))
    go_ret
    exact ⟨rfl, hbw⟩
  have ha2 := validB_true ha
  cases hb : cntB a1 1
  · have hc : a1 < 1 ∨ 1125899906842624 < a1 := by
      have := of_decide_eq_false hb; omega
    have hN : nearS a0 a1 = (0, 1) := by
      rcases hc with hc | hc
      · by_cases h0 : a1 = 0
        · simp [nearS, h0]
        · simp [nearS, natB_not (n := a1) (Or.inl (by omega))]
      · simp [nearS, natB_not (n := a1) (Or.inr hc)]
    simp only [hN] at hM
    have HM := Lib.hid hM
    clear hM hN hc
    go_enter Tryd.func8, Tryd.ntmps8
    go_wp2_with (first | (go_at_call 22; refine (HM.out _).mono ?_; rintro e w' ⟨rfl, rfl⟩) | (go_at_call 25; refine (refValid_any _ _ (by omega) (by omega)).mono ?_; rintro e w' ⟨rfl, rfl⟩) | (go_at_call 24; refine (count_any _ _ _ (by omega) (by omega) (by omega) (by omega)).mono ?_; rintro e w' ⟨rfl, rfl⟩) | (go_at_call 17; refine (awake_any _ F.out).mono ?_; rintro e w' ⟨rfl, hbw⟩))
    go_ret
    exact ⟨rfl, hbw⟩
  have hb2 : 1 ≤ a1 ∧ a1 ≤ 1125899906842624 := of_decide_eq_true hb
  have h0 : a1 ≠ 0 := by omega
  have hN : nearS a0 a1 = ((2 * a0 + a1) / (2 * a1), 0) := by simp [nearS, ha, natB_mk (n := a1) (by omega) hb2.2, h0]
  simp only [hN] at hM
  obtain ⟨q, hq⟩ : ∃ q, (2 * a0 + a1) / (2 * a1) = q := ⟨_, rfl⟩
  simp only [hq] at hM
  obtain ⟨n1, n2, n3, n4, n5⟩ := near_facts a0 a1 q ha2 hb2.1 hb2.2 hq.symm
  have HM := Lib.hid hM
  clear hM hN hq h0
  obtain ⟨k1, k2⟩ := n5 (max a0 (-a0)) (by omega) (by omega)
  have d1 : 0 ≤ (max a0 (-a0) + a1) / a1 := Int.ediv_nonneg (by omega) (by omega)
  have d2 : (max a0 (-a0) + a1) / a1 ≤ max a0 (-a0) + a1 := Int.ediv_le_self _ (by omega)
  have g3 : ¬ (max a0 (-a0) + a1) / a1 < max q (-q) := by omega
  have g4 : 0 ≤ max a0 (-a0) := by omega
  clear n5
  go_enter Tryd.func8, Tryd.ntmps8
  go_wp2_with (first | (go_at_call 22; refine (HM.out _).mono ?_; rintro e w' ⟨rfl, rfl⟩) | (go_at_call 25; refine (refValid_any _ _ (by omega) (by omega)).mono ?_; rintro e w' ⟨rfl, rfl⟩) | (go_at_call 24; refine (count_any _ _ _ (by omega) (by omega) (by omega) (by omega)).mono ?_; rintro e w' ⟨rfl, rfl⟩) | (go_at_call 17; refine (awake_any _ F.out).mono ?_; rintro e w' ⟨rfl, hbw⟩))
  go_ret
  exact ⟨rfl, hbw⟩

set_option maxRecDepth 100000 in
theorem lifted (os : Os) (started : os.Started) (H : Type) (enc : TypeId × Value → H) (F : Stop.Interp) :
    ReturnsInHanded {} Tryd.checked os 8 .any ((OpenSpec.ofChange Rows.numNearestSpec).preRow enc Tryd.prog Tryd.f8 Rows.numNearestRow.domain false Rows.numNearestRow.laid) (((OpenSpec.ofChange Rows.numNearestSpec).at F).post enc Tryd.prog Tryd.f8 false true false false) := by
  refine returnsInHanded_of_row (C := Tryd.checked) (s := OpenSpec.ofChange Rows.numNearestSpec) own started (by kernel_rfl) Tryd.func8
    (ChangeSpec.witness_shaped (enc := enc) (C := Tryd.checked) (os := os) (X := fun w _ => laidMetH Tryd.prog Rows.numNearestRow.laid w) false (World.laidAll Tryd.prog os Rows.numNearestRow.laid) #[.int .i64 0, .int .i64 0] 8 (World.laidAll_os _ _ _)
      (World.shaped_of_ZipB (by kernel_rfl) (by kernel_rfl)) (by kernel_rfl) (by kernel_rfl) (by kernel_rfl)
      (by rw [MakeChecks.laidMetH_plain _ _ _ (by kernel_rfl)]; exact laidMet_laidAll _ (by kernel_rfl) (by kernel_rfl))) ?_
  intro W base args ds gs before hval0 hW _ _ _ hL hsh _
  have hval : ∀ (j : Nat) t v, Tryd.f8.params[j]? = some t → args[j]? = some v → Value.okWide Tryd.prog W .any base t v := hval0
  have hW' := hW
  obtain ⟨p, q, hA0, hV, rfl, hfz, hnd⟩ := hW
  have hA : DataW.TrodAll enc Tryd.prog W 0 (fun _ => true) true Tryd.f8.params.toList args.toList ds p := hA0
  rw [Tryd.params8] at hA hval
  obtain ⟨v0, vs0, d0, ds0, p0, q0, hargs, rfl, rfl, h0, r0⟩ := trodAll_cons hA
  obtain ⟨v1, vs1, d1, ds1, p1, q1, rfl, rfl, rfl, h1, r1⟩ := trodAll_cons r0
  obtain ⟨rfl, rfl, rfl⟩ := trodAll_nil r1
  obtain rfl : args = #[v0, v1] := by cases args; simp_all
  obtain ⟨rfl, rfl⟩ := trodVars_none hV
  obtain ⟨a0, rfl, rfl, rfl, w0⟩ := open_int Tryd.underlying3 (hval 0 3 v0 rfl rfl) h0
  have bd0 := i64_bd w0
  obtain ⟨a1, rfl, rfl, rfl, w1⟩ := open_int Tryd.underlying3 (hval 1 3 v1 rfl rfl) h1
  have bd1 := i64_bd w1
  clear hA0 hval0
  simp only [List.append_nil] at hW'
  refine (walk W (facts_of W hL hsh) a0 bd0.1 bd0.2 a1 bd1.1 bd1.2).mono fun e W' ⟨he, hb⟩ => ?_
  subst he
  exact ⟨_, rfl, _, _, _, [], [], [], hW', trodAll_mk1 (shut_bool Tryd.underlying4 _), (trodAll_cons_mk (shut_int Tryd.underlying3 w0) (trodAll_cons_mk (shut_int Tryd.underlying3 w1) trodAll_mk0)), rfl, hb.frame _, fun h => by cases h⟩

theorem said : Rows.NumNearestSaid :=
  OpenClaim.holds_of_cond 8 Tryd.f8 rfl rfl rfl rfl rfl rfl rfl ⟨rfl, rfl, rfl, rfl, rfl⟩ rfl rfl rfl rfl rfl (by kernel_rfl) Tryd.func8 (by kernel_rfl)
    (of_decide_eq_true (by kernel_rfl)) (by unfold Func.isWrapper; first | (rw [if_pos (by decide +kernel)]; kernel_rfl) | (rw [if_neg (by decide +kernel)]; exact ⟨rfl, rfl⟩))
    (fun os started H enc _ F => by rw [OpenClaim.pre_eq_preRow]; exact lifted os started H enc F)

theorem plain (f : FuncId) (fn : Func) (hf : Tryd.pinned.checked.prog.funcNamed "bikeshare/bikesharelaw01.NumNearest" = some f) (hfn : Tryd.pinned.checked.prog.funcs[f]? = some fn) :
    true = Tryd.pinned.checked.prog.looks [] ∧ ∀ (j : Nat) t, fn.params[j]? = some t → Tryd.pinned.checked.prog.wantsStandIn t = false := by
  obtain rfl : f = 8 := Option.some.inj ((show Tryd.prog.funcNamed "bikeshare/bikesharelaw01.NumNearest" = some 8 by kernel_rfl).symm.trans hf) |>.symm
  obtain rfl : fn = Tryd.f8 := (Option.some.inj (Tryd.func8.symm.trans hfn)).symm
  refine ⟨by kernel_rfl, fun j t ht => ?_⟩
  rw [Tryd.params8] at ht
  have hm : t ∈ [3, 3] := by simpa using Array.mem_of_getElem? ht
  have hall : ([3, 3].all fun u => !Tryd.prog.wantsStandIn u) = true := by kernel_rfl
  exact (show Tryd.prog.wantsStandIn t = false by simpa using List.all_eq_true.1 hall t hm)

/-- The card. -/
theorem card : Rows.NumNearestCardSaid :=
  Claim7.holds_tied_plain_at .later [] _ _ _ _ said (fun _ h => by cases h) (by kernel_rfl) (fun _ h => by cases h) numNearest_row_tie rfl ⟨rfl, rfl⟩ (by kernel_rfl) rfl plain (by kernel_rfl)
#print axioms card
end Go.Proofs.YtkoemofpepdopaaDoor.numNearest
