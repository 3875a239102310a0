/-
  P1.5: NumDecimals: for all integers and all strings of at most 100 bytes (the law's own bound), Format and Parse return the specified texts, numbers and errors, and the chapter's examples hold; the tied card. Conditions: the row's own (Go's own tables and error values hold what the program's text lays when the call begins).
-/
import Derived.Test.YtkoemofpepdopaaDoorNumP
import Derived.Test.YtkoemofpepdopaaDoorCards
import Derived.Test.YtkoemofpepdopaaDoorTie
namespace Go.Proofs.YtkoemofpepdopaaDoor.numDecimals
open Go.ChangeShapes Go.WideShapes Go.ChangeAt Go.RowKit
set_option linter.unusedVariables false

set_option maxRecDepth 100000 in
set_option maxHeartbeats 1000000 in
theorem walk (w : World) (f : Facts w) (a0 : Int) (lo0 : -9223372036854775808 ≤ a0) (hi0 : a0 ≤ 9223372036854775807) (a1 : Int) (lo1 : -9223372036854775808 ≤ a1) (hi1 : a1 ≤ 9223372036854775807) (s2 : ByteArray) (hs2 : s2.size ≤ 9223372036854775807) :
    Calls Tryd.prog 11 #[.int .i64 a0, .int .i64 a1, .string s2] w fun e w' => e = .returned (.bool true) ∧ Below w.heap.size w w' := by
  by_cases hb : 100 < s2.size
  · have F := Lib.hid f
    have hbz : (100 : Int) < (s2.size : Int) := by omega
    clear f hb
    go_enter Tryd.func11, Tryd.ntmps11
    go_wp2_with (go_at_call 17; refine (awake_any _ F.out).mono ?_; rintro e w' ⟨rfl, hb⟩)
    go_ret
    exact ⟨rfl, hb⟩
  · have hA := fun w f => format_any a0 a1 w lo0 hi0 lo1 hi1 f
    have hA' := fun w => refFormat_any a0 a1 w lo0 hi0 lo1 hi1
    have hM := fun w f => parse_any s2 a1 w (by omega) lo1 hi1 f
    have hM' := fun w => refParse_any s2 a1 w (by omega) lo1 hi1
    have hbz : ¬ (100 : Int) < (s2.size : Int) := by omega
    obtain ⟨x1, hx1⟩ : ∃ x, (⟨(fmtS a0 a1).1.toArray⟩ : ByteArray) = x := ⟨_, rfl⟩
    obtain ⟨x2, hx2⟩ : ∃ x, (fmtS a0 a1).2 = x := ⟨_, rfl⟩
    obtain ⟨x3, hx3⟩ : ∃ x, (parseS s2.data.toList a1).1 = x := ⟨_, rfl⟩
    obtain ⟨x4, hx4⟩ : ∃ x, (parseS s2.data.toList a1).2 = x := ⟨_, rfl⟩
    simp only [hx1, hx2] at hA hA'
    simp only [hx3, hx4] at hM hM'
    have HA := Lib.hid hA
    have HA' := Lib.hid hA'
    have HM := Lib.hid hM
    have HM' := Lib.hid hM'
    have F := Lib.hid f
    clear hA hA' hM hM' hx1 hx2 hx3 hx4 f hb
    go_enter Tryd.func11, Tryd.ntmps11
    go_wp2_with fail
    refine (HA.out _ F.out).mono ?_
    rintro e w1 ⟨rfl, hb1⟩
    go_wp2_with fail
    refine (HA'.out _).mono ?_
    rintro e w2 ⟨rfl, hb2⟩
    have hb3 := Below.step hb1 hb2
    go_wp2_with fail
    refine (HM.out _ (F.out.below hb3)).mono ?_
    rintro e w3 ⟨rfl, hb4⟩
    have hb5 := Below.step hb3 hb4
    go_wp2_with fail
    refine (HM'.out _).mono ?_
    rintro e w4 ⟨rfl, hb6⟩
    have hb7 := Below.step hb5 hb6
    clear hb1 hb2 hb3 hb4 hb5 hb6
    go_wp2_with fail
    refine (awake_any _ (F.out.below hb7)).mono ?_
    rintro e w5 ⟨rfl, hb8⟩
    have hb9 := Below.step hb7 hb8
    go_wp2
    go_ret
    exact ⟨rfl, hb9⟩

set_option maxRecDepth 100000 in
theorem lifted (os : Os) (started : os.Started) (H : Type) (enc : TypeId × Value → H) (F : Stop.Interp) :
    ReturnsInHanded {} Tryd.checked os 11 .any ((OpenSpec.ofChange Rows.numDecimalsSpec).preRow enc Tryd.prog Tryd.f11 Rows.numDecimalsRow.domain false Rows.numDecimalsRow.laid) (((OpenSpec.ofChange Rows.numDecimalsSpec).at F).post enc Tryd.prog Tryd.f11 false true false false) := by
  refine returnsInHanded_of_row (C := Tryd.checked) (s := OpenSpec.ofChange Rows.numDecimalsSpec) own started (by kernel_rfl) Tryd.func11
    (ChangeSpec.witness_shaped (enc := enc) (C := Tryd.checked) (os := os) (X := fun w _ => laidMetH Tryd.prog Rows.numDecimalsRow.laid w) false (World.laidAll Tryd.prog os Rows.numDecimalsRow.laid) #[.int .i64 0, .int .i64 0, .string ⟨#[]⟩] 8 (World.laidAll_os _ _ _)
      (World.shaped_of_ZipB (by kernel_rfl) (by kernel_rfl)) (by kernel_rfl) (by kernel_rfl) (by kernel_rfl)
      (by rw [MakeChecks.laidMetH_plain _ _ _ (by kernel_rfl)]; exact laidMet_laidAll _ (by kernel_rfl) (by kernel_rfl))) ?_
  intro W base args ds gs before hval0 hW _ _ _ hL hsh _
  have hval : ∀ (j : Nat) t v, Tryd.f11.params[j]? = some t → args[j]? = some v → Value.okWide Tryd.prog W .any base t v := hval0
  have hW' := hW
  obtain ⟨p, q, hA0, hV, rfl, hfz, hnd⟩ := hW
  have hA : DataW.TrodAll enc Tryd.prog W 0 (fun _ => true) true Tryd.f11.params.toList args.toList ds p := hA0
  rw [Tryd.params11] at hA hval
  obtain ⟨v0, vs0, d0, ds0, p0, q0, hargs, rfl, rfl, h0, r0⟩ := trodAll_cons hA
  obtain ⟨v1, vs1, d1, ds1, p1, q1, rfl, rfl, rfl, h1, r1⟩ := trodAll_cons r0
  obtain ⟨v2, vs2, d2, ds2, p2, q2, rfl, rfl, rfl, h2, r2⟩ := trodAll_cons r1
  obtain ⟨rfl, rfl, rfl⟩ := trodAll_nil r2
  obtain rfl : args = #[v0, v1, v2] := by cases args; simp_all
  obtain ⟨rfl, rfl⟩ := trodVars_none hV
  obtain ⟨a0, rfl, rfl, rfl, w0⟩ := open_int Tryd.underlying3 (hval 0 3 v0 rfl rfl) h0
  have bd0 := i64_bd w0
  obtain ⟨a1, rfl, rfl, rfl, w1⟩ := open_int Tryd.underlying3 (hval 1 3 v1 rfl rfl) h1
  have bd1 := i64_bd w1
  obtain ⟨s2, rfl, rfl, rfl, ws2⟩ := Go.ChangeMaps.open_string Tryd.underlying9 (hval 2 9 v2 rfl rfl) h2
  clear hA0 hval0
  simp only [List.append_nil] at hW'
  refine (walk W (facts_of W hL hsh) a0 bd0.1 bd0.2 a1 bd1.1 bd1.2 s2 ws2).mono fun e W' ⟨he, hb⟩ => ?_
  subst he
  exact ⟨_, rfl, _, _, _, [], [], [], hW', trodAll_mk1 (shut_bool Tryd.underlying4 _), (trodAll_cons_mk (shut_int Tryd.underlying3 w0) (trodAll_cons_mk (shut_int Tryd.underlying3 w1) (trodAll_cons_mk (Go.ChangeMaps.shut_string Tryd.underlying9 ws2) trodAll_mk0))), rfl, hb.frame _, fun h => by cases h⟩

theorem said : Rows.NumDecimalsSaid :=
  OpenClaim.holds_of_cond 11 Tryd.f11 rfl rfl rfl rfl rfl rfl rfl ⟨rfl, rfl, rfl, rfl, rfl⟩ rfl rfl rfl rfl rfl (by kernel_rfl) Tryd.func11 (by kernel_rfl)
    (of_decide_eq_true (by kernel_rfl)) (by unfold Func.isWrapper; first | (rw [if_pos (by decide +kernel)]; kernel_rfl) | (rw [if_neg (by decide +kernel)]; exact ⟨rfl, rfl⟩))
    (fun os started H enc _ F => by rw [OpenClaim.pre_eq_preRow]; exact lifted os started H enc F)

theorem plain (f : FuncId) (fn : Func) (hf : Tryd.pinned.checked.prog.funcNamed "bikeshare/bikesharelaw01.NumDecimals" = some f) (hfn : Tryd.pinned.checked.prog.funcs[f]? = some fn) :
    true = Tryd.pinned.checked.prog.looks [] ∧ ∀ (j : Nat) t, fn.params[j]? = some t → Tryd.pinned.checked.prog.wantsStandIn t = false := by
  obtain rfl : f = 11 := Option.some.inj ((show Tryd.prog.funcNamed "bikeshare/bikesharelaw01.NumDecimals" = some 11 by kernel_rfl).symm.trans hf) |>.symm
  obtain rfl : fn = Tryd.f11 := (Option.some.inj (Tryd.func11.symm.trans hfn)).symm
  refine ⟨by kernel_rfl, fun j t ht => ?_⟩
  rw [Tryd.params11] at ht
  have hm : t ∈ [3, 3, 9] := by simpa using Array.mem_of_getElem? ht
  have hall : ([3, 3, 9].all fun u => !Tryd.prog.wantsStandIn u) = true := by kernel_rfl
  exact (show Tryd.prog.wantsStandIn t = false by simpa using List.all_eq_true.1 hall t hm)

/-- The card. -/
theorem card : Rows.NumDecimalsCardSaid :=
  Claim7.holds_tied_plain_at .later [] _ _ _ _ said (fun _ h => by cases h) (by kernel_rfl) (fun _ h => by cases h) numDecimals_row_tie rfl ⟨rfl, rfl⟩ (by kernel_rfl) rfl plain (by kernel_rfl)
#print axioms card
end Go.Proofs.YtkoemofpepdopaaDoor.numDecimals
