/-
  P2.4, P2.9: ClockRoundTrip: every moment is read from its text, and every text that is read is that of the moment (strings of at most 100 bytes; else the chapter's examples alone), and the chapter's examples hold; the tied card. Conditions: the row's own (Go's own tables and error values hold what the program's text lays when the call begins).
-/
import Derived.Test.YtkiedopknoekpaaDoorClkP
namespace Go.Proofs.YtkiedopknoekpaaDoor.clockRoundTrip
open Go.ChangeShapes Go.WideShapes Go.ChangeAt Go.RowKit
set_option linter.unusedVariables false

theorem textS_nat (t : Nat) (ht : t ≤ 4294943999) : textS (t : Int) = (strOf (momT t), 0) := by simp [textS, momB_nat t ht]
theorem mom_size (t : Nat) (ht : t ≤ 4294943999) : (strOf (momT t)).size ≤ 100 := by
  rw [strOf_size, mom_len]
  have := (day_len (t / 86400) (by omega)).2
  omega

/-- The second half: what is read of s, and its text. -/
def Back (s : ByteArray) (R1 R2 : Int) : Prop := (R2 = 0 ∧ ∃ t : Nat, t ≤ 4294943999 ∧ R1 = t ∧ s = strOf (momT t)) ∨ (R2 = 3 ∧ R1 = 0)
theorem back_of {s : ByteArray} {R1 R2 : Int} (h : Pars s (R1, R2)) : Back s R1 R2 := by
  rcases h with ⟨t, ht, h1, h2⟩ | ⟨_, h2⟩
  · injection h2 with h2 h3
    exact Or.inl ⟨h3, t, ht, h2, h1⟩
  · injection h2 with h2 h3
    exact Or.inr ⟨h3, h2⟩

set_option maxRecDepth 100000 in
set_option maxHeartbeats 2000000 in
theorem walk (w : World) (f : Facts w) (a0 : Int) (lo0 : -9223372036854775808 ≤ a0) (hi0 : a0 ≤ 9223372036854775807) (s1 : ByteArray) (hs1 : s1.size ≤ 9223372036854775807) :
    Calls Tryd.prog 10 #[.int .i64 a0, .string s1] w fun e w' => e = .returned (.bool true) ∧ Below w.heap.size w w' := by
  have F := Lib.hid f
  by_cases hs : s1.size ≤ 100
  · obtain ⟨⟨R1, R2⟩, hR⟩ := pars_ex s1
    have H3 : Hid (∀ w, Facts w → Calls Tryd.prog 32 #[.string s1] w fun e w' => e = .returned (.tuple #[.int .i64 R1, .int .i64 R2]) ∧ Below w.heap.size w w') := Lib.hid (fun w f => parse_any s1 (R1, R2) w hs f hR)
    have hbk := back_of hR
    have hz : ¬ 100 < (s1.size : Int) := by omega
    cases hm : momB a0
    · have H1 : Hid (∀ w, Facts w → Calls Tryd.prog 30 #[.int .i64 a0] w fun e w' => e = .returned (.tuple #[.string ⟨#[]⟩, .int .i64 1]) ∧ Below w.heap.size w w') := Lib.hid (fun w f => by
        have := text_any a0 w lo0 hi0 f
        rwa [show textS a0 = (⟨#[]⟩, 1) by simp [textS, hm, strOf]] at this)
      clear hR f hm
      rcases hbk with ⟨rfl, t, ht, rfl, rfl⟩ | ⟨rfl, rfl⟩
      · have H2 : Hid (∀ w, Facts w → Calls Tryd.prog 30 #[.int .i64 (t : Int)] w fun e w' => e = .returned (.tuple #[.string (strOf (momT t)), .int .i64 0]) ∧ Below w.heap.size w w') := Lib.hid (fun w f => by
          have := text_any t w (by omega) (by omega) f
          rwa [textS_nat t ht] at this)
        generalize strOf (momT t) = S at *
        have hss : (S.toList == S.toList) = true := by simp
        go_enter Tryd.func10, Tryd.ntmps10
        go_wp2_with fail
        refine (H1.out _ F.out).mono ?_
        rintro e w1 ⟨rfl, hb1⟩
        go_wp2_with fail
        refine (H3.out _ (F.out.below hb1)).mono ?_
        rintro e w2 ⟨rfl, hb2⟩
        have hb12 := Below.step hb1 hb2
        go_wp2_with fail
        refine (H2.out _ (F.out.below hb12)).mono ?_
        rintro e w3 ⟨rfl, hb3⟩
        have hb13 := Below.step hb12 hb3
        go_wp2_with fail
        refine (awake_any _ (F.out.below hb13)).mono ?_
        rintro e w4 ⟨rfl, hb4⟩
        go_wp2_with fail
        go_ret
        exact ⟨rfl, Below.step hb13 hb4⟩
      · go_enter Tryd.func10, Tryd.ntmps10
        go_wp2_with fail
        refine (H1.out _ F.out).mono ?_
        rintro e w1 ⟨rfl, hb1⟩
        go_wp2_with fail
        refine (H3.out _ (F.out.below hb1)).mono ?_
        rintro e w2 ⟨rfl, hb2⟩
        have hb12 := Below.step hb1 hb2
        go_wp2_with fail
        refine (awake_any _ (F.out.below hb12)).mono ?_
        rintro e w4 ⟨rfl, hb4⟩
        go_wp2_with fail
        go_ret
        exact ⟨rfl, Below.step hb12 hb4⟩
    · have hmb := momB_true hm
      obtain ⟨u, rfl⟩ : ∃ n : Nat, a0 = n := ⟨a0.toNat, by omega⟩
      have hu : u ≤ 4294943999 := by omega
      have H1 : Hid (∀ w, Facts w → Calls Tryd.prog 30 #[.int .i64 (u : Int)] w fun e w' => e = .returned (.tuple #[.string (strOf (momT u)), .int .i64 0]) ∧ Below w.heap.size w w') := Lib.hid (fun w f => by
        have := text_any u w (by omega) (by omega) f
        rwa [textS_nat u hu] at this)
      have H5 : Hid (∀ w, Facts w → Calls Tryd.prog 32 #[.string (strOf (momT u))] w fun e w' => e = .returned (.tuple #[.int .i64 (u : Int), .int .i64 0]) ∧ Below w.heap.size w w') := Lib.hid (fun w f => parse_any _ ((u : Int), 0) w (mom_size u hu) f (Or.inl ⟨u, hu, rfl, rfl⟩))
      have huu : ((u : Int) == (u : Int)) = true := by simp
      clear hR f hm
      generalize strOf (momT u) = X at H1 H5
      rcases hbk with ⟨rfl, t, ht, rfl, rfl⟩ | ⟨rfl, rfl⟩
      · have H2 : Hid (∀ w, Facts w → Calls Tryd.prog 30 #[.int .i64 (t : Int)] w fun e w' => e = .returned (.tuple #[.string (strOf (momT t)), .int .i64 0]) ∧ Below w.heap.size w w') := Lib.hid (fun w f => by
          have := text_any t w (by omega) (by omega) f
          rwa [textS_nat t ht] at this)
        generalize strOf (momT t) = S at *
        have hss : (S.toList == S.toList) = true := by simp
        go_enter Tryd.func10, Tryd.ntmps10
        go_wp2_with fail
        refine (H1.out _ F.out).mono ?_
        rintro e w1 ⟨rfl, hb1⟩
        go_wp2_with fail
        refine (H5.out _ (F.out.below hb1)).mono ?_
        rintro e w2 ⟨rfl, hb2⟩
        have hb12 := Below.step hb1 hb2
        go_wp2_with fail
        refine (H3.out _ (F.out.below hb12)).mono ?_
        rintro e w3 ⟨rfl, hb3⟩
        have hb13 := Below.step hb12 hb3
        go_wp2_with fail
        refine (H2.out _ (F.out.below hb13)).mono ?_
        rintro e w4 ⟨rfl, hb4⟩
        have hb14 := Below.step hb13 hb4
        go_wp2_with fail
        refine (awake_any _ (F.out.below hb14)).mono ?_
        rintro e w5 ⟨rfl, hb5⟩
        go_wp2_with fail
        go_ret
        exact ⟨rfl, Below.step hb14 hb5⟩
      · go_enter Tryd.func10, Tryd.ntmps10
        go_wp2_with fail
        refine (H1.out _ F.out).mono ?_
        rintro e w1 ⟨rfl, hb1⟩
        go_wp2_with fail
        refine (H5.out _ (F.out.below hb1)).mono ?_
        rintro e w2 ⟨rfl, hb2⟩
        have hb12 := Below.step hb1 hb2
        go_wp2_with fail
        refine (H3.out _ (F.out.below hb12)).mono ?_
        rintro e w3 ⟨rfl, hb3⟩
        have hb13 := Below.step hb12 hb3
        go_wp2_with fail
        refine (awake_any _ (F.out.below hb13)).mono ?_
        rintro e w4 ⟨rfl, hb4⟩
        go_wp2_with fail
        go_ret
        exact ⟨rfl, Below.step hb13 hb4⟩
  · have hz : 100 < (s1.size : Int) := by omega
    clear f
    go_enter Tryd.func10, Tryd.ntmps10
    go_wp2_with fail
    refine (awake_any _ F.out).mono ?_
    rintro e w5 ⟨rfl, hb5⟩
    go_wp2_with fail
    go_ret
    exact ⟨rfl, hb5⟩

set_option maxRecDepth 100000 in
theorem lifted (os : Os) (started : os.Started) (H : Type) (enc : TypeId × Value → H) (F : Stop.Interp) :
    ReturnsInHanded {} Tryd.checked os 10 .any ((OpenSpec.ofChange Rows.clockRoundTripSpec).preRow enc Tryd.prog Tryd.f10 Rows.clockRoundTripRow.domain false Rows.clockRoundTripRow.laid) (((OpenSpec.ofChange Rows.clockRoundTripSpec).at F).post enc Tryd.prog Tryd.f10 false true false false) := by
  refine returnsInHanded_of_row (C := Tryd.checked) (s := OpenSpec.ofChange Rows.clockRoundTripSpec) own started (by kernel_rfl) Tryd.func10
    (ChangeSpec.witness_shaped (enc := enc) (C := Tryd.checked) (os := os) (X := fun w _ => laidMetH Tryd.prog Rows.clockRoundTripRow.laid w) false (World.laidAll Tryd.prog os Rows.clockRoundTripRow.laid) #[.int .i64 0, .string ⟨#[]⟩] 8 (World.laidAll_os _ _ _)
      (World.shaped_of_ZipB (by kernel_rfl) (by kernel_rfl)) (by kernel_rfl) (by kernel_rfl) (by kernel_rfl)
      (by rw [MakeChecks.laidMetH_plain _ _ _ (by kernel_rfl)]; exact laidMet_laidAll _ (by kernel_rfl) (by kernel_rfl))) ?_
  intro W base args ds gs before hval0 hW _ _ _ hL hsh _
  have hval : ∀ (j : Nat) t v, Tryd.f10.params[j]? = some t → args[j]? = some v → Value.okWide Tryd.prog W .any base t v := hval0
  have hW' := hW
  obtain ⟨p, q, hA0, hV, rfl, hfz, hnd⟩ := hW
  have hA : DataW.TrodAll enc Tryd.prog W 0 (fun _ => true) true Tryd.f10.params.toList args.toList ds p := hA0
  rw [Tryd.params10] at hA hval
  obtain ⟨v0, vs0, d0, ds0, p0, q0, hargs, rfl, rfl, h0, r0⟩ := trodAll_cons hA
  obtain ⟨v1, vs1, d1, ds1, p1, q1, rfl, rfl, rfl, h1, r1⟩ := trodAll_cons r0
  obtain ⟨rfl, rfl, rfl⟩ := trodAll_nil r1
  obtain rfl : args = #[v0, v1] := by cases args; simp_all
  obtain ⟨rfl, rfl⟩ := trodVars_none hV
  obtain ⟨a0, rfl, rfl, rfl, w0⟩ := open_int Tryd.underlying3 (hval 0 3 v0 rfl rfl) h0
  have bd0 := i64_bd w0
  obtain ⟨s1, rfl, rfl, rfl, ws1⟩ := Go.ChangeMaps.open_string Tryd.underlying9 (hval 1 9 v1 rfl rfl) h1
  clear hA0 hval0
  simp only [List.append_nil] at hW'
  refine (walk W (facts_of W hL hsh) a0 bd0.1 bd0.2 s1 ws1).mono fun e W' ⟨he, hb⟩ => ?_
  subst he
  exact ⟨_, rfl, _, _, _, [], [], [], hW', trodAll_mk1 (shut_bool Tryd.underlying4 _), (trodAll_cons_mk (shut_int Tryd.underlying3 w0) (trodAll_cons_mk (Go.ChangeMaps.shut_string Tryd.underlying9 ws1) trodAll_mk0)), rfl, hb.frame _, fun h => by cases h⟩

theorem said : Rows.ClockRoundTripSaid :=
  OpenClaim.holds_of_cond 10 Tryd.f10 rfl rfl rfl rfl rfl rfl rfl ⟨rfl, rfl, rfl, rfl, rfl⟩ rfl rfl rfl rfl rfl (by kernel_rfl) Tryd.func10 (by kernel_rfl)
    (of_decide_eq_true (by kernel_rfl)) (by unfold Func.isWrapper; first | (rw [if_pos (by decide +kernel)]; kernel_rfl) | (rw [if_neg (by decide +kernel)]; exact ⟨rfl, rfl⟩))
    (fun os started H enc _ F => by rw [OpenClaim.pre_eq_preRow]; exact lifted os started H enc F)

theorem plain (f : FuncId) (fn : Func) (hf : Tryd.pinned.checked.prog.funcNamed "bikeshare/bikesharelaw02.ClockRoundTrip" = some f) (hfn : Tryd.pinned.checked.prog.funcs[f]? = some fn) :
    true = Tryd.pinned.checked.prog.looks [] ∧ ∀ (j : Nat) t, fn.params[j]? = some t → Tryd.pinned.checked.prog.wantsStandIn t = false := by
  obtain rfl : f = 10 := Option.some.inj ((show Tryd.prog.funcNamed "bikeshare/bikesharelaw02.ClockRoundTrip" = some 10 by kernel_rfl).symm.trans hf) |>.symm
  obtain rfl : fn = Tryd.f10 := (Option.some.inj (Tryd.func10.symm.trans hfn)).symm
  refine ⟨by kernel_rfl, fun j t ht => ?_⟩
  rw [Tryd.params10] at ht
  have hm : t ∈ [3, 9] := by simpa using Array.mem_of_getElem? ht
  have hall : ([3, 9].all fun u => !Tryd.prog.wantsStandIn u) = true := by kernel_rfl
  exact (show Tryd.prog.wantsStandIn t = false by simpa using List.all_eq_true.1 hall t hm)

/-- The card. -/
theorem card : Rows.ClockRoundTripCardSaid :=
  Claim7.holds_tied_plain_at .later [] _ _ _ _ said (fun _ h => by cases h) (by kernel_rfl) (fun _ h => by cases h) clockRoundTrip_row_tie rfl ⟨rfl, rfl⟩ (by kernel_rfl) rfl plain (by kernel_rfl)
#print axioms card
end Go.Proofs.YtkiedopknoekpaaDoor.clockRoundTrip
