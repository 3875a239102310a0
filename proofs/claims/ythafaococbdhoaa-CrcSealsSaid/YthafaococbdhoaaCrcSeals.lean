/-
  P5.2: CrcSeals: for every byte string of at most 3000 bytes Seal returns the frame that the chapter describes; byte strings of 65537 to 65546 zeros are refused; and the chapter's examples hold (of a longer byte string the examples alone). Conditions: none but the row's own.
-/
import Derived.Test.YthafaococbdhoaaCrcQ
namespace Go.Proofs.Ythafaococbdhoaa.crcSeals
open Go.ChangeShapes Go.WideShapes Go.ChangeAt Go.RowKit Go.Maps
set_option linter.unusedVariables false

set_option maxRecDepth 100000 in
set_option maxHeartbeats 4000000 in
theorem walk (w : World) (A0 : Option Addr) (l0 : List UInt8) (c0 : Nat) (hi0 : BytR w A0 l0) (hc0 : l0.length ≤ c0) (hl0 : l0.length ≤ 9223372036854775807) (a1 : Int) (lo1 : -9223372036854775808 ≤ a1) (hi1 : a1 ≤ 9223372036854775807) :
    Calls Try.prog 4 #[.slice A0 l0.length c0, .int .i64 a1] w fun e w' => e = .returned (.bool true) ∧ Below w.heap.size w w' := by
  obtain ⟨m, hm⟩ : ∃ m, l0.length = m := ⟨_, rfl⟩
  rw [hm] at hc0 hl0 ⊢
  by_cases hb : m ≤ 3000
  · have HS := Lib.hid (fun w => short_any A0 m c0 w true (by simpa using hb))
    obtain ⟨k, hk⟩ : ∃ k, (fr l0).length = k := ⟨_, rfl⟩
    have hk2 : k ≤ 4000 := by
      have := fr_len l0
      have := enc_ten (n := (l0.length : Int)) (by omega) (by omega)
      omega
    have H1 := Lib.hid (fun w1 (hb : Below w.heap.size w w1) => seal_ret A0 l0 m c0 k w1 hk hm (by omega) (hi0.below hb))
    have H2 := Lib.hid (fun w1 (hb : Below w.heap.size w w1) => refSeal_ret A0 l0 m c0 k w1 hk hm (by omega) (hi0.below hb))
    have HK := Lib.hid hk
    obtain ⟨K, hK⟩ : ∃ K, fr l0 = K := ⟨_, rfl⟩
    rw [hK] at H1 H2 HK
    have HB0 : Below w.heap.size w w := Below.refl _ _
    clear hi0 hm hk hK
    by_cases hz : 65536 < a1 ∧ a1 ≤ 65546
    · obtain ⟨hz1, hz2⟩ := hz
      obtain ⟨z, rfl⟩ : ∃ z : Nat, a1 = z := ⟨a1.toNat, by omega⟩
      obtain ⟨ii, hii, hz0, hzs, hzb⟩ := info_parts info_u8
      obtain ⟨wm, hmk, _, hgm⟩ := run_make_full (P := Try.prog) w w.heap.size 22 5 ii (.int .u8 0) 1 Try.underlying22 hii hz0 hzs .i64 .i64 z (by rw [hzb]; omega) (by unfold maxLen; omega) (Nat.le_refl _)
      have hBm : Below w.heap.size w wm := HB0.grown hgm (Nat.le_refl _) (fun k hk => by cases hk)
      have hzn : 65536 < z := by omega
      clear hgm hii hz0 hzs hzb
      go_enter Try.func4, Try.ntmps4
      go_wp2_with fail
      refine (HS.out _).mono ?_
      rintro e w1 ⟨rfl, rfl⟩
      go_wp2_with fail
      refine (sealBig_any _ z z wm hzn (by omega)).mono ?_
      rintro e w1 ⟨rfl, rfl⟩
      clear hmk
      go_wp2_with fail
      refine (H1.out wm hBm).mono ?_
      rintro e w1 ⟨B1, d1, rfl, _, hr1, hB1⟩
      have hB2 := Below.step hBm hB1
      have HR1 := Lib.hid hr1
      clear hr1 hBm hB1
      go_wp2_with fail
      refine (H2.out w1 hB2).mono ?_
      rintro e w2 ⟨B2, d2, rfl, _, hr2, hB3⟩
      have hB4 := Below.step hB2 hB3
      have HR2 := Lib.hid (HR1.out.below hB3)
      have HR3 := Lib.hid hr2
      clear hr2 hB2 hB3 HR1
      go_wp2_with fail
      refine (sameT_any B1 k d1 B2 d2 K w2 HK.out (by omega) HR2.out HR3.out).mono ?_
      rintro e w3 ⟨rfl, hB5⟩
      have hB6 := Below.step hB4 hB5
      clear hB4 hB5 HR2 HR3
      go_wp2_with fail
      refine (awake_any _).mono ?_
      rintro e w9 ⟨rfl, hb9⟩
      go_wp2_with fail
      go_ret
      exact ⟨rfl, Below.step hB6 hb9⟩
    · have hways : (¬ 65536 < a1) ∨ (65536 < a1 ∧ ¬ a1 ≤ 65546) := by omega
      clear hz
      rcases hways with q1 | ⟨q1, q2⟩
      all_goals
        go_enter Try.func4, Try.ntmps4
        go_wp2_with fail
        refine (HS.out _).mono ?_
        rintro e w1 ⟨rfl, rfl⟩
        go_wp2_with fail
        refine (H1.out w HB0).mono ?_
        rintro e w1 ⟨B1, d1, rfl, _, hr1, hB2⟩
        have HR1 := Lib.hid hr1
        clear hr1 HB0
        go_wp2_with fail
        refine (H2.out w1 hB2).mono ?_
        rintro e w2 ⟨B2, d2, rfl, _, hr2, hB3⟩
        have hB4 := Below.step hB2 hB3
        have HR2 := Lib.hid (HR1.out.below hB3)
        have HR3 := Lib.hid hr2
        clear hr2 hB2 hB3 HR1
        go_wp2_with fail
        refine (sameT_any B1 k d1 B2 d2 K w2 HK.out (by omega) HR2.out HR3.out).mono ?_
        rintro e w3 ⟨rfl, hB5⟩
        have hB6 := Below.step hB4 hB5
        clear hB4 hB5 HR2 HR3
        go_wp2_with fail
        refine (awake_any _).mono ?_
        rintro e w9 ⟨rfl, hb9⟩
        go_wp2_with fail
        go_ret
        exact ⟨rfl, Below.step hB6 hb9⟩
  · have HS := Lib.hid (fun w => short_any A0 m c0 w false (by simpa using hb))
    clear hi0 hm
    go_enter Try.func4, Try.ntmps4
    go_wp2_with fail
    refine (HS.out _).mono ?_
    rintro e w1 ⟨rfl, rfl⟩
    go_wp2_with fail
    refine (awake_any _).mono ?_
    rintro e w9 ⟨rfl, hb9⟩
    go_wp2_with fail
    go_ret
    exact ⟨rfl, hb9⟩

set_option maxRecDepth 100000 in
theorem lifted (os : Os) (started : os.Started) (H : Type) (enc : TypeId × Value → H) (F : Stop.Interp) :
    ReturnsInHanded {} Try.checked os 4 .any ((OpenSpec.ofChange Rows.crcSealsSpec).preRow enc Try.prog Try.f4 Rows.crcSealsRow.domain false Rows.crcSealsRow.laid) (((OpenSpec.ofChange Rows.crcSealsSpec).at F).post enc Try.prog Try.f4 false true false false) := by
  refine returnsInHanded_of_row (C := Try.checked) (s := OpenSpec.ofChange Rows.crcSealsSpec) own started (by kernel_rfl) Try.func4
    (ChangeSpec.witness_shaped (enc := enc) (C := Try.checked) (os := os) (X := fun w _ => laidMetH Try.prog Rows.crcSealsRow.laid w) false (World.laidAll Try.prog os Rows.crcSealsRow.laid) #[.slice none 0 0, .int .i64 0] 8 (World.laidAll_os _ _ _)
      (World.shaped_of_ZipB (by kernel_rfl) (by kernel_rfl)) (by kernel_rfl) (by kernel_rfl) (by kernel_rfl)
      (by rw [MakeChecks.laidMetH_plain _ _ _ (by kernel_rfl)]; exact laidMet_laidAll _ (by kernel_rfl) (by kernel_rfl))) ?_
  intro W base args ds gs before hval0 hW _ _ _ hL hsh _
  have hval : ∀ (j : Nat) t v, Try.f4.params[j]? = some t → args[j]? = some v → Value.okWide Try.prog W .any base t v := hval0
  have hW' := hW
  obtain ⟨p, q, hA0, hV, rfl, hfz, hnd⟩ := hW
  have hA : DataW.TrodAll enc Try.prog W 0 (fun _ => true) true Try.f4.params.toList args.toList ds p := hA0
  rw [Try.params4] at hA hval
  obtain ⟨v0, vs0, d0, ds0, p0, q0, hargs, rfl, rfl, h0, r0⟩ := trodAll_cons hA
  obtain ⟨v1, vs1, d1, ds1, p1, q1, rfl, rfl, rfl, h1, r1⟩ := trodAll_cons r0
  obtain ⟨rfl, rfl, rfl⟩ := trodAll_nil r1
  obtain rfl : args = #[v0, v1] := by cases args; simp_all
  obtain ⟨rfl, rfl⟩ := trodVars_none hV
  obtain ⟨A0, l0, c0, rfl, hi0, hc0, hl0⟩ := bytes_open (hval 0 22 v0 rfl rfl) h0
  obtain ⟨a1, rfl, rfl, rfl, w1⟩ := open_int Try.underlying3 (hval 1 3 v1 rfl rfl) h1
  have bd1 := i64_bd w1
  clear hA0 hval0
  simp only [List.append_nil] at hW'
  have hlt0 : ∀ x ∈ p0, x.block < W.heap.size := fun x hx => by simpa using hW'.lt x (by simp [hx])
  have hargs0 : ∀ (W' : World), Below W.heap.size W W' → DataW.Trod enc Try.prog W' 0 (fun b => decide (b < W.heap.size)) true 22 (.slice A0 l0.length c0) d0 p0 := fun W' hn => Below.trod laidOut (by kernel_rfl) (of_decide_eq_true (by kernel_rfl)) h0 hn hlt0
  refine (walk W A0 l0 c0 hi0 hc0 hl0 a1 bd1.1 bd1.2).mono fun e W' ⟨he, hb⟩ => ?_
  subst he
  exact ⟨_, rfl, _, _, _, [], p0 ++ ([]), [], hW', trodAll_mk1 (shut_bool Try.underlying4 _), (trodAll_cons_mk (hargs0 W' hb) (trodAll_cons_mk (shut_int Try.underlying3 w1) trodAll_mk0)), rfl, hb.frame _, fun h => by cases h⟩

theorem said : Rows.CrcSealsSaid :=
  OpenClaim.holds_of_cond 4 Try.f4 rfl rfl rfl rfl rfl rfl rfl ⟨rfl, rfl, rfl, rfl, rfl⟩ rfl rfl rfl rfl rfl (by kernel_rfl) Try.func4 (by kernel_rfl)
    (of_decide_eq_true (by kernel_rfl)) (by unfold Func.isWrapper; first | (rw [if_pos (by decide +kernel)]; kernel_rfl) | (rw [if_neg (by decide +kernel)]; exact ⟨rfl, rfl⟩))
    (fun os started H enc _ F => by rw [OpenClaim.pre_eq_preRow]; exact lifted os started H enc F)
#print axioms said
end Go.Proofs.Ythafaococbdhoaa.crcSeals
