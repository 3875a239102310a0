/-
  P4.6: WireSizes: for every integer, the size of its encoding follows from its size, every byte of it but the last one has the highest bit, and every proper beginning of it is too short; and the chapter's examples hold. Conditions: none but the row's own.
-/
import Derived.Test.YtlanbilcekepnaaWirR
namespace Go.Proofs.Ytlanbilcekepnaa.wireSizes
open Go.ChangeShapes Go.WideShapes Go.ChangeAt Go.RowKit Go.Maps
set_option linter.unusedVariables false

theorem zz_in {n M : Int} (h1 : -M ≤ n) (h2 : n < M) : (zz n : Int) < 2 * M := by
  unfold zz; split <;> omega
theorem zz_out {n M : Int} (h0 : 0 ≤ M) (h : M ≤ n ∨ n < -M) : 2 * M ≤ (zz n : Int) := by
  unfold zz; split <;> omega
theorem pow_step (j : Nat) : (128 : Int) ^ (j + 1) = 128 * 128 ^ j := by rw [Int.pow_succ, Int.mul_comm]
theorem cast_pow (j : Nat) : ((128 ^ j : Nat) : Int) = (128 : Int) ^ j := by push_cast; rfl
theorem small_pow {j : Nat} (h : j ≤ 8) : (128 : Int) ^ j ≤ 72057594037927936 := by
  have : (128 ^ j : Nat) ≤ 128 ^ 8 := Nat.pow_le_pow_right (by decide) h
  rw [← cast_pow]
  have e : (128 ^ 8 : Nat) = 72057594037927936 := by decide
  omega
theorem size_le {n : Int} {j : Nat} (h : (zz n : Int) < (128 : Int) ^ j) (hj : 1 ≤ j) : (enc n).length ≤ j := by
  obtain ⟨q, rfl⟩ : ∃ q, j = q + 1 := ⟨j - 1, by omega⟩
  exact leb_len q _ (by rw [← cast_pow] at h; omega)
theorem size_gt {n : Int} {j : Nat} (h : (128 : Int) ^ j ≤ (zz n : Int)) (hj : 1 ≤ j) : j + 1 ≤ (enc n).length := by
  obtain ⟨q, rfl⟩ : ∃ q, j = q + 1 := ⟨j - 1, by omega⟩
  exact leb_gt q _ (by rw [← cast_pow] at h; omega)

set_option maxRecDepth 100000 in
set_option maxHeartbeats 4000000 in
theorem walk (w : World) (a0 : Int) (lo0 : -9223372036854775808 ≤ a0) (hi0 : a0 ≤ 9223372036854775807) :
    Calls Try.prog 9 #[.int .i64 a0] w fun e w' => e = .returned (.bool true) ∧ Below w.heap.size w w' := by
  obtain ⟨K, hK⟩ : ∃ K, enc a0 = K := ⟨_, rfl⟩
  obtain ⟨k, hk⟩ : ∃ k, K.length = k := ⟨_, rfl⟩
  have h1 := enc_pos a0
  have h10 := enc_ten lo0 hi0
  rw [hK, hk] at h1 h10
  have HA := Lib.hid (toRet (k := k) (K := [] ++ enc a0) (by rw [hK]; exact hk) (putInt_own none [] 0 0 a0 w rfl (by decide) (by decide) (VsR.nil w _) lo0 hi0))
  rw [List.nil_append, hK] at HA
  have HLE : Hid (∀ j : Nat, (zz a0 : Int) < (128 : Int) ^ j → 1 ≤ j → k ≤ j) := Lib.hid fun j h hj => by
    have := size_le h hj
    rwa [hK, hk] at this
  have HGT : Hid (∀ j : Nat, (128 : Int) ^ j ≤ (zz a0 : Int) → 1 ≤ j → j + 1 ≤ k) := Lib.hid fun j h hj => by
    have := size_gt h hj
    rwa [hK, hk] at this
  have HCUT : Hid (∀ t, t < k → It (K.take t) 0 = (0, 0, 4)) := Lib.hid fun t ht => by
    have := It_cut lo0 hi0 (i := t) (by rw [hK, hk]; exact ht)
    rwa [hK] at this
  have HHI : Hid (∀ t, t < k → (128 ≤ (K.getD t 0).toNat ↔ t + 1 < k)) := Lib.hid fun t ht => by
    have := leb_hi (u := zz a0) (i := t) (by show t < (enc a0).length; rw [hK, hk]; exact ht)
    change 128 ≤ ((enc a0).getD t 0).toNat ↔ t + 1 < (enc a0).length at this
    rwa [hK, hk] at this
  have HK := Lib.hid hk
  clear hK hk
  go_enter Try.func9, Try.ntmps9
  go_wp2_with fail
  refine HA.out.mono ?_
  rintro e w1 ⟨B1, d1, rfl, hd1, hr1, hB1⟩
  have HR := Lib.hid hr1
  clear hr1
  go_wp2_with fail
  go_loop [4, 5] (fun s mo => ∃ (j : Nat) (M : Int), 1 ≤ j ∧ j ≤ 10 ∧ s = .int .i64 (j : Int) ∧ mo = .int .i64 M ∧ 64 ≤ M ∧ M ≤ 4611686018427387904 ∧ Hid (j < 10 → 2 * M = 128 ^ j) ∧ Hid (j ≤ k)) (fun s _ => 10 - (intOf s).toNat)
  case atStart => exact ⟨1, 64, by decide, by decide, rfl, rfl, by decide, by decide, Lib.hid (fun _ => by decide), Lib.hid h1⟩
  case round =>
    obtain ⟨j, M, hj1, hj10, rfl, rfl, hM1, hM2, hpow, hle⟩ := hrel
    by_cases hgo : j < 10 ∧ (M ≤ a0 ∨ a0 < -M)
    · obtain ⟨hj9, hout⟩ := hgo
      have hp := hpow.out hj9
      have hz := zz_out (by omega) hout
      rw [hp] at hz
      have HJK := Lib.hid (HGT.out j hz hj1)
      have hjz : (j : Int) < 10 := by omega
      by_cases h8 : j + 1 < 10
      · have hsm := small_pow (show j ≤ 8 by omega)
        have hM3 : M ≤ 36028797018963968 := by omega
        have HP2 : Hid (j + 1 < 10 → 2 * (128 * M) = 128 ^ (j + 1)) := Lib.hid fun _ => by
          rw [pow_step, ← hp]; omega
        have h8z : (j : Int) + 1 < 10 := by omega
        clear hp hz hpow hle hsm
        rcases hout with hout | hout
        · go_wp2_with fail
          go_round
          case rel => exact ⟨j + 1, 128 * M, by omega, by omega, by go_num, rfl, by omega, by omega, HP2, HJK⟩
          case measure => simp only [intOf]; omega
        · have hno : ¬ M ≤ a0 := by omega
          go_wp2_with fail
          go_round
          case rel => exact ⟨j + 1, 128 * M, by omega, by omega, by go_num, rfl, by omega, by omega, HP2, HJK⟩
          case measure => simp only [intOf]; omega
      · have HP2 : Hid (j + 1 < 10 → 2 * M = 128 ^ (j + 1)) := Lib.hid fun h => absurd h h8
        have h8z : ¬ (j : Int) + 1 < 10 := by omega
        clear hp hz hpow hle
        rcases hout with hout | hout
        · go_wp2_with fail
          go_round
          case rel => exact ⟨j + 1, M, by omega, by omega, by go_num, rfl, by omega, by omega, HP2, HJK⟩
          case measure => simp only [intOf]; omega
        · have hno : ¬ M ≤ a0 := by omega
          go_wp2_with fail
          go_round
          case rel => exact ⟨j + 1, M, by omega, by omega, by go_num, rfl, by omega, by omega, HP2, HJK⟩
          case measure => simp only [intOf]; omega
    · have hjk : j = k := by
        have h2 := hle.out
        by_cases hj9 : j < 10
        · have hp := hpow.out hj9
          have hin := zz_in (n := a0) (M := M) (by omega) (by omega)
          rw [hp] at hin
          have := HLE.out j hin hj1
          omega
        · omega
      subst hjk
      have hfin : (¬ (j : Int) < 10) ∨ ((j : Int) < 10 ∧ ¬ M ≤ a0 ∧ ¬ a0 < -M) := by omega
      clear hpow hle hgo
      rcases hfin with hfin | ⟨hf1, hf2, hf3⟩
      all_goals
        go_wp2_with fail
        go_loop [6] (fun i => ∃ t : Nat, t ≤ j ∧ i = .int .i64 (t : Int)) (fun i => j - (intOf i).toNat)
        case atStart => exact ⟨0, by omega, rfl⟩
        case round =>
          obtain ⟨t, ht, rfl⟩ := hrel
          by_cases hlt : t < j
          · have hI := HCUT.out t hlt
            have hh := HHI.out t hlt
            obtain ⟨b, o, rfl, _, hc⟩ := HR.out.at (by rw [HK.out]; omega)
            have c0 := hc t (by rw [HK.out]; exact hlt)
            have HC := Lib.hid (int_any (some ⟨b, o, none⟩) (K.take t) t d1 0 w1 0 0 4 hI (by rw [List.length_take, HK.out]; omega) (by omega) (by omega) (HR.out.pre t) (by decide) (by decide))
            obtain ⟨x, hx⟩ : ∃ x, (K.getD t 0).toNat = x := ⟨_, rfl⟩
            rw [hx] at c0 hh
            have hltz : (t : Int) < (j : Int) := by omega
            clear hI hc hx
            by_cases hx1 : 128 ≤ x
            · have y1 : (128 : Int) ≤ (x : Int) := by omega
              have y2 : (t : Int) < (j : Int) - 1 := by have := hh.1 hx1; omega
              have y3 : (decide ((128 : Int) ≤ (x : Int)) == decide ((t : Int) < (j : Int) - 1)) = true := by rw [decide_eq_true y1, decide_eq_true y2]; rfl
              clear hh
              go_wp2_with fail
              refine HC.out.mono ?_
              rintro e w2 ⟨rfl, rfl⟩
              go_wp2_with fail
              go_round
              case rel => exact ⟨t + 1, by omega, by go_num⟩
              case measure => simp only [intOf]; omega
            · have y1 : ¬ (128 : Int) ≤ (x : Int) := by omega
              have y2 : ¬ (t : Int) < (j : Int) - 1 := fun h => hx1 (hh.2 (by omega))
              have y3 : (decide ((128 : Int) ≤ (x : Int)) == decide ((t : Int) < (j : Int) - 1)) = true := by rw [decide_eq_false y1, decide_eq_false y2]; rfl
              clear hh
              go_wp2_with fail
              refine HC.out.mono ?_
              rintro e w2 ⟨rfl, rfl⟩
              go_wp2_with fail
              go_round
              case rel => exact ⟨t + 1, by omega, by go_num⟩
              case measure => simp only [intOf]; omega
          · have hltz : ¬ (t : Int) < (j : Int) := by omega
            go_wp2_with fail
            refine (awake_any _).mono ?_
            rintro e w9 ⟨rfl, hb9⟩
            go_wp2_with fail
            go_ret
            exact ⟨rfl, Below.step hB1 hb9⟩

set_option maxRecDepth 100000 in
theorem lifted (os : Os) (started : os.Started) (H : Type) (enc : TypeId × Value → H) (F : Stop.Interp) :
    ReturnsInHanded {} Try.checked os 9 .any ((OpenSpec.ofChange Rows.wireSizesSpec).preRow enc Try.prog Try.f9 Rows.wireSizesRow.domain false Rows.wireSizesRow.laid) (((OpenSpec.ofChange Rows.wireSizesSpec).at F).post enc Try.prog Try.f9 false true false false) := by
  refine returnsInHanded_of_row (C := Try.checked) (s := OpenSpec.ofChange Rows.wireSizesSpec) own started (by kernel_rfl) Try.func9
    (ChangeSpec.witness_shaped (enc := enc) (C := Try.checked) (os := os) (X := fun w _ => laidMetH Try.prog Rows.wireSizesRow.laid w) false (World.laidAll Try.prog os Rows.wireSizesRow.laid) #[.int .i64 0] 8 (World.laidAll_os _ _ _)
      (World.shaped_of_ZipB (by kernel_rfl) (by kernel_rfl)) (by kernel_rfl) (by kernel_rfl) (by kernel_rfl)
      (by rw [MakeChecks.laidMetH_plain _ _ _ (by kernel_rfl)]; exact laidMet_laidAll _ (by kernel_rfl) (by kernel_rfl))) ?_
  intro W base args ds gs before hval0 hW _ _ _ hL hsh _
  have hval : ∀ (j : Nat) t v, Try.f9.params[j]? = some t → args[j]? = some v → Value.okWide Try.prog W .any base t v := hval0
  have hW' := hW
  obtain ⟨p, q, hA0, hV, rfl, hfz, hnd⟩ := hW
  have hA : DataW.TrodAll enc Try.prog W 0 (fun _ => true) true Try.f9.params.toList args.toList ds p := hA0
  rw [Try.params9] at hA hval
  obtain ⟨v0, vs0, d0, ds0, p0, q0, hargs, rfl, rfl, h0, r0⟩ := trodAll_cons hA
  obtain ⟨rfl, rfl, rfl⟩ := trodAll_nil r0
  obtain rfl : args = #[v0] := by cases args; simp_all
  obtain ⟨rfl, rfl⟩ := trodVars_none hV
  obtain ⟨a0, rfl, rfl, rfl, w0⟩ := open_int Try.underlying3 (hval 0 3 v0 rfl rfl) h0
  have bd0 := i64_bd w0
  clear hA0 hval0
  simp only [List.append_nil] at hW'
  refine (walk W a0 bd0.1 bd0.2).mono fun e W' ⟨he, hb⟩ => ?_
  subst he
  exact ⟨_, rfl, _, _, _, [], [], [], hW', trodAll_mk1 (shut_bool Try.underlying4 _), (trodAll_cons_mk (shut_int Try.underlying3 w0) trodAll_mk0), rfl, hb.frame _, fun h => by cases h⟩

theorem said : Rows.WireSizesSaid :=
  OpenClaim.holds_of_cond 9 Try.f9 rfl rfl rfl rfl rfl rfl rfl ⟨rfl, rfl, rfl, rfl, rfl⟩ rfl rfl rfl rfl rfl (by kernel_rfl) Try.func9 (by kernel_rfl)
    (of_decide_eq_true (by kernel_rfl)) (by unfold Func.isWrapper; first | (rw [if_pos (by decide +kernel)]; kernel_rfl) | (rw [if_neg (by decide +kernel)]; exact ⟨rfl, rfl⟩))
    (fun os started H enc _ F => by rw [OpenClaim.pre_eq_preRow]; exact lifted os started H enc F)
#print axioms said
end Go.Proofs.Ytlanbilcekepnaa.wireSizes
