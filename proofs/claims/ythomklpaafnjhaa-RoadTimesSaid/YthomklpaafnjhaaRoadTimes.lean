/-
  P8.1, P8.2: RoadTimes: for every network of at most 60 edges, or of so many that they are refused and at most 600 (else the chapter's examples alone), and every node asked for, Check and Times answer as the specification does; and the chapter's examples hold. Conditions: none but the row's own.
-/
import Derived.Test.YthomklpaafnjhaaRdW
import Derived.Lib.QuietBelow
namespace Go.Proofs.Ythomklpaafnjhaa.roadTimes
open Go.ChangeShapes Go.WideShapes Go.ChangeAt Go.RowKit
set_option linter.unusedVariables false

theorem tmA_length {n v : Int} {l : List Ed} {D : Nat → Option Nat} : (tmA n l v D).length ≤ 64 := by
  unfold tmA
  split
  · rename_i h
    have h0 : ck n l = 0 := by
      unfold tmE at h
      split at h
      · assumption
      · exact h
    obtain ⟨N, rfl, _, h64, _⟩ := ck_ok h0
    rw [tmL_length, Int.toNat_natCast]
    exact h64
  · simp
attribute [local irreducible] wpQuiet
set_option maxRecDepth 100000 in
set_option maxHeartbeats 4000000 in
theorem walk (w : World) (n0 : Int) (A0 : Option Addr) (l0 : List Ed) (c0 : Nat) (hi0 : EdR w A0 l0) (hl0 : l0.length ≤ 9223372036854775807) (nlo0 : -9223372036854775808 ≤ n0) (nhi0 : n0 ≤ 9223372036854775807) (a1 : Int) (lo1 : -9223372036854775808 ≤ a1) (hi1 : a1 ≤ 9223372036854775807) :
    Calls Try.prog 3 #[.agg #[.int .i64 n0, .slice A0 l0.length c0], .int .i64 a1] w fun e w' => e = .returned (.bool true) ∧ Below w.heap.size w w' := by
  obtain ⟨m, hm⟩ : ∃ n, l0.length = n := ⟨_, rfl⟩
  rw [hm] at hl0 ⊢
  obtain ⟨D, hD⟩ := Ds.exist (arcs l0) a1.toNat
  have HIN := Lib.hid hi0
  have HT := Lib.hid (fun W (hE : EdR W A0 l0) => times_any n0 a1 A0 m c0 l0 D W hm hE hD)
  have HRT := Lib.hid (fun W (hE : EdR W A0 l0) => refTimes_any n0 a1 A0 m c0 l0 D W hm hE hD)
  have HC := Lib.hid (fun W (hE : EdR W A0 l0) => check_any n0 A0 m c0 l0 W hm hE)
  have HRC := Lib.hid (fun W (hE : EdR W A0 l0) => refCheck_any n0 A0 m c0 l0 W hm hE)
  have HBX := Lib.hid (BoxR.made w n0 A0 m c0 24)
  have HB1 := Lib.hid (below_alloc w (.cells #[.int .i64 n0, .slice A0 m c0] 24))
  have HFW := Lib.hid (fun W => few_any n0 A0 m c0 W)
  have HLN := Lib.hid (tmA_length (n := n0) (v := a1) (l := l0) (D := D))
  generalize tmA n0 l0 a1 D = TA at HT HRT HLN
  generalize tmE n0 l0 a1 = TE at HT HRT
  generalize ck n0 l0 = CE at HC HRC
  clear hD hm hi0
  cases hf : fewB m with
  | false =>
    rw [hf] at HFW
    clear hf
    go_enter Try.func3, Try.ntmps3
    go_wp2_with fail
    obtain ⟨w1, hw1⟩ : ∃ x, w.alloc (.cells #[.int .i64 n0, .slice A0 m c0] 24) = x := ⟨_, rfl⟩
    rw [hw1] at HB1 ⊢
    clear hw1 HBX
    refine (HFW.out _).mono ?_
    rintro e w2 ⟨rfl, hB2⟩
    have HB2 := Lib.hid (Below.step HB1.out hB2)
    clear hB2
    go_wp2_with fail
    refine (awake_any _).mono ?_
    rintro e w3 ⟨rfl, hB3⟩
    have HB3 := Lib.hid (Below.step HB2.out hB3)
    clear hB3
    go_wp2_with fail
    go_ret
    exact ⟨rfl, HB3.out⟩
  | true =>
    rw [hf] at HFW
    clear hf
    go_enter Try.func3, Try.ntmps3
    go_wp2_with fail
    obtain ⟨w1, hw1⟩ : ∃ x, w.alloc (.cells #[.int .i64 n0, .slice A0 m c0] 24) = x := ⟨_, rfl⟩
    rw [hw1] at HB1 HBX ⊢
    clear hw1
    have HA1 := Lib.hid (HIN.out.below HB1.out)
    refine (HFW.out _).mono ?_
    rintro e w2 ⟨rfl, hB2⟩
    have HB2 := Lib.hid (Below.step HB1.out hB2)
    have HA2 := Lib.hid (HA1.out.below hB2)
    have HX2 := Lib.hid (HBX.out.below hB2)
    obtain ⟨x0, x1⟩ := HX2.out
    clear hB2 HBX HA1 HB1
    go_wp2_with fail
    refine (HT.out _ HA2.out).mono ?_
    rintro e w3 ⟨B3, d3, k3, rfl, hk3, hI3, hB3, _⟩
    have HB3 := Lib.hid (Below.step HB2.out hB3)
    have HA3 := Lib.hid (HA2.out.below hB3)
    have HX3 := Lib.hid (HX2.out.below hB3)
    have HK3 := Lib.hid hk3
    have HI3 := Lib.hid hI3
    clear hk3 hI3 hB3 HX2 HA2 HB2 x0 x1
    obtain ⟨x0, x1⟩ := HX3.out
    go_wp2_with fail
    refine (HRT.out _ HA3.out).mono ?_
    rintro e w4 ⟨B4, d4, k4, rfl, hk4, hI4, hB4, _⟩
    obtain rfl : k3 = k4 := by rw [← hk4, HK3.out]
    have HB4 := Lib.hid (Below.step HB3.out hB4)
    have HA4 := Lib.hid (HA3.out.below hB4)
    have HX4 := Lib.hid (HX3.out.below hB4)
    have HI4 := Lib.hid (HI3.out.below hB4)
    have HJ4 := Lib.hid hI4
    clear hk4 hI4 hB4 HX3 HA3 HB3 x0 x1
    obtain ⟨x0, x1⟩ := HX4.out
    go_wp2_with fail
    have j0 := cell_regrown x0
    have j1 := cell_regrown x1
    have HC5 := Lib.hid (fun d os => HC.out _ (HA4.out.below (below_regrown w4 d os)))
    have HR5 := Lib.hid (fun d os => HRC.out _ (HA4.out.below (below_regrown w4 d os)))
    have HS5 := Lib.hid (fun d os => same_yes TA k3 d3 d4 _ _ _ HK3.out (by have := HLN.out; have := HK3.out; omega) (HI4.out.below (below_regrown w4 d os)) (HJ4.out.below (below_regrown w4 d os)))
    have g1 : (CE == CE) = true := by simp
    have g2 : (TE == TE) = true := by simp
    clear x0 x1
    refine wp_region_quiet_below (by kernel_rfl) (by kernel_rfl) ?_
    repeat (quiet_step ((first | (go_at_call 13; exact Calls.regrown_of (HC5.out _ _)) | (go_at_call 14; exact Calls.regrown_of (HR5.out _ _)) | (go_at_call 15; exact Calls.regrown_of (HS5.out _ _)) | (go_at_call 10; exact Calls.regrown_of (awake_any _)))))
    refine wpQuiet_nil ?_
    intro _ hw'
    obtain ⟨⟨dq, osq⟩, hw''⟩ := hw'
    subst hw''
    go_wp2_with fail
    go_ret
    exact ⟨rfl, Below.step HB4.out (below_regrown w4 dq osq)⟩

set_option maxRecDepth 100000 in
theorem lifted (os : Os) (started : os.Started) (H : Type) (enc : TypeId × Value → H) (F : Stop.Interp) :
    ReturnsInHanded {} Try.checked os 3 .any ((OpenSpec.ofChange Rows.roadTimesSpec).preRow enc Try.prog Try.f3 Rows.roadTimesRow.domain false Rows.roadTimesRow.laid) (((OpenSpec.ofChange Rows.roadTimesSpec).at F).post enc Try.prog Try.f3 false true false false) := by
  refine returnsInHanded_of_row (C := Try.checked) (s := OpenSpec.ofChange Rows.roadTimesSpec) own started (by kernel_rfl) Try.func3
    (ChangeSpec.witness_shaped (enc := enc) (C := Try.checked) (os := os) (X := fun w _ => laidMetH Try.prog Rows.roadTimesRow.laid w) false (World.laidAll Try.prog os Rows.roadTimesRow.laid) #[.agg #[.int .i64 0, .slice none 0 0], .int .i64 0] 8 (World.laidAll_os _ _ _)
      (World.shaped_of_ZipB (by kernel_rfl) (by kernel_rfl)) (by kernel_rfl) (by kernel_rfl) (by kernel_rfl)
      (by rw [MakeChecks.laidMetH_plain _ _ _ (by kernel_rfl)]; exact laidMet_laidAll _ (by kernel_rfl) (by kernel_rfl))) ?_
  intro W base args ds gs before hval0 hW _ _ hsz0 hL hsh _
  have hval : ∀ (j : Nat) t v, Try.f3.params[j]? = some t → args[j]? = some v → Value.okWide Try.prog W .any base t v := hval0
  have hW' := hW
  obtain ⟨p, q, hA0, hV, rfl, hfz, hnd⟩ := hW
  have hA : DataW.TrodAll enc Try.prog W 0 (fun _ => true) true Try.f3.params.toList args.toList ds p := hA0
  rw [Try.params3] at hA hval
  obtain ⟨v0, vs0, d0, ds0, p0, q0, hargs, rfl, rfl, h0, r0⟩ := trodAll_cons hA
  obtain ⟨v1, vs1, d1, ds1, p1, q1, rfl, rfl, rfl, h1, r1⟩ := trodAll_cons r0
  obtain ⟨rfl, rfl, rfl⟩ := trodAll_nil r1
  obtain rfl : args = #[v0, v1] := by cases args; simp_all
  obtain ⟨rfl, rfl⟩ := trodVars_none hV
  obtain ⟨n0, A0, l0, c0, rfl, hi0, hl0, nlo0, nhi0⟩ := road_open (hval 0 24 v0 rfl rfl) h0
  obtain ⟨a1, rfl, rfl, rfl, w1⟩ := open_int Try.underlying3 (hval 1 3 v1 rfl rfl) h1
  have bd1 := i64_bd w1
  clear hA0 hval0
  simp only [List.append_nil] at hW'
  have hlt0 : ∀ x ∈ p0, x.block < W.heap.size := fun x hx => by simpa using hW'.lt x (by simp [hx])
  have hargs0 : ∀ (W' : World), Below W.heap.size W W' → DataW.Trod enc Try.prog W' 0 (fun b => decide (b < W.heap.size)) true 24 (.agg #[.int .i64 n0, .slice A0 l0.length c0]) d0 p0 := fun W' hn => Below.trod laidOut (by kernel_rfl) (of_decide_eq_true (by kernel_rfl)) h0 hn hlt0
  refine (walk W n0 A0 l0 c0 hi0 hl0 nlo0 nhi0 a1 bd1.1 bd1.2).mono fun e W' ⟨he, hb⟩ => ?_
  subst he
  exact ⟨_, rfl, _, _, _, [], p0 ++ ([]), [], hW', trodAll_mk1 (shut_bool Try.underlying4 _), (trodAll_cons_mk (hargs0 W' hb) (trodAll_cons_mk (shut_int Try.underlying3 w1) trodAll_mk0)), rfl, hb.frame _, fun h => by cases h⟩

theorem said : Rows.RoadTimesSaid :=
  OpenClaim.holds_of_cond 3 Try.f3 rfl rfl rfl rfl rfl rfl rfl ⟨rfl, rfl, rfl, rfl, rfl⟩ rfl rfl rfl rfl rfl (by kernel_rfl) Try.func3 (by kernel_rfl)
    (of_decide_eq_true (by kernel_rfl)) (by unfold Func.isWrapper; first | (rw [if_pos (by decide +kernel)]; kernel_rfl) | (rw [if_neg (by decide +kernel)]; exact ⟨rfl, rfl⟩))
    (fun os started H enc _ F => by rw [OpenClaim.pre_eq_preRow]; exact lifted os started H enc F)
#print axioms said
end Go.Proofs.Ythomklpaafnjhaa.roadTimes
