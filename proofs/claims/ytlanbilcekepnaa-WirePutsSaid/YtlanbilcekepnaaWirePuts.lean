/-
  P4.1: WirePuts: for all byte sequences and strings of at most 2000 bytes, every integer and all lists of at most 300 integers (else the chapter's examples alone), PutInt, PutText and PutInts return the specified bytes; and the chapter's examples hold. Conditions: none but the row's own.
-/
import Derived.Test.YtlanbilcekepnaaWirR
namespace Go.Proofs.Ytlanbilcekepnaa.wirePuts
open Go.ChangeShapes Go.WideShapes Go.ChangeAt Go.RowKit Go.Maps
set_option linter.unusedVariables false

set_option maxRecDepth 100000 in
set_option maxHeartbeats 4000000 in
theorem walk (w : World) (A0 : Option Addr) (l0 : List UInt8) (c0 : Nat) (hi0 : BytR w A0 l0) (hc0 : l0.length ≤ c0) (hl0 : l0.length ≤ 9223372036854775807) (a1 : Int) (lo1 : -9223372036854775808 ≤ a1) (hi1 : a1 ≤ 9223372036854775807) (s2 : ByteArray) (hs2 : s2.size ≤ 9223372036854775807) (A3 : Option Addr) (l3 : List Int) (c3 : Nat) (hi3 : IntR w A3 l3) (hw3 : WideI l3) (hc3 : l3.length ≤ c3) (hl3 : l3.length ≤ 9223372036854775807) :
    Calls Try.prog 3 #[.slice A0 l0.length c0, .int .i64 a1, .string s2, .slice A3 l3.length c3] w fun e w' => e = .returned (.bool true) ∧ Below w.heap.size w w' := by
  obtain ⟨m, hm⟩ : ∃ m, l0.length = m := ⟨_, rfl⟩
  obtain ⟨n, hn⟩ : ∃ n, l3.length = n := ⟨_, rfl⟩
  rw [hm] at hc0 hl0 ⊢
  rw [hn] at hc3 hl3 ⊢
  by_cases hbig : 2000 < m ∨ 2000 < s2.size ∨ 300 < n
  · clear hi0 hm hn hi3 hw3
    by_cases q1 : 2000 < m
    · have q1z : (2000 : Int) < (m : Int) := by omega
      go_enter Try.func3, Try.ntmps3
      go_wp2_with fail
      refine (awake_any _).mono ?_
      rintro e w9 ⟨rfl, hb9⟩
      go_wp2_with fail
      go_ret
      exact ⟨rfl, hb9⟩
    have q1z : ¬ (2000 : Int) < (m : Int) := by omega
    by_cases q2 : 2000 < s2.size
    · have q2z : (2000 : Int) < (s2.size : Int) := by omega
      go_enter Try.func3, Try.ntmps3
      go_wp2_with fail
      refine (awake_any _).mono ?_
      rintro e w9 ⟨rfl, hb9⟩
      go_wp2_with fail
      go_ret
      exact ⟨rfl, hb9⟩
    have q2z : ¬ (2000 : Int) < (s2.size : Int) := by omega
    have q3z : (300 : Int) < (n : Int) := by omega
    clear hbig
    go_enter Try.func3, Try.ntmps3
    go_wp2_with fail
    refine (awake_any _).mono ?_
    rintro e w9 ⟨rfl, hb9⟩
    go_wp2_with fail
    go_ret
    exact ⟨rfl, hb9⟩
  have q1z : ¬ (2000 : Int) < (m : Int) := by omega
  have q2z : ¬ (2000 : Int) < (s2.size : Int) := by omega
  have q3z : ¬ (300 : Int) < (n : Int) := by omega
  obtain ⟨k1, hk1⟩ : ∃ k, (l0 ++ enc a1).length = k := ⟨_, rfl⟩
  obtain ⟨k2, hk2⟩ : ∃ k, (l0 ++ (enc s2.size ++ s2.data.toList)).length = k := ⟨_, rfl⟩
  obtain ⟨k3, hk3⟩ : ∃ k, (l0 ++ (enc l3.length ++ encs l3)).length = k := ⟨_, rfl⟩
  have HA1 := Lib.hid (fun w1 (hb : Below w.heap.size w w1) => toRet hk1 (putInt_own A0 l0 m c0 a1 w1 hm (by omega) hc0 (hi0.below hb) lo1 hi1))
  have HA2 := Lib.hid (fun w1 (hb : Below w.heap.size w w1) => toRet hk1 (refPutInt_own A0 l0 m c0 a1 w1 hm (by omega) (hi0.below hb) lo1 hi1))
  have HA3 := Lib.hid (fun w1 (hb : Below w.heap.size w w1) => toRet hk2 (putText_own A0 l0 m c0 s2 w1 hm (by omega) (by omega) hc0 (hi0.below hb)))
  have HA4 := Lib.hid (fun w1 (hb : Below w.heap.size w w1) => toRet hk2 (refPutText_own A0 l0 m c0 s2 w1 hm (by omega) (by omega) (hi0.below hb)))
  have HA5 := Lib.hid (fun w1 (hb : Below w.heap.size w w1) => toRet hk3 (putInts_own A0 l0 m c0 A3 l3 n c3 w1 hm (by omega) hc0 (hi0.below hb) hn (by omega) hw3 (hi3.below hb)))
  have HA6 := Lib.hid (fun w1 (hb : Below w.heap.size w w1) => toRet hk3 (refPutInts_own A0 l0 m c0 A3 l3 n c3 w1 hm (by omega) (hi0.below hb) hn (by omega) hw3 (hi3.below hb)))
  have HK1 := Lib.hid hk1
  have HK2 := Lib.hid hk2
  have HK3 := Lib.hid hk3
  obtain ⟨K1, hK1⟩ : ∃ K, l0 ++ enc a1 = K := ⟨_, rfl⟩
  obtain ⟨K2, hK2⟩ : ∃ K, l0 ++ (enc s2.size ++ s2.data.toList) = K := ⟨_, rfl⟩
  obtain ⟨K3, hK3⟩ : ∃ K, l0 ++ (enc l3.length ++ encs l3) = K := ⟨_, rfl⟩
  rw [hK1] at HA1 HA2 HK1
  rw [hK2] at HA3 HA4 HK2
  rw [hK3] at HA5 HA6 HK3
  clear hi0 hm hn hi3 hw3 hk1 hk2 hk3 hK1 hK2 hK3 hbig
  go_enter Try.func3, Try.ntmps3
  go_wp2_with fail
  refine (HA1.out _ (Below.refl _ _)).mono ?_
  rintro e w1 ⟨B1, d1, rfl, hd1, hr1, hB1⟩
  have HR1 := Lib.hid hr1
  clear hr1
  go_wp2_with fail
  refine (HA2.out _ hB1).mono ?_
  rintro e w2 ⟨B2, d2, rfl, hd2, hr2, hB2⟩
  have HR2 := Lib.hid hr2
  have HR3 := Lib.hid (HR1.out.below hB2)
  have hB3 := Below.step hB1 hB2
  clear hr2 HR1 hB1 hB2
  go_wp2_with fail
  refine (sameB_any B1 k1 d1 B2 k1 d2 K1 w2 HK1.out HK1.out HR3.out HR2.out).mono ?_
  rintro e w3 ⟨rfl, rfl⟩
  clear HR2 HR3
  go_wp2_with fail
  refine (HA3.out _ hB3).mono ?_
  rintro e w3 ⟨B3, d3, rfl, hd3, hr3, hB4⟩
  have HR3 := Lib.hid hr3
  have hB5 := Below.step hB3 hB4
  clear hr3 hB3 hB4
  go_wp2_with fail
  refine (HA4.out _ hB5).mono ?_
  rintro e w4 ⟨B4, d4, rfl, hd4, hr4, hB6⟩
  have HR4 := Lib.hid hr4
  have HR5 := Lib.hid (HR3.out.below hB6)
  have hB7 := Below.step hB5 hB6
  clear hr4 HR3 hB5 hB6
  go_wp2_with fail
  refine (sameB_any B3 k2 d3 B4 k2 d4 K2 w4 HK2.out HK2.out HR5.out HR4.out).mono ?_
  rintro e w5 ⟨rfl, rfl⟩
  clear HR4 HR5
  go_wp2_with fail
  refine (HA5.out _ hB7).mono ?_
  rintro e w5 ⟨B5, d5, rfl, hd5, hr5, hB8⟩
  have HR5 := Lib.hid hr5
  have hB9 := Below.step hB7 hB8
  clear hr5 hB7 hB8
  go_wp2_with fail
  refine (HA6.out _ hB9).mono ?_
  rintro e w6 ⟨B6, d6, rfl, hd6, hr6, hB10⟩
  have HR6 := Lib.hid hr6
  have HR7 := Lib.hid (HR5.out.below hB10)
  have hB11 := Below.step hB9 hB10
  clear hr6 HR5 hB9 hB10
  go_wp2_with fail
  refine (sameB_any B5 k3 d5 B6 k3 d6 K3 w6 HK3.out HK3.out HR7.out HR6.out).mono ?_
  rintro e w7 ⟨rfl, rfl⟩
  clear HR6 HR7
  go_wp2_with fail
  refine (awake_any _).mono ?_
  rintro e w9 ⟨rfl, hb9⟩
  go_wp2_with fail
  go_ret
  exact ⟨rfl, Below.step hB11 hb9⟩

set_option maxRecDepth 100000 in
theorem lifted (os : Os) (started : os.Started) (H : Type) (enc : TypeId × Value → H) (F : Stop.Interp) :
    ReturnsInHanded {} Try.checked os 3 .any ((OpenSpec.ofChange Rows.wirePutsSpec).preRow enc Try.prog Try.f3 Rows.wirePutsRow.domain false Rows.wirePutsRow.laid) (((OpenSpec.ofChange Rows.wirePutsSpec).at F).post enc Try.prog Try.f3 false true false false) := by
  refine returnsInHanded_of_row (C := Try.checked) (s := OpenSpec.ofChange Rows.wirePutsSpec) own started (by kernel_rfl) Try.func3
    (ChangeSpec.witness_shaped (enc := enc) (C := Try.checked) (os := os) (X := fun w _ => laidMetH Try.prog Rows.wirePutsRow.laid w) false (World.laidAll Try.prog os Rows.wirePutsRow.laid) #[.slice none 0 0, .int .i64 0, .string ⟨#[]⟩, .slice none 0 0] 8 (World.laidAll_os _ _ _)
      (World.shaped_of_ZipB (by kernel_rfl) (by kernel_rfl)) (by kernel_rfl) (by kernel_rfl) (by kernel_rfl)
      (by rw [MakeChecks.laidMetH_plain _ _ _ (by kernel_rfl)]; exact laidMet_laidAll _ (by kernel_rfl) (by kernel_rfl))) ?_
  intro W base args ds gs before hval0 hW _ _ _ hL hsh _
  have hval : ∀ (j : Nat) t v, Try.f3.params[j]? = some t → args[j]? = some v → Value.okWide Try.prog W .any base t v := hval0
  have hW' := hW
  obtain ⟨p, q, hA0, hV, rfl, hfz, hnd⟩ := hW
  have hA : DataW.TrodAll enc Try.prog W 0 (fun _ => true) true Try.f3.params.toList args.toList ds p := hA0
  rw [Try.params3] at hA hval
  obtain ⟨v0, vs0, d0, ds0, p0, q0, hargs, rfl, rfl, h0, r0⟩ := trodAll_cons hA
  obtain ⟨v1, vs1, d1, ds1, p1, q1, rfl, rfl, rfl, h1, r1⟩ := trodAll_cons r0
  obtain ⟨v2, vs2, d2, ds2, p2, q2, rfl, rfl, rfl, h2, r2⟩ := trodAll_cons r1
  obtain ⟨v3, vs3, d3, ds3, p3, q3, rfl, rfl, rfl, h3, r3⟩ := trodAll_cons r2
  obtain ⟨rfl, rfl, rfl⟩ := trodAll_nil r3
  obtain rfl : args = #[v0, v1, v2, v3] := by cases args; simp_all
  obtain ⟨rfl, rfl⟩ := trodVars_none hV
  obtain ⟨A0, l0, c0, rfl, hi0, hc0, hl0⟩ := bytes_open (hval 0 22 v0 rfl rfl) h0
  obtain ⟨a1, rfl, rfl, rfl, w1⟩ := open_int Try.underlying3 (hval 1 3 v1 rfl rfl) h1
  have bd1 := i64_bd w1
  obtain ⟨s2, rfl, rfl, rfl, ws2⟩ := Go.ChangeMaps.open_string Try.underlying9 (hval 2 9 v2 rfl rfl) h2
  obtain ⟨A3, l3, c3, rfl, hi3, hw3, hc3, hl3⟩ := ints_open (hval 3 23 v3 rfl rfl) h3
  clear hA0 hval0
  simp only [List.append_nil] at hW'
  have hlt0 : ∀ x ∈ p0, x.block < W.heap.size := fun x hx => by simpa using hW'.lt x (by simp [hx])
  have hargs0 : ∀ (W' : World), Below W.heap.size W W' → DataW.Trod enc Try.prog W' 0 (fun b => decide (b < W.heap.size)) true 22 (.slice A0 l0.length c0) d0 p0 := fun W' hn => Below.trod laidOut (by kernel_rfl) (of_decide_eq_true (by kernel_rfl)) h0 hn hlt0
  have hlt3 : ∀ x ∈ p3, x.block < W.heap.size := fun x hx => by simpa using hW'.lt x (by simp [hx])
  have hargs3 : ∀ (W' : World), Below W.heap.size W W' → DataW.Trod enc Try.prog W' 0 (fun b => decide (b < W.heap.size)) true 23 (.slice A3 l3.length c3) d3 p3 := fun W' hn => Below.trod laidOut (by kernel_rfl) (of_decide_eq_true (by kernel_rfl)) h3 hn hlt3
  refine (walk W A0 l0 c0 hi0 hc0 hl0 a1 bd1.1 bd1.2 s2 ws2 A3 l3 c3 hi3 hw3 hc3 hl3).mono fun e W' ⟨he, hb⟩ => ?_
  subst he
  exact ⟨_, rfl, _, _, _, [], p0 ++ ([] ++ ([] ++ (p3 ++ ([])))), [], hW', trodAll_mk1 (shut_bool Try.underlying4 _), (trodAll_cons_mk (hargs0 W' hb) (trodAll_cons_mk (shut_int Try.underlying3 w1) (trodAll_cons_mk (Go.ChangeMaps.shut_string Try.underlying9 ws2) (trodAll_cons_mk (hargs3 W' hb) trodAll_mk0)))), rfl, hb.frame _, fun h => by cases h⟩

theorem said : Rows.WirePutsSaid :=
  OpenClaim.holds_of_cond 3 Try.f3 rfl rfl rfl rfl rfl rfl rfl ⟨rfl, rfl, rfl, rfl, rfl⟩ rfl rfl rfl rfl rfl (by kernel_rfl) Try.func3 (by kernel_rfl)
    (of_decide_eq_true (by kernel_rfl)) (by unfold Func.isWrapper; first | (rw [if_pos (by decide +kernel)]; kernel_rfl) | (rw [if_neg (by decide +kernel)]; exact ⟨rfl, rfl⟩))
    (fun os started H enc _ F => by rw [OpenClaim.pre_eq_preRow]; exact lifted os started H enc F)
#print axioms said
end Go.Proofs.Ytlanbilcekepnaa.wirePuts
