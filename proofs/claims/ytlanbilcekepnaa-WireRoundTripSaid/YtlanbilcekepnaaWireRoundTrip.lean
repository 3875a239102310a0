/-
  P4.4: WireRoundTrip: for all byte sequences and strings of at most 2000 bytes, every integer and all lists of at most 300 integers (else the chapter's examples alone), what PutInt, PutText and PutInts encode one after the other, Int, Text and Ints decode again, and the bytes ahead are those that were given; and the chapter's examples hold. Conditions: none but the row's own.
-/
import Derived.Test.YtlanbilcekepnaaWirR
namespace Go.Proofs.Ytlanbilcekepnaa.wireRoundTrip
open Go.ChangeShapes Go.WideShapes Go.ChangeAt Go.RowKit Go.Maps
set_option linter.unusedVariables false

set_option maxRecDepth 100000 in
set_option maxHeartbeats 4000000 in
theorem walk (w : World) (A0 : Option Addr) (l0 : List UInt8) (c0 : Nat) (hi0 : BytR w A0 l0) (hc0 : l0.length ≤ c0) (hl0 : l0.length ≤ 9223372036854775807) (a1 : Int) (lo1 : -9223372036854775808 ≤ a1) (hi1 : a1 ≤ 9223372036854775807) (s2 : ByteArray) (hs2 : s2.size ≤ 9223372036854775807) (A3 : Option Addr) (l3 : List Int) (c3 : Nat) (hi3 : IntR w A3 l3) (hw3 : WideI l3) (hc3 : l3.length ≤ c3) (hl3 : l3.length ≤ 9223372036854775807) :
    Calls Try.prog 7 #[.slice A0 l0.length c0, .int .i64 a1, .string s2, .slice A3 l3.length c3] w fun e w' => e = .returned (.bool true) ∧ Below w.heap.size w w' := by
  obtain ⟨m, hm⟩ : ∃ m, l0.length = m := ⟨_, rfl⟩
  obtain ⟨n, hn⟩ : ∃ n, l3.length = n := ⟨_, rfl⟩
  rw [hm] at hc0 hl0 ⊢
  rw [hn] at hc3 hl3 ⊢
  by_cases hbig : 2000 < m ∨ 2000 < s2.size ∨ 300 < n
  · clear hi0 hm hn hi3 hw3
    by_cases q1 : 2000 < m
    · have q1z : (2000 : Int) < (m : Int) := by omega
      go_enter Try.func7, Try.ntmps7
      go_wp2_with fail
      refine (awake_any _).mono ?_
      rintro e w9 ⟨rfl, hb9⟩
      go_wp2_with fail
      go_ret
      exact ⟨rfl, hb9⟩
    have q1z : ¬ (2000 : Int) < (m : Int) := by omega
    by_cases q2 : 2000 < s2.size
    · have q2z : (2000 : Int) < (s2.size : Int) := by omega
      go_enter Try.func7, Try.ntmps7
      go_wp2_with fail
      refine (awake_any _).mono ?_
      rintro e w9 ⟨rfl, hb9⟩
      go_wp2_with fail
      go_ret
      exact ⟨rfl, hb9⟩
    have q2z : ¬ (2000 : Int) < (s2.size : Int) := by omega
    have q3z : (300 : Int) < (n : Int) := by omega
    clear hbig
    go_enter Try.func7, Try.ntmps7
    go_wp2_with fail
    refine (awake_any _).mono ?_
    rintro e w9 ⟨rfl, hb9⟩
    go_wp2_with fail
    go_ret
    exact ⟨rfl, hb9⟩
  have q1z : ¬ (2000 : Int) < (m : Int) := by omega
  have q2z : ¬ (2000 : Int) < (s2.size : Int) := by omega
  have q3z : ¬ (300 : Int) < (n : Int) := by omega
  have t1 := enc_ten lo1 hi1
  have t2 := enc_ten (n := (s2.size : Int)) (by omega) (by omega)
  have t3 := enc_ten (n := (l3.length : Int)) (by omega) (by omega)
  have t4 := encs_lenW hw3
  have hs2 : s2.data.toList.length = s2.size := str_len s2
  obtain ⟨K1, hK1⟩ : ∃ K, l0 ++ enc a1 = K := ⟨_, rfl⟩
  obtain ⟨K2, hK2⟩ : ∃ K, K1 ++ (enc s2.size ++ s2.data.toList) = K := ⟨_, rfl⟩
  obtain ⟨K3, hK3⟩ : ∃ K, K2 ++ (enc l3.length ++ encs l3) = K := ⟨_, rfl⟩
  obtain ⟨k1, hk1⟩ : ∃ k, K1.length = k := ⟨_, rfl⟩
  obtain ⟨k2, hk2⟩ : ∃ k, K2.length = k := ⟨_, rfl⟩
  obtain ⟨k3, hk3⟩ : ∃ k, K3.length = k := ⟨_, rfl⟩
  have b1 : k1 = m + (enc a1).length := by rw [← hk1, ← hK1, List.length_append, hm]
  have b2 : k2 = k1 + ((enc s2.size).length + s2.size) := by rw [← hk2, ← hK2, List.length_append, List.length_append, hk1, hs2]
  have b3 : k3 = k2 + ((enc l3.length).length + (encs l3).length) := by rw [← hk3, ← hK3, List.length_append, List.length_append, hk2]
  have g1 : m ≤ k3 := by omega
  have g2 : k3 ≤ 10000 := by omega
  have I1 : It K3 (m : Int) = (a1, (k1 : Int), 0) := by
    have h := It_enc lo1 hi1 l0 ((enc s2.size ++ s2.data.toList) ++ (enc l3.length ++ encs l3))
    rw [hm] at h
    rw [← hK3, ← hK2, ← hK1, List.append_assoc, List.append_assoc, h, b1]
    simp
  have I2 : Tt K3 (k1 : Int) = (s2.data.toList, (k2 : Int), 0) := by
    have h := Tt_enc s2.data.toList (by omega) K1 (enc l3.length ++ encs l3)
    rw [hk1, hs2] at h
    rw [← hK3, ← hK2, List.append_assoc, h, b2, List.length_append, hs2]
  have I3 : Ls K3 (k2 : Int) = (l3, (k3 : Int), 0) := by
    have h := Ls_enc l3 hw3 (by omega) K2 []
    rw [hk2, List.append_nil] at h
    rw [← hK3, h, b3, List.length_append]
  have hpre : K3.take m = l0 := by
    rw [← hK3, ← hK2, ← hK1, List.append_assoc, List.append_assoc, List.take_left' hm]
  have HA1 := Lib.hid (toRet (k := k1) (by rw [hK1]; exact hk1) (putInt_own A0 l0 m c0 a1 w hm (by omega) hc0 hi0 lo1 hi1))
  rw [hK1] at HA1
  have HA2 := Lib.hid (fun B d w1 (hd : k1 ≤ d) (hr : BytR w1 B K1) => toRet (k := k2) (by rw [hK2]; exact hk2) (putText_own B K1 k1 d s2 w1 hk1 (by omega) (by omega) hd hr))
  rw [hK2] at HA2
  have HA3 := Lib.hid (fun B d w1 (hd : k2 ≤ d) (hr : BytR w1 B K2) (hb : Below w.heap.size w w1) => toRet (k := k3) (by rw [hK3]; exact hk3) (putInts_own B K2 k2 d A3 l3 n c3 w1 hk2 (by omega) hd hr hn (by omega) hw3 (hi3.below hb)))
  rw [hK3] at HA3
  have HA4 := Lib.hid (fun B d w1 (hd : k3 ≤ d) (hr : BytR w1 B K3) => int_any B K3 k3 d (m : Int) w1 a1 (k1 : Int) 0 I1 hk3 (by omega) hd hr (by omega) (by omega))
  have HA5 := Lib.hid (fun B d w1 (hd : k3 ≤ d) (hr : BytR w1 B K3) => text_any B K3 k3 d (k1 : Int) w1 s2.data.toList (k2 : Int) 0 I2 hk3 (by omega) hd hr (by omega) (by omega))
  rw [show (⟨s2.data.toList.toArray⟩ : ByteArray) = s2 from rfl] at HA5
  have HA6 := Lib.hid (fun B d w1 (hd : k3 ≤ d) (hr : BytR w1 B K3) => toRetI hn (ints_any B K3 k3 d (k2 : Int) w1 l3 (k3 : Int) 0 I3 hk3 (by omega) hd hr (by omega) (by omega)))
  have HA7 := Lib.hid (fun B d w1 (hr : BytR w1 B K3) (hb : Below w.heap.size w w1) => sameB_any B m d A0 m c0 l0 w1 hm hm (by rw [← hpre]; exact hr.pre m) (hi0.below hb))
  have HA8 := Lib.hid (fun B d w1 (hr : IntR w1 B l3) (hb : Below w.heap.size w w1) => sameI_any B n d A3 c3 l3 w1 hn (by omega) hr (hi3.below hb))
  have HB := Lib.hid (And.intro b1 (And.intro b2 b3))
  clear hi0 hm hn hi3 hw3 hk1 hk2 hk3 hK1 hK2 hK3 hbig I1 I2 I3 hpre t1 t2 t3 t4 hs2 b1 b2 b3
  have g1z : (m : Int) ≤ (k3 : Int) := by omega
  go_enter Try.func7, Try.ntmps7
  go_wp2_with fail
  refine HA1.out.mono ?_
  rintro e w1 ⟨B1, d1, rfl, hd1, hr1, hB1⟩
  have H1 := Lib.hid (HA2.out B1 d1 w1 hd1 hr1)
  clear hr1 HA1 HA2
  go_wp2_with fail
  refine H1.out.mono ?_
  rintro e w2 ⟨B2, d2, rfl, hd2, hr2, hB2⟩
  have hB3 := Below.step hB1 hB2
  have H2 := Lib.hid (HA3.out B2 d2 w2 hd2 hr2 hB3)
  clear hr2 HA3 H1 hB1 hB2
  go_wp2_with fail
  refine H2.out.mono ?_
  rintro e w3 ⟨B3, d3, rfl, hd3, hr3, hB4⟩
  have hB5 := Below.step hB3 hB4
  have H3 := Lib.hid (HA4.out B3 d3 w3 hd3 hr3)
  have H4 := Lib.hid (HA5.out B3 d3 w3 hd3 hr3)
  have H5 := Lib.hid (HA6.out B3 d3 w3 hd3 hr3)
  have HR3 := Lib.hid hr3
  have hmd : m ≤ d3 := by omega
  clear hr3 HA4 HA5 HA6 H2 hB3 hB4
  go_wp2_with fail
  refine H3.out.mono ?_
  rintro e w4 ⟨rfl, rfl⟩
  go_wp2_with fail
  refine H4.out.mono ?_
  rintro e w4 ⟨rfl, rfl⟩
  go_wp2_with fail
  refine H5.out.mono ?_
  rintro e w4 ⟨B4, d4, rfl, hr4, hB6⟩
  have hB7 := Below.step hB5 hB6
  have H6 := Lib.hid (HA8.out B4 d4 w4 hr4 hB7)
  have HR4 := Lib.hid (HR3.out.below hB6)
  clear hr4 H3 H4 H5 HR3 HA8 hB5 hB6
  go_wp2_with fail
  refine H6.out.mono ?_
  rintro e w5 ⟨rfl, hB8⟩
  have hB9 := Below.step hB7 hB8
  have H7 := Lib.hid (HA7.out B3 d3 w5 (HR4.out.below hB8) hB9)
  clear H6 HR4 HA7 hB7 hB8
  go_wp2_with fail
  refine H7.out.mono ?_
  rintro e w6 ⟨rfl, rfl⟩
  go_wp2_with fail
  refine (awake_any _).mono ?_
  rintro e w9 ⟨rfl, hb9⟩
  go_wp2_with fail
  go_ret
  exact ⟨rfl, Below.step hB9 hb9⟩

set_option maxRecDepth 100000 in
theorem lifted (os : Os) (started : os.Started) (H : Type) (enc : TypeId × Value → H) (F : Stop.Interp) :
    ReturnsInHanded {} Try.checked os 7 .any ((OpenSpec.ofChange Rows.wireRoundTripSpec).preRow enc Try.prog Try.f7 Rows.wireRoundTripRow.domain false Rows.wireRoundTripRow.laid) (((OpenSpec.ofChange Rows.wireRoundTripSpec).at F).post enc Try.prog Try.f7 false true false false) := by
  refine returnsInHanded_of_row (C := Try.checked) (s := OpenSpec.ofChange Rows.wireRoundTripSpec) own started (by kernel_rfl) Try.func7
    (ChangeSpec.witness_shaped (enc := enc) (C := Try.checked) (os := os) (X := fun w _ => laidMetH Try.prog Rows.wireRoundTripRow.laid w) false (World.laidAll Try.prog os Rows.wireRoundTripRow.laid) #[.slice none 0 0, .int .i64 0, .string ⟨#[]⟩, .slice none 0 0] 8 (World.laidAll_os _ _ _)
      (World.shaped_of_ZipB (by kernel_rfl) (by kernel_rfl)) (by kernel_rfl) (by kernel_rfl) (by kernel_rfl)
      (by rw [MakeChecks.laidMetH_plain _ _ _ (by kernel_rfl)]; exact laidMet_laidAll _ (by kernel_rfl) (by kernel_rfl))) ?_
  intro W base args ds gs before hval0 hW _ _ _ hL hsh _
  have hval : ∀ (j : Nat) t v, Try.f7.params[j]? = some t → args[j]? = some v → Value.okWide Try.prog W .any base t v := hval0
  have hW' := hW
  obtain ⟨p, q, hA0, hV, rfl, hfz, hnd⟩ := hW
  have hA : DataW.TrodAll enc Try.prog W 0 (fun _ => true) true Try.f7.params.toList args.toList ds p := hA0
  rw [Try.params7] at hA hval
  obtain ⟨v0, vs0, d0, ds0, p0, q0, hargs, rfl, rfl, h0, r0⟩ := trodAll_cons hA
  obtain ⟨v1, vs1, d1, ds1, p1, q1, rfl, rfl, rfl, h1, r1⟩ := trodAll_cons r0
  obtain ⟨v2, vs2, d2, ds2, p2, q2, rfl, rfl, rfl, h2, r2⟩ := trodAll_cons r1
  obtain ⟨v3, vs3, d3, ds3, p3, q3, rfl, rfl, rfl, h3, r3⟩ := trodAll_cons r2
  obtain ⟨rfl, rfl, rfl⟩ := trodAll_nil r3
  obtain rfl : args = #[v0, v1, v2, v3] := by cases args; simp_all
  obtain ⟨rfl, rfl⟩ := trodVars_none hV
  obtain ⟨A0, l0, c0, rfl, hi0, hc0, hl0⟩ := bytes_open (hval 0 22 v0 rfl rfl) h0
  obtain ⟨a1, rfl, rfl, rfl, w1⟩ := open_int Try.underlying3 (hval 1 3 v1 rfl rfl) h1
  have bd1 := i64_bd w1
  obtain ⟨s2, rfl, rfl, rfl, ws2⟩ := Go.ChangeMaps.open_string Try.underlying9 (hval 2 9 v2 rfl rfl) h2
  obtain ⟨A3, l3, c3, rfl, hi3, hw3, hc3, hl3⟩ := ints_open (hval 3 23 v3 rfl rfl) h3
  clear hA0 hval0
  simp only [List.append_nil] at hW'
  have hlt0 : ∀ x ∈ p0, x.block < W.heap.size := fun x hx => by simpa using hW'.lt x (by simp [hx])
  have hargs0 : ∀ (W' : World), Below W.heap.size W W' → DataW.Trod enc Try.prog W' 0 (fun b => decide (b < W.heap.size)) true 22 (.slice A0 l0.length c0) d0 p0 := fun W' hn => Below.trod laidOut (by kernel_rfl) (of_decide_eq_true (by kernel_rfl)) h0 hn hlt0
  have hlt3 : ∀ x ∈ p3, x.block < W.heap.size := fun x hx => by simpa using hW'.lt x (by simp [hx])
  have hargs3 : ∀ (W' : World), Below W.heap.size W W' → DataW.Trod enc Try.prog W' 0 (fun b => decide (b < W.heap.size)) true 23 (.slice A3 l3.length c3) d3 p3 := fun W' hn => Below.trod laidOut (by kernel_rfl) (of_decide_eq_true (by kernel_rfl)) h3 hn hlt3
  refine (walk W A0 l0 c0 hi0 hc0 hl0 a1 bd1.1 bd1.2 s2 ws2 A3 l3 c3 hi3 hw3 hc3 hl3).mono fun e W' ⟨he, hb⟩ => ?_
  subst he
  exact ⟨_, rfl, _, _, _, [], p0 ++ ([] ++ ([] ++ (p3 ++ ([])))), [], hW', trodAll_mk1 (shut_bool Try.underlying4 _), (trodAll_cons_mk (hargs0 W' hb) (trodAll_cons_mk (shut_int Try.underlying3 w1) (trodAll_cons_mk (Go.ChangeMaps.shut_string Try.underlying9 ws2) (trodAll_cons_mk (hargs3 W' hb) trodAll_mk0)))), rfl, hb.frame _, fun h => by cases h⟩

theorem said : Rows.WireRoundTripSaid :=
  OpenClaim.holds_of_cond 7 Try.f7 rfl rfl rfl rfl rfl rfl rfl ⟨rfl, rfl, rfl, rfl, rfl⟩ rfl rfl rfl rfl rfl (by kernel_rfl) Try.func7 (by kernel_rfl)
    (of_decide_eq_true (by kernel_rfl)) (by unfold Func.isWrapper; first | (rw [if_pos (by decide +kernel)]; kernel_rfl) | (rw [if_neg (by decide +kernel)]; exact ⟨rfl, rfl⟩))
    (fun os started H enc _ F => by rw [OpenClaim.pre_eq_preRow]; exact lifted os started H enc F)
#print axioms said
end Go.Proofs.Ytlanbilcekepnaa.wireRoundTrip
