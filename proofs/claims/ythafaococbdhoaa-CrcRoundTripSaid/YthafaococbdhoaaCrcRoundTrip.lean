/-
  P5.2, P5.3, P5.5: CrcRoundTrip: for all byte strings of at most 3000 bytes Open returns the content of the frame that Seal makes, and the index behind it, whatever stands before and behind it; and the chapter's examples hold (of longer ones the examples alone). Conditions: none but the row's own.
-/
import Derived.Test.YthafaococbdhoaaCrcQ
namespace Go.Proofs.Ythafaococbdhoaa.crcRoundTrip
open Go.ChangeShapes Go.WideShapes Go.ChangeAt Go.RowKit Go.Maps
set_option linter.unusedVariables false

set_option maxRecDepth 100000 in
set_option maxHeartbeats 4000000 in
theorem walk (w : World) (A0 : Option Addr) (l0 : List UInt8) (c0 : Nat) (hi0 : BytR w A0 l0) (hc0 : l0.length ≤ c0) (hl0 : l0.length ≤ 9223372036854775807) (A1 : Option Addr) (l1 : List UInt8) (c1 : Nat) (hi1 : BytR w A1 l1) (hc1 : l1.length ≤ c1) (hl1 : l1.length ≤ 9223372036854775807) (A2 : Option Addr) (l2 : List UInt8) (c2 : Nat) (hi2 : BytR w A2 l2) (hc2 : l2.length ≤ c2) (hl2 : l2.length ≤ 9223372036854775807) :
    Calls Try.prog 7 #[.slice A0 l0.length c0, .slice A1 l1.length c1, .slice A2 l2.length c2] w fun e w' => e = .returned (.bool true) ∧ Below w.heap.size w w' := by
  obtain ⟨m, hm⟩ : ∃ m, l0.length = m := ⟨_, rfl⟩
  obtain ⟨m1, hm1⟩ : ∃ m1, l1.length = m1 := ⟨_, rfl⟩
  obtain ⟨m2, hm2⟩ : ∃ m2, l2.length = m2 := ⟨_, rfl⟩
  rw [hm] at hc0 hl0 ⊢
  rw [hm1] at hc1 hl1 ⊢
  rw [hm2] at hc2 hl2 ⊢
  have HS0 := Lib.hid (fun w r hr => short_any A0 m c0 w r hr)
  have HS1 := Lib.hid (fun w r hr => short_any A1 m1 c1 w r hr)
  have HS2 := Lib.hid (fun w r hr => short_any A2 m2 c2 w r hr)
  by_cases hbig : 3000 < m ∨ 3000 < m1 ∨ 3000 < m2
  · clear hi0 hi1 hi2 hm hm1 hm2
    by_cases q0 : 3000 < m
    · go_enter Try.func7, Try.ntmps7
      go_wp2_with fail
      refine (HS0.out _ false (by simp; omega)).mono ?_
      rintro e w1 ⟨rfl, rfl⟩
      go_wp2_with fail
      refine (awake_any _).mono ?_
      rintro e w9 ⟨rfl, hb9⟩
      go_wp2_with fail
      go_ret
      exact ⟨rfl, hb9⟩
    by_cases q1 : 3000 < m1
    · go_enter Try.func7, Try.ntmps7
      go_wp2_with fail
      refine (HS0.out _ true (by simp; omega)).mono ?_
      rintro e w1 ⟨rfl, rfl⟩
      go_wp2_with fail
      refine (HS1.out _ false (by simp; omega)).mono ?_
      rintro e w1 ⟨rfl, rfl⟩
      go_wp2_with fail
      refine (awake_any _).mono ?_
      rintro e w9 ⟨rfl, hb9⟩
      go_wp2_with fail
      go_ret
      exact ⟨rfl, hb9⟩
    · have q2 : 3000 < m2 := by omega
      clear hbig
      go_enter Try.func7, Try.ntmps7
      go_wp2_with fail
      refine (HS0.out _ true (by simp; omega)).mono ?_
      rintro e w1 ⟨rfl, rfl⟩
      go_wp2_with fail
      refine (HS1.out _ true (by simp; omega)).mono ?_
      rintro e w1 ⟨rfl, rfl⟩
      go_wp2_with fail
      refine (HS2.out _ false (by simp; omega)).mono ?_
      rintro e w1 ⟨rfl, rfl⟩
      go_wp2_with fail
      refine (awake_any _).mono ?_
      rintro e w9 ⟨rfl, hb9⟩
      go_wp2_with fail
      go_ret
      exact ⟨rfl, hb9⟩
  have g0 : m ≤ 3000 := by omega
  have g1 : m1 ≤ 3000 := by omega
  have g2 : m2 ≤ 3000 := by omega
  clear hbig
  obtain ⟨k, hk⟩ : ∃ k, (fr l0).length = k := ⟨_, rfl⟩
  have hk2 : k ≤ 3014 ∧ m + 5 ≤ k := by
    have := fr_len l0
    have := enc_ten (n := (l0.length : Int)) (by omega) (by omega)
    have := enc_pos (l0.length : Int)
    omega
  obtain ⟨hk3, hk4⟩ := hk2
  have hop := Op_fr (C := l0) (by omega) l1 l2
  rw [hk, hm1] at hop
  obtain ⟨T, hT⟩ : ∃ T, l1 ++ (fr l0 ++ l2) = T := ⟨_, rfl⟩
  have hTl : T.length = m1 + (k + m2) := by rw [← hT, List.length_append, List.length_append, hm1, hk, hm2]
  have H1 := Lib.hid (seal_ret A0 l0 m c0 k w hk hm (by omega) hi0)
  have HI0 := Lib.hid hi0
  have HI1 := Lib.hid hi1
  have HI2 := Lib.hid hi2
  have HM0 := Lib.hid hm
  have HM1 := Lib.hid hm1
  have HM2 := Lib.hid hm2
  have HK := Lib.hid hk
  have hz : (((m1 + k : Nat)) : Int) = (m1 : Int) + (k : Int) := by omega
  rw [hT, hz] at hop
  obtain ⟨t, ht⟩ : ∃ t, T.length = t := ⟨_, rfl⟩
  have htl : t = m1 + (k + m2) := by omega
  have HOP := Lib.hid (fun B d w1 (hd : t ≤ d) (hr : BytR w1 B T) => open_ret B T t d m (m1 : Int) w1 l0 _ 0 hm hop ht (by omega) hd hr (by omega) (by omega))
  have HT := Lib.hid hT
  have HTL := Lib.hid ht
  have htb : t ≤ 10000 := by omega
  have hkz : (m : Int) + 4 < (k : Int) := by omega
  obtain ⟨K, hK⟩ : ∃ K, fr l0 = K := ⟨_, rfl⟩
  rw [hK] at H1 HK HT
  clear hi0 hi1 hi2 hm hm1 hm2 hk hop hT hTl ht htl hz hK
  go_enter Try.func7, Try.ntmps7
  go_wp2_with fail
  refine (HS0.out _ true (by simp; omega)).mono ?_
  rintro e w1 ⟨rfl, rfl⟩
  go_wp2_with fail
  refine (HS1.out _ true (by simp; omega)).mono ?_
  rintro e w1 ⟨rfl, rfl⟩
  go_wp2_with fail
  refine (HS2.out _ true (by simp; omega)).mono ?_
  rintro e w1 ⟨rfl, rfl⟩
  go_wp2_with fail
  refine H1.out.mono ?_
  rintro e w1 ⟨B1, d1, rfl, _, hr1, hB1⟩
  have HR1 := Lib.hid hr1
  have HO := Lib.hid (OwnB.empty w1 (Nat.le_refl w1.heap.size))
  have hBe : Below w1.heap.size w1 (w1.alloc (.cells #[] 5)) := (Below.refl _ _).alloc (Nat.le_refl _) _
  have HBe := Lib.hid hBe
  have hsz := hBe.size
  have hB2 := Below.step hB1 hBe
  have HB2 := Lib.hid hB2
  clear hr1 H1 hB2 hBe
  go_wp2_with (at_builtin; refine wpList_append_bytes rfl _ _ rfl w1.heap.size _ [] l1 rfl HO.out A1 m1 c1 HM1.out rfl (HI1.out.below HB2.out) (by simp; omega) hsz ?_)
  intro v2 w2 hO2 hB3
  have HO2 : Hid (OwnB w2 w1.heap.size v2 l1) := Lib.hid (by simpa using hO2.out)
  have hB4 := HBe.out.trans hB3
  have HR2 := Lib.hid (HR1.out.below hB4)
  have hsz4 := hB4.size
  clear hO2 hB3 HBe HR1 HO hsz
  go_wp2_with (at_builtin; refine wpList_append_bytes rfl _ _ rfl w1.heap.size _ l1 K rfl HO2.out B1 k d1 HK.out rfl HR2.out (by have := HM1.out; omega) hsz4 ?_)
  intro v3 w3 hO3 hB5
  have hB6 := hB4.trans hB5
  have hB7 := Below.step hB1 hB6
  have hsz6 := hB6.size
  clear hB4 hB5 HO2 HR2 hsz4
  go_wp2_with (at_builtin; refine wpList_append_bytes rfl _ _ rfl w1.heap.size _ (l1 ++ K) l2 rfl hO3.out A2 m2 c2 HM2.out rfl (HI2.out.below hB7) (by have := HM1.out; have := HK.out; rw [List.length_append]; omega) hsz6 ?_)
  intro v4 w4 hO4 hB8
  have HO4 : Hid (OwnB w4 w1.heap.size v4 T) := Lib.hid (by
    have := hO4.out
    first
      | (rw [HT.out] at this; exact this)
      | (rw [List.append_assoc, HT.out] at this; exact this))
  obtain ⟨B4, d4, hv4, hd4, hr4⟩ := HO4.out.form
  rw [HTL.out] at hv4 hd4
  subst hv4
  have hB9 := Below.step hB1 (hB6.trans hB8)
  have H4 := Lib.hid (HOP.out B4 d4 w4 hd4 hr4)
  clear hO4 HO4 hr4 hB1 hB6 hB7 hB8 hO3 HOP HB2 hsz6
  go_wp2_with fail
  refine H4.out.mono ?_
  rintro e w5 ⟨B5, d5, rfl, hr5, hBa⟩
  have hBb := Below.step hB9 hBa
  have HR5 := Lib.hid hr5
  clear hr5 hB9 hBa H4
  go_wp2_with fail
  refine (sameT_any B5 m d5 A0 c0 l0 w5 HM0.out (by omega) HR5.out (HI0.out.below hBb)).mono ?_
  rintro e w6 ⟨rfl, hBc⟩
  have hBd := Below.step hBb hBc
  clear hBb hBc HR5
  go_wp2_with fail
  refine (awake_any _).mono ?_
  rintro e w9 ⟨rfl, hb9⟩
  go_wp2_with fail
  go_ret
  exact ⟨rfl, Below.step hBd hb9⟩

set_option maxRecDepth 100000 in
theorem lifted (os : Os) (started : os.Started) (H : Type) (enc : TypeId × Value → H) (F : Stop.Interp) :
    ReturnsInHanded {} Try.checked os 7 .any ((OpenSpec.ofChange Rows.crcRoundTripSpec).preRow enc Try.prog Try.f7 Rows.crcRoundTripRow.domain false Rows.crcRoundTripRow.laid) (((OpenSpec.ofChange Rows.crcRoundTripSpec).at F).post enc Try.prog Try.f7 false true false false) := by
  refine returnsInHanded_of_row (C := Try.checked) (s := OpenSpec.ofChange Rows.crcRoundTripSpec) own started (by kernel_rfl) Try.func7
    (ChangeSpec.witness_shaped (enc := enc) (C := Try.checked) (os := os) (X := fun w _ => laidMetH Try.prog Rows.crcRoundTripRow.laid w) false (World.laidAll Try.prog os Rows.crcRoundTripRow.laid) #[.slice none 0 0, .slice none 0 0, .slice none 0 0] 8 (World.laidAll_os _ _ _)
      (World.shaped_of_ZipB (by kernel_rfl) (by kernel_rfl)) (by kernel_rfl) (by kernel_rfl) (by kernel_rfl)
      (by rw [MakeChecks.laidMetH_plain _ _ _ (by kernel_rfl)]; exact laidMet_laidAll _ (by kernel_rfl) (by kernel_rfl))) ?_
  intro W base args ds gs before hval0 hW _ _ _ hL hsh _
  have hval : ∀ (j : Nat) t v, Try.f7.params[j]? = some t → args[j]? = some v → Value.okWide Try.prog W .any base t v := hval0
  have hW' := hW
  obtain ⟨p, q, hA0, hV, rfl, hfz, hnd⟩ := hW
  have hA : DataW.TrodAll enc Try.prog W 0 (fun _ => true) true Try.f7.params.toList args.toList ds p := hA0
  rw [Try.params7] at hA hval
  obtain ⟨v0, vs0, d0, ds0, p0, q0, hargs, rfl, rfl, h0, r0⟩ := trodAll_cons hA
  obtain ⟨v1, vs1, d1, ds1, p1, q1, rfl, rfl, rfl, h1, r1⟩ := trodAll_cons r0
  obtain ⟨v2, vs2, d2, ds2, p2, q2, rfl, rfl, rfl, h2, r2⟩ := trodAll_cons r1
  obtain ⟨rfl, rfl, rfl⟩ := trodAll_nil r2
  obtain rfl : args = #[v0, v1, v2] := by cases args; simp_all
  obtain ⟨rfl, rfl⟩ := trodVars_none hV
  obtain ⟨A0, l0, c0, rfl, hi0, hc0, hl0⟩ := bytes_open (hval 0 22 v0 rfl rfl) h0
  obtain ⟨A1, l1, c1, rfl, hi1, hc1, hl1⟩ := bytes_open (hval 1 22 v1 rfl rfl) h1
  obtain ⟨A2, l2, c2, rfl, hi2, hc2, hl2⟩ := bytes_open (hval 2 22 v2 rfl rfl) h2
  clear hA0 hval0
  simp only [List.append_nil] at hW'
  have hlt0 : ∀ x ∈ p0, x.block < W.heap.size := fun x hx => by simpa using hW'.lt x (by simp [hx])
  have hargs0 : ∀ (W' : World), Below W.heap.size W W' → DataW.Trod enc Try.prog W' 0 (fun b => decide (b < W.heap.size)) true 22 (.slice A0 l0.length c0) d0 p0 := fun W' hn => Below.trod laidOut (by kernel_rfl) (of_decide_eq_true (by kernel_rfl)) h0 hn hlt0
  have hlt1 : ∀ x ∈ p1, x.block < W.heap.size := fun x hx => by simpa using hW'.lt x (by simp [hx])
  have hargs1 : ∀ (W' : World), Below W.heap.size W W' → DataW.Trod enc Try.prog W' 0 (fun b => decide (b < W.heap.size)) true 22 (.slice A1 l1.length c1) d1 p1 := fun W' hn => Below.trod laidOut (by kernel_rfl) (of_decide_eq_true (by kernel_rfl)) h1 hn hlt1
  have hlt2 : ∀ x ∈ p2, x.block < W.heap.size := fun x hx => by simpa using hW'.lt x (by simp [hx])
  have hargs2 : ∀ (W' : World), Below W.heap.size W W' → DataW.Trod enc Try.prog W' 0 (fun b => decide (b < W.heap.size)) true 22 (.slice A2 l2.length c2) d2 p2 := fun W' hn => Below.trod laidOut (by kernel_rfl) (of_decide_eq_true (by kernel_rfl)) h2 hn hlt2
  refine (walk W A0 l0 c0 hi0 hc0 hl0 A1 l1 c1 hi1 hc1 hl1 A2 l2 c2 hi2 hc2 hl2).mono fun e W' ⟨he, hb⟩ => ?_
  subst he
  exact ⟨_, rfl, _, _, _, [], p0 ++ (p1 ++ (p2 ++ ([]))), [], hW', trodAll_mk1 (shut_bool Try.underlying4 _), (trodAll_cons_mk (hargs0 W' hb) (trodAll_cons_mk (hargs1 W' hb) (trodAll_cons_mk (hargs2 W' hb) trodAll_mk0))), rfl, hb.frame _, fun h => by cases h⟩

theorem said : Rows.CrcRoundTripSaid :=
  OpenClaim.holds_of_cond 7 Try.f7 rfl rfl rfl rfl rfl rfl rfl ⟨rfl, rfl, rfl, rfl, rfl⟩ rfl rfl rfl rfl rfl (by kernel_rfl) Try.func7 (by kernel_rfl)
    (of_decide_eq_true (by kernel_rfl)) (by unfold Func.isWrapper; first | (rw [if_pos (by decide +kernel)]; kernel_rfl) | (rw [if_neg (by decide +kernel)]; exact ⟨rfl, rfl⟩))
    (fun os started H enc _ F => by rw [OpenClaim.pre_eq_preRow]; exact lifted os started H enc F)
#print axioms said
end Go.Proofs.Ythafaococbdhoaa.crcRoundTrip
