/-
  P5.3, P5.4: CrcOpens: for every byte string of at most 3000 bytes and every index Open returns the content, the index behind it and the error that the chapter describes, and Recover the contents and the index; and the chapter's examples hold (of a longer byte string the examples alone). Conditions: none but the row's own.
-/
import Derived.Test.YthafaococbdhoaaCrcQ
namespace Go.Proofs.Ythafaococbdhoaa.crcOpens
open Go.ChangeShapes Go.WideShapes Go.ChangeAt Go.RowKit Go.Maps
set_option linter.unusedVariables false

set_option maxRecDepth 100000 in
set_option maxHeartbeats 4000000 in
theorem walk (w : World) (A0 : Option Addr) (l0 : List UInt8) (c0 : Nat) (hi0 : BytR w A0 l0) (hc0 : l0.length ≤ c0) (hl0 : l0.length ≤ 9223372036854775807) (a1 : Int) (lo1 : -9223372036854775808 ≤ a1) (hi1 : a1 ≤ 9223372036854775807) :
    Calls Try.prog 5 #[.slice A0 l0.length c0, .int .i64 a1] w fun e w' => e = .returned (.bool true) ∧ Below w.heap.size w w' := by
  obtain ⟨m, hm⟩ : ∃ m, l0.length = m := ⟨_, rfl⟩
  rw [hm] at hc0 hl0 ⊢
  by_cases hb : m ≤ 3000
  · have HS := Lib.hid (fun w => short_any A0 m c0 w true (by simpa using hb))
    obtain ⟨C, X, E, hO⟩ : ∃ C X E, Op l0 a1 = (C, X, E) := ⟨_, _, _, rfl⟩
    obtain ⟨L, Y, hR⟩ : ∃ L Y, Rc l0 (m + 1) 0 [] = (L, Y) := ⟨_, _, rfl⟩
    obtain ⟨k, hk⟩ : ∃ k, C.length = k := ⟨_, rfl⟩
    obtain ⟨n, hn⟩ : ∃ n, L.length = n := ⟨_, rfl⟩
    have hOl := Op_len hO
    have hRl := Rc_len l0 (m + 1) 0 [] L Y hR (Nat.le_refl _) (Nat.zero_le _) (fun j => by simp)
    rw [hk, hm] at hOl
    rw [hn, hm] at hRl
    have H1 := Lib.hid (open_ret A0 l0 m c0 k a1 w C X E hk hO hm (by omega) hc0 hi0 lo1 hi1)
    have H2 := Lib.hid (fun w1 (hb : Below w.heap.size w w1) => refOpen_ret A0 l0 m c0 k a1 w1 C X E hk hO hm (by omega) hc0 (hi0.below hb) lo1 hi1)
    have H3 := Lib.hid (fun w1 (hb : Below w.heap.size w w1) => recover_ret A0 l0 m c0 (m + 1) n w1 L Y hn (by omega) hR hm (by omega) hc0 (hi0.below hb))
    have H4 := Lib.hid (fun w1 (hb : Below w.heap.size w w1) => refRecover_ret A0 l0 m c0 n w1 L Y hn hR hm (by omega) hc0 (hi0.below hb))
    have HK := Lib.hid (And.intro hk hOl)
    have HN := Lib.hid (And.intro hn hRl)
    clear hi0 hm hk hn hO hR hOl hRl
    go_enter Try.func5, Try.ntmps5
    go_wp2_with fail
    refine (HS.out _).mono ?_
    rintro e w1 ⟨rfl, rfl⟩
    go_wp2_with fail
    refine H1.out.mono ?_
    rintro e w1 ⟨B1, d1, rfl, hr1, hB1⟩
    have HR1 := Lib.hid hr1
    clear hr1 H1
    go_wp2_with fail
    refine (H2.out w1 hB1).mono ?_
    rintro e w2 ⟨B2, d2, rfl, hr2, hB3⟩
    have hB4 := Below.step hB1 hB3
    have HR2 := Lib.hid (HR1.out.below hB3)
    have HR3 := Lib.hid hr2
    clear hr2 hB1 hB3 HR1 H2
    go_wp2_with fail
    refine (H3.out w2 hB4).mono ?_
    rintro e w3 ⟨B3, d3, rfl, hr3, hB5⟩
    have hB6 := Below.step hB4 hB5
    have HR4 := Lib.hid (HR2.out.below hB5)
    have HR5 := Lib.hid (HR3.out.below hB5)
    have HR6 := Lib.hid hr3
    clear hr3 hB4 hB5 HR2 HR3 H3
    go_wp2_with fail
    refine (H4.out w3 hB6).mono ?_
    rintro e w4 ⟨B4, d4, rfl, hr4, hB7⟩
    have hB8 := Below.step hB6 hB7
    have HR7 := Lib.hid (HR4.out.below hB7)
    have HR8 := Lib.hid (HR5.out.below hB7)
    have HR9 := Lib.hid (HR6.out.below hB7)
    have HRa := Lib.hid hr4
    clear hr4 hB6 hB7 HR4 HR5 HR6 H4
    go_wp2_with fail
    refine (sameT_any B1 k d1 B2 d2 C w4 HK.out.1 (by have := HK.out.2.1; omega) HR7.out HR8.out).mono ?_
    rintro e w5 ⟨rfl, hB9⟩
    have hBa := Below.step hB8 hB9
    have HRb := Lib.hid (HR9.out.below hB9)
    have HRc := Lib.hid (HRa.out.below hB9)
    clear hB8 hB9 HR7 HR8 HR9 HRa
    go_wp2_with fail
    refine (sameAllT_any B3 n d3 B4 d4 L w5 HN.out.1 (by have := HN.out.2; omega) (fun j => by have := HN.out.2.2.2 j; omega) HRb.out HRc.out).mono ?_
    rintro e w6 ⟨rfl, hBb⟩
    have hBc := Below.step hBa hBb
    clear hBa hBb HRb HRc
    go_wp2_with fail
    refine (awake_any _).mono ?_
    rintro e w9 ⟨rfl, hb9⟩
    go_wp2_with fail
    go_ret
    exact ⟨rfl, Below.step hBc hb9⟩
  · have HS := Lib.hid (fun w => short_any A0 m c0 w false (by simpa using hb))
    clear hi0 hm
    go_enter Try.func5, Try.ntmps5
    go_wp2_with fail
    refine (HS.out _).mono ?_
    rintro e w1 ⟨rfl, rfl⟩
    go_wp2_with fail
    refine (awake_any _).mono ?_
    rintro e w9 ⟨rfl, hb9⟩
    go_wp2_with fail
    go_ret
    exact ⟨rfl, hb9⟩

set_option maxRecDepth 100000 in
theorem lifted (os : Os) (started : os.Started) (H : Type) (enc : TypeId × Value → H) (F : Stop.Interp) :
    ReturnsInHanded {} Try.checked os 5 .any ((OpenSpec.ofChange Rows.crcOpensSpec).preRow enc Try.prog Try.f5 Rows.crcOpensRow.domain false Rows.crcOpensRow.laid) (((OpenSpec.ofChange Rows.crcOpensSpec).at F).post enc Try.prog Try.f5 false true false false) := by
  refine returnsInHanded_of_row (C := Try.checked) (s := OpenSpec.ofChange Rows.crcOpensSpec) own started (by kernel_rfl) Try.func5
    (ChangeSpec.witness_shaped (enc := enc) (C := Try.checked) (os := os) (X := fun w _ => laidMetH Try.prog Rows.crcOpensRow.laid w) false (World.laidAll Try.prog os Rows.crcOpensRow.laid) #[.slice none 0 0, .int .i64 0] 8 (World.laidAll_os _ _ _)
      (World.shaped_of_ZipB (by kernel_rfl) (by kernel_rfl)) (by kernel_rfl) (by kernel_rfl) (by kernel_rfl)
      (by rw [MakeChecks.laidMetH_plain _ _ _ (by kernel_rfl)]; exact laidMet_laidAll _ (by kernel_rfl) (by kernel_rfl))) ?_
  intro W base args ds gs before hval0 hW _ _ _ hL hsh _
  have hval : ∀ (j : Nat) t v, Try.f5.params[j]? = some t → args[j]? = some v → Value.okWide Try.prog W .any base t v := hval0
  have hW' := hW
  obtain ⟨p, q, hA0, hV, rfl, hfz, hnd⟩ := hW
  have hA : DataW.TrodAll enc Try.prog W 0 (fun _ => true) true Try.f5.params.toList args.toList ds p := hA0
  rw [Try.params5] at hA hval
  obtain ⟨v0, vs0, d0, ds0, p0, q0, hargs, rfl, rfl, h0, r0⟩ := trodAll_cons hA
  obtain ⟨v1, vs1, d1, ds1, p1, q1, rfl, rfl, rfl, h1, r1⟩ := trodAll_cons r0
  obtain ⟨rfl, rfl, rfl⟩ := trodAll_nil r1
  obtain rfl : args = #[v0, v1] := by cases args; simp_all
  obtain ⟨rfl, rfl⟩ := trodVars_none hV
  obtain ⟨A0, l0, c0, rfl, hi0, hc0, hl0⟩ := bytes_open (hval 0 22 v0 rfl rfl) h0
  obtain ⟨a1, rfl, rfl, rfl, w1⟩ := open_int Try.underlying3 (hval 1 3 v1 rfl rfl) h1
  have bd1 := i64_bd w1
  clear hA0 hval0
  simp only [List.append_nil] at hW'
  have hlt0 : ∀ x ∈ p0, x.block < W.heap.size := fun x hx => by simpa using hW'.lt x (by simp [hx])
  have hargs0 : ∀ (W' : World), Below W.heap.size W W' → DataW.Trod enc Try.prog W' 0 (fun b => decide (b < W.heap.size)) true 22 (.slice A0 l0.length c0) d0 p0 := fun W' hn => Below.trod laidOut (by kernel_rfl) (of_decide_eq_true (by kernel_rfl)) h0 hn hlt0
  refine (walk W A0 l0 c0 hi0 hc0 hl0 a1 bd1.1 bd1.2).mono fun e W' ⟨he, hb⟩ => ?_
  subst he
  exact ⟨_, rfl, _, _, _, [], p0 ++ ([]), [], hW', trodAll_mk1 (shut_bool Try.underlying4 _), (trodAll_cons_mk (hargs0 W' hb) (trodAll_cons_mk (shut_int Try.underlying3 w1) trodAll_mk0)), rfl, hb.frame _, fun h => by cases h⟩

theorem said : Rows.CrcOpensSaid :=
  OpenClaim.holds_of_cond 5 Try.f5 rfl rfl rfl rfl rfl rfl rfl ⟨rfl, rfl, rfl, rfl, rfl⟩ rfl rfl rfl rfl rfl (by kernel_rfl) Try.func5 (by kernel_rfl)
    (of_decide_eq_true (by kernel_rfl)) (by unfold Func.isWrapper; first | (rw [if_pos (by decide +kernel)]; kernel_rfl) | (rw [if_neg (by decide +kernel)]; exact ⟨rfl, rfl⟩))
    (fun os started H enc _ F => by rw [OpenClaim.pre_eq_preRow]; exact lifted os started H enc F)
#print axioms said
end Go.Proofs.Ythafaococbdhoaa.crcOpens
