/-
  P4.5: WireUnique: for every byte sequence of at most 2000 bytes and every integer (else the chapter's examples alone), what Int, Text or Ints decodes without an error is encoded as it was, and with an error they return nothing; and the chapter's examples hold. Conditions: none but the row's own.
-/
import Derived.Test.YtlanbilcekepnaaWirR
namespace Go.Proofs.Ytlanbilcekepnaa.wireUnique
open Go.ChangeShapes Go.WideShapes Go.ChangeAt Go.RowKit Go.Maps
set_option linter.unusedVariables false

theorem part_at {A : Option Addr} {m c x : Nat} {i : Int} {k : Nat} {w : World} {Q : Ending → World → Prop} (hk : i = (k : Int)) (h : Calls Try.prog 26 #[.slice A m c, .int .i64 (k : Int), .int .i64 (x : Int)] w Q) :
    Calls Try.prog 26 #[.slice A m c, .int .i64 i, .int .i64 (x : Int)] w Q := by rw [hk]; exact h

set_option maxRecDepth 100000 in
set_option maxHeartbeats 8000000 in
theorem walk (w : World) (A0 : Option Addr) (l0 : List UInt8) (c0 : Nat) (hi0 : BytR w A0 l0) (hc0 : l0.length ≤ c0) (hl0 : l0.length ≤ 9223372036854775807) (a1 : Int) (lo1 : -9223372036854775808 ≤ a1) (hi1 : a1 ≤ 9223372036854775807) :
    Calls Try.prog 8 #[.slice A0 l0.length c0, .int .i64 a1] w fun e w' => e = .returned (.bool true) ∧ Below w.heap.size w w' := by
  obtain ⟨m, hm⟩ : ∃ m, l0.length = m := ⟨_, rfl⟩
  rw [hm] at hc0 hl0 ⊢
  by_cases hb : 2000 < m
  · have hbz : (2000 : Int) < (m : Int) := by omega
    clear hi0 hm
    go_enter Try.func8, Try.ntmps8
    go_wp2_with fail
    refine (awake_any _).mono ?_
    rintro e w9 ⟨rfl, hb9⟩
    go_wp2_with fail
    go_ret
    exact ⟨rfl, hb9⟩
  have hbz : ¬ (2000 : Int) < (m : Int) := by omega
  have H1 := Lib.hid (fun N X E hI => int_any A0 l0 m c0 a1 w N X E hI hm (by omega) hc0 hi0 lo1 hi1)
  have H2 := Lib.hid (fun w1 (hb1 : Below w.heap.size w w1) T X E hI => text_any A0 l0 m c0 a1 w1 T X E hI hm (by omega) hc0 (hi0.below hb1) lo1 hi1)
  have H3 := Lib.hid (fun w1 (hb1 : Below w.heap.size w w1) L X E hI => ints_any A0 l0 m c0 a1 w1 L X E hI hm (by omega) hc0 (hi0.below hb1) lo1 hi1)
  have HP := Lib.hid (fun w1 (hb1 : Below w.heap.size w w1) k x (hk : a1 = ((k : Nat) : Int)) h1 h2 => part_at hk (part_any A0 l0 m c0 k x w1 hm (by omega) hc0 (hi0.below hb1) h1 h2))
  have HM := Lib.hid hm
  have Z1 := Lib.hid (It_cases l0 a1)
  have Z2 := Lib.hid (Tt_cases l0 a1)
  have Z3 := Lib.hid (Ls_cases l0 a1)
  have HB0 : Hid (Below w.heap.size w w) := Lib.hid (Below.refl _ _)
  clear hm hi0
  rcases Z1.out with ⟨E, h5, h6, _⟩ | ⟨k, x, n, hk, h1, h2, h3, h4, h5, h6⟩
  case' inl =>
    have HI := Lib.hid (H1.out _ _ _ h5)
    have hz : ¬ (E : Int) = 0 := by omega
    have hz2 : ((E : Int) == 0) = false := by rw [beq_eq_false_iff_ne]; omega
    have hB1 : Below w.heap.size w w := HB0.out
    clear h5
    go_enter Try.func8, Try.ntmps8
    go_wp2_with fail
    refine HI.out.mono ?_
    rintro e w1 ⟨rfl, rfl⟩
    clear HI
    go_wp2_with fail
  case' inr =>
    have HI := Lib.hid (H1.out _ _ _ h6)
    rw [HM.out] at h2
    have hlen : ([] ++ enc n).length = x - k := by
      have := congrArg List.length h5
      rw [List.length_take, List.length_drop, HM.out] at this
      rw [List.nil_append, ← this]
      omega
    have HPI := Lib.hid (toRet hlen (putInt_own none [] 0 0 n w rfl (by decide) (by decide) (VsR.nil w _) h3 h4))
    have HPP := Lib.hid (HP.out w HB0.out k x hk h1 h2)
    have HLEN := Lib.hid hlen
    rw [h5] at HPP
    rw [List.nil_append] at HPI HLEN
    obtain ⟨K, hK⟩ : ∃ K, enc n = K := ⟨_, rfl⟩
    obtain ⟨q, hq⟩ : ∃ q, x - k = q := ⟨_, rfl⟩
    rw [hK, hq] at HPI HPP HLEN
    clear h5 h6 hlen hK hq hk
    go_enter Try.func8, Try.ntmps8
    go_wp2_with fail
    refine HI.out.mono ?_
    rintro e w1 ⟨rfl, rfl⟩
    go_wp2_with fail
    refine HPP.out.mono ?_
    rintro e w1 ⟨B1, d1, rfl, hr1, rfl⟩
    have HR1 := Lib.hid hr1
    clear hr1
    go_wp2_with fail
    refine HPI.out.mono ?_
    rintro e w1 ⟨B2, d2, rfl, hd2, hr2, hB1⟩
    have HR2 := Lib.hid hr2
    have HR3 := Lib.hid (HR1.out.below hB1)
    clear hr2 HR1
    go_wp2_with fail
    refine (sameB_any B1 q d1 B2 q d2 K w1 HLEN.out HLEN.out HR3.out HR2.out).mono ?_
    rintro e w2 ⟨rfl, rfl⟩
    clear HR2 HR3 HPI HPP HI HLEN
    go_wp2_with fail
  all_goals
    clear H1 Z1
    rcases Z2.out with ⟨E2, g5, g6, _⟩ | ⟨k2, x2, T, gk, g1, g2, g3, g5, g6⟩
    case' inl =>
      have HI := Lib.hid (H2.out _ hB1 _ _ _ g5)
      rw [show (⟨([] : List UInt8).toArray⟩ : ByteArray) = ⟨#[]⟩ from rfl] at HI
      have hy : ¬ (E2 : Int) = 0 := by omega
      have hy2 : ((E2 : Int) == 0) = false := by rw [beq_eq_false_iff_ne]; omega
      have hB2 := hB1
      clear g5
      refine HI.out.mono ?_
      rintro e w2 ⟨rfl, rfl⟩
      clear HI
      go_wp2_with fail
    case' inr =>
      have HI := Lib.hid (H2.out _ hB1 _ _ _ g6)
      rw [HM.out] at g2 g3
      have hlen : ([] ++ (enc (((⟨T.toArray⟩ : ByteArray).size : Nat) : Int) ++ (⟨T.toArray⟩ : ByteArray).data.toList)).length = x2 - k2 := by
        have := congrArg List.length g5
        rw [List.length_take, List.length_drop, HM.out] at this
        rw [List.nil_append]
        show (enc T.length ++ T).length = _
        rw [← this]
        omega
      have HPI := Lib.hid (fun w1 => toRet hlen (putText_own none [] 0 0 ⟨T.toArray⟩ w1 rfl (by decide) (by show T.length ≤ 50000; omega) (by decide) (VsR.nil w1 _)))
      have HPP := Lib.hid (fun w1 hb1 => HP.out w1 hb1 k2 x2 gk g1 g2)
      have HLEN := Lib.hid hlen
      rw [g5] at HPP
      rw [List.nil_append] at HPI HLEN
      change Hid (∀ w1, Calls Try.prog 15 #[.slice none 0 0, .string ⟨T.toArray⟩] w1 fun e w' => RetP w1 (enc T.length ++ T) (x2 - k2) e w') at HPI
      change Hid ((enc T.length ++ T).length = x2 - k2) at HLEN
      obtain ⟨K2, hK⟩ : ∃ K, enc T.length ++ T = K := ⟨_, rfl⟩
      obtain ⟨q2, hq⟩ : ∃ q, x2 - k2 = q := ⟨_, rfl⟩
      obtain ⟨S, hS⟩ : ∃ S : ByteArray, ⟨T.toArray⟩ = S := ⟨_, rfl⟩
      rw [hK, hq] at HPI HPP HLEN
      rw [hS] at HPI HI
      clear g5 g6 hlen hK hq hS gk
      refine HI.out.mono ?_
      rintro e w2 ⟨rfl, rfl⟩
      go_wp2_with fail
      refine (HPP.out _ hB1).mono ?_
      rintro e w2 ⟨B3, d3, rfl, hr1, rfl⟩
      have HR1 := Lib.hid hr1
      clear hr1
      go_wp2_with fail
      refine (HPI.out _).mono ?_
      rintro e w2 ⟨B4, d4, rfl, hd4, hr2, hB1b⟩
      have HR2 := Lib.hid hr2
      have HR3 := Lib.hid (HR1.out.below hB1b)
      have hB2 := Below.step hB1 hB1b
      clear hr2 HR1 hB1b
      go_wp2_with fail
      refine (sameB_any B3 q2 d3 B4 q2 d4 K2 w2 HLEN.out HLEN.out HR3.out HR2.out).mono ?_
      rintro e w3 ⟨rfl, rfl⟩
      clear HR2 HR3 HPI HPP HI HLEN
      go_wp2_with fail
  all_goals
    clear H2 Z2 hB1
    rcases Z3.out with ⟨E3, f5, f6, _⟩ | ⟨k3, x3, L, fk, f1, f2, f3, f4, f5, f6⟩
    case' inl =>
      have HI := Lib.hid (toRetI (n := 0) rfl (H3.out _ hB2 _ _ _ f5))
      have hx : ¬ (E3 : Int) = 0 := by omega
      have hx2 : ((E3 : Int) == 0) = false := by rw [beq_eq_false_iff_ne]; omega
      clear f5
      refine HI.out.mono ?_
      rintro e w3 ⟨B5, d5, rfl, _, hB2b⟩
      have hB3 := Below.step hB2 hB2b
      clear HI hB2 hB2b
      go_wp2_with fail
    case' inr =>
      rw [HM.out] at f2 f3
      obtain ⟨n3, hn3⟩ : ∃ n3, L.length = n3 := ⟨_, rfl⟩
      have HI := Lib.hid (toRetI hn3 (H3.out _ hB2 _ _ _ f6))
      have hlen : ([] ++ (enc L.length ++ encs L)).length = x3 - k3 := by
        have := congrArg List.length f5
        rw [List.length_take, List.length_drop, HM.out] at this
        rw [List.nil_append, ← this]
        omega
      have HPI := Lib.hid (fun w1 B d (hr : IntR w1 B L) => toRet hlen (putInts_own none [] 0 0 B L n3 d w1 rfl (by decide) (by decide) (VsR.nil w1 _) hn3 (by omega) f4 hr))
      have HPP := Lib.hid (fun w1 hb1 => HP.out w1 hb1 k3 x3 fk f1 f2)
      have HLEN := Lib.hid hlen
      rw [f5] at HPP
      rw [List.nil_append] at HPI HLEN
      obtain ⟨K3, hK⟩ : ∃ K, enc L.length ++ encs L = K := ⟨_, rfl⟩
      obtain ⟨q3, hq⟩ : ∃ q, x3 - k3 = q := ⟨_, rfl⟩
      rw [hK, hq] at HPI HPP HLEN
      clear f5 f6 hlen hK hq hn3 fk
      refine HI.out.mono ?_
      rintro e w3 ⟨B5, d5, rfl, hr5, hB2b⟩
      have hB2c := Below.step hB2 hB2b
      have HR5 := Lib.hid hr5
      clear hr5 hB2 hB2b
      go_wp2_with fail
      refine (HPP.out _ hB2c).mono ?_
      rintro e w4 ⟨B6, d6, rfl, hr1, rfl⟩
      have HR1 := Lib.hid hr1
      clear hr1
      go_wp2_with fail
      refine (HPI.out _ B5 d5 HR5.out).mono ?_
      rintro e w4 ⟨B7, d7, rfl, hd7, hr2, hB1b⟩
      have HR2 := Lib.hid hr2
      have HR3 := Lib.hid (HR1.out.below hB1b)
      have hB3 := Below.step hB2c hB1b
      clear hr2 HR1 hB1b hB2c HR5
      go_wp2_with fail
      refine (sameB_any B6 q3 d6 B7 q3 d7 K3 w4 HLEN.out HLEN.out HR3.out HR2.out).mono ?_
      rintro e w5 ⟨rfl, rfl⟩
      clear HR2 HR3 HPI HPP HI HLEN
      go_wp2_with fail
  all_goals
    refine (awake_any _).mono ?_
    rintro e w9 ⟨rfl, hb9⟩
    go_wp2_with fail
    go_ret
    exact ⟨rfl, Below.step hB3 hb9⟩

set_option maxRecDepth 100000 in
theorem lifted (os : Os) (started : os.Started) (H : Type) (enc : TypeId × Value → H) (F : Stop.Interp) :
    ReturnsInHanded {} Try.checked os 8 .any ((OpenSpec.ofChange Rows.wireUniqueSpec).preRow enc Try.prog Try.f8 Rows.wireUniqueRow.domain false Rows.wireUniqueRow.laid) (((OpenSpec.ofChange Rows.wireUniqueSpec).at F).post enc Try.prog Try.f8 false true false false) := by
  refine returnsInHanded_of_row (C := Try.checked) (s := OpenSpec.ofChange Rows.wireUniqueSpec) own started (by kernel_rfl) Try.func8
    (ChangeSpec.witness_shaped (enc := enc) (C := Try.checked) (os := os) (X := fun w _ => laidMetH Try.prog Rows.wireUniqueRow.laid w) false (World.laidAll Try.prog os Rows.wireUniqueRow.laid) #[.slice none 0 0, .int .i64 0] 8 (World.laidAll_os _ _ _)
      (World.shaped_of_ZipB (by kernel_rfl) (by kernel_rfl)) (by kernel_rfl) (by kernel_rfl) (by kernel_rfl)
      (by rw [MakeChecks.laidMetH_plain _ _ _ (by kernel_rfl)]; exact laidMet_laidAll _ (by kernel_rfl) (by kernel_rfl))) ?_
  intro W base args ds gs before hval0 hW _ _ _ hL hsh _
  have hval : ∀ (j : Nat) t v, Try.f8.params[j]? = some t → args[j]? = some v → Value.okWide Try.prog W .any base t v := hval0
  have hW' := hW
  obtain ⟨p, q, hA0, hV, rfl, hfz, hnd⟩ := hW
  have hA : DataW.TrodAll enc Try.prog W 0 (fun _ => true) true Try.f8.params.toList args.toList ds p := hA0
  rw [Try.params8] at hA hval
  obtain ⟨v0, vs0, d0, ds0, p0, q0, hargs, rfl, rfl, h0, r0⟩ := trodAll_cons hA
  obtain ⟨v1, vs1, d1, ds1, p1, q1, rfl, rfl, rfl, h1, r1⟩ := trodAll_cons r0
  obtain ⟨rfl, rfl, rfl⟩ := trodAll_nil r1
  obtain rfl : args = #[v0, v1] := by cases args; simp_all
  obtain ⟨rfl, rfl⟩ := trodVars_none hV
  obtain ⟨A0, l0, c0, rfl, hi0, hc0, hl0⟩ := bytes_open (hval 0 22 v0 rfl rfl) h0
  obtain ⟨a1, rfl, rfl, rfl, w1⟩ := open_int Try.underlying3 (hval 1 3 v1 rfl rfl) h1
  have bd1 := i64_bd w1
  clear hA0 hval0
  simp only [List.append_nil] at hW'
  have hlt0 : ∀ x ∈ p0, x.block < W.heap.size := fun x hx => by simpa using hW'.lt x (by simp [hx])
  have hargs0 : ∀ (W' : World), Below W.heap.size W W' → DataW.Trod enc Try.prog W' 0 (fun b => decide (b < W.heap.size)) true 22 (.slice A0 l0.length c0) d0 p0 := fun W' hn => Below.trod laidOut (by kernel_rfl) (of_decide_eq_true (by kernel_rfl)) h0 hn hlt0
  refine (walk W A0 l0 c0 hi0 hc0 hl0 a1 bd1.1 bd1.2).mono fun e W' ⟨he, hb⟩ => ?_
  subst he
  exact ⟨_, rfl, _, _, _, [], p0 ++ ([]), [], hW', trodAll_mk1 (shut_bool Try.underlying4 _), (trodAll_cons_mk (hargs0 W' hb) (trodAll_cons_mk (shut_int Try.underlying3 w1) trodAll_mk0)), rfl, hb.frame _, fun h => by cases h⟩

theorem said : Rows.WireUniqueSaid :=
  OpenClaim.holds_of_cond 8 Try.f8 rfl rfl rfl rfl rfl rfl rfl ⟨rfl, rfl, rfl, rfl, rfl⟩ rfl rfl rfl rfl rfl (by kernel_rfl) Try.func8 (by kernel_rfl)
    (of_decide_eq_true (by kernel_rfl)) (by unfold Func.isWrapper; first | (rw [if_pos (by decide +kernel)]; kernel_rfl) | (rw [if_neg (by decide +kernel)]; exact ⟨rfl, rfl⟩))
    (fun os started H enc _ F => by rw [OpenClaim.pre_eq_preRow]; exact lifted os started H enc F)
#print axioms said
end Go.Proofs.Ytlanbilcekepnaa.wireUnique
