/-
  P1.5: NumTexts: without the reference: for all integers and all strings of at most 100 bytes (the law's own bound), a number survives its text, and a string that is accepted is the text of its number; and the chapter's examples hold; the tied card. Conditions: the row's own (Go's own tables and error values hold what the program's text lays when the call begins).
-/
import Derived.Test.YtkoemofpepdopaaDoorNumP
import Derived.Test.YtkoemofpepdopaaDoorCards
import Derived.Test.YtkoemofpepdopaaDoorTie
namespace Go.Proofs.YtkoemofpepdopaaDoor.numTexts
open Go.ChangeShapes Go.WideShapes Go.ChangeAt Go.RowKit
set_option linter.unusedVariables false

theorem parseS_cases (s : List UInt8) (p : Int) : (∃ e, (e = 1 ∨ e = 3) ∧ parseS s p = (0, e)) ∨ (∃ v, parseS s p = (v, 0) ∧ validB v = true ∧ (0 ≤ p ∧ p ≤ 6) ∧ fmtT v p.toNat = s) := by
  unfold parseS
  by_cases h1 : p < 0 ∨ 6 < p
  · rw [if_pos h1]; exact Or.inl ⟨1, Or.inl rfl, rfl⟩
  · rw [if_neg h1]
    by_cases h2 : validB (valS s) = true ∧ fmtT (valS s) p.toNat = s
    · rw [if_pos h2]; exact Or.inr ⟨_, rfl, h2.1, by omega, h2.2⟩
    · rw [if_neg h2]; exact Or.inl ⟨3, Or.inr rfl, rfl⟩
theorem fmtS_ok (m p : Int) (hm : validB m = true) (h0 : 0 ≤ p) (h6 : p ≤ 6) : fmtS m p = (fmtT m p.toNat, 0) := by
  simp [fmtS, hm, h0, h6]
/-- The point stands before the last p digits. -/
theorem fmt_at (m : Int) (p : Nat) (hp : 1 ≤ p) : ∃ A B, fmtT m p = A ++ 46 :: B ∧ B.length = p ∧ 1 ≤ A.length := by
  unfold fmtT pointT
  rw [if_neg (by omega)]
  have hg := width_ge m.natAbs p
  refine ⟨signT m ++ (dgs m.natAbs (width m.natAbs p)).take ((dgs m.natAbs (width m.natAbs p)).length - p), _, (List.append_assoc _ _ _).symm, ?_, ?_⟩
  · rw [List.length_drop, dgs_length]; omega
  · rw [List.length_append, List.length_take, dgs_length]; omega
theorem fmt_len0 (m : Int) : 1 ≤ (fmtT m 0).length := by
  unfold fmtT pointT
  rw [if_pos rfl, List.length_append, dgs_length]
  have := width_ge m.natAbs 0
  omega

set_option maxRecDepth 100000 in
set_option maxHeartbeats 4000000 in
theorem walk_long (w : World) (f : Facts w) (a0 : Int) (lo0 : -9223372036854775808 ≤ a0) (hi0 : a0 ≤ 9223372036854775807) (a1 : Int) (lo1 : -9223372036854775808 ≤ a1) (hi1 : a1 ≤ 9223372036854775807) (s2 : ByteArray) (hs2 : s2.size ≤ 9223372036854775807) (hb : 100 < s2.size) :
    Calls Tryd.prog 12 #[.int .i64 a0, .int .i64 a1, .string s2] w fun e w' => e = .returned (.bool true) ∧ Below w.heap.size w w' := by
  have F := Lib.hid f
  have hbz : (100 : Int) < (s2.size : Int) := by omega
  clear f hb
  go_enter Tryd.func12, Tryd.ntmps12
  go_wp2_with (go_at_call 17; refine (awake_any _ F.out).mono ?_; rintro e w' ⟨rfl, hb⟩)
  go_ret
  exact ⟨rfl, hb⟩


set_option maxRecDepth 100000 in
set_option maxHeartbeats 4000000 in
theorem walk_err (w : World) (f : Facts w) (a0 : Int) (lo0 : -9223372036854775808 ≤ a0) (hi0 : a0 ≤ 9223372036854775807) (a1 : Int) (lo1 : -9223372036854775808 ≤ a1) (hi1 : a1 ≤ 9223372036854775807) (s2 : ByteArray) (hs2 : s2.size ≤ 9223372036854775807) (hb : s2.size ≤ 100) (hA0 : fmtS a0 a1 = ([], 1)) (hor : validB a0 = false ∨ a1 < 0 ∨ 6 < a1) :
    Calls Tryd.prog 12 #[.int .i64 a0, .int .i64 a1, .string s2] w fun e w' => e = .returned (.bool true) ∧ Below w.heap.size w w' := by
  have hbz : ¬ (100 : Int) < (s2.size : Int) := by omega
  have hA := fun w f => format_any a0 a1 w lo0 hi0 lo1 hi1 f
  rw [hA0] at hA
  have HA := Lib.hid hA
  have F := Lib.hid f
  clear hA hA0 f
  rcases hor with hv | hv | hv
  · rcases parseS_cases s2.data.toList (a1) with ⟨e0, he0, heq⟩ | ⟨v, heq, hval, hp, htx⟩
    · have hP0 := fun w f => parse_any s2 (a1) w (by omega) lo1 hi1 f
      rw [heq] at hP0
      have HP := Lib.hid hP0
      have hez : (e0 != 0) = true := by rcases he0 with rfl | rfl <;> decide
      clear hP0 heq he0
      go_enter Tryd.func12, Tryd.ntmps12
      go_wp2_with fail
      refine (HA.out _ F.out).mono ?_
      rintro e w1 ⟨rfl, hb1⟩
      go_wp2_with fail
      refine (refValid_any _ _ lo0 hi0).mono ?_
      rintro e w2 ⟨rfl, rfl⟩
      go_wp2_with fail
      refine (HP.out _ (F.out.below hb1)).mono ?_
      rintro e wp ⟨rfl, hbp⟩
      have hbq := Below.step hb1 hbp
      go_wp2_with fail
      refine (awake_any _ (F.out.below hbq)).mono ?_
      rintro e wr ⟨rfl, hbr⟩
      have hbs := Below.step hbq hbr
      go_wp2
      go_ret
      exact ⟨rfl, hbs⟩
    · have hP0 := fun w f => parse_any s2 (a1) w (by omega) lo1 hi1 f
      rw [heq] at hP0
      have HP := Lib.hid hP0
      have hvb := validB_true hval
      have hG0 := fun w f => format_any v (a1) w (by omega) (by omega) lo1 hi1 f
      rw [fmtS_ok v (a1) hval hp.1 hp.2, htx] at hG0
      simp only [Lib.mk_data] at hG0
      have HG := Lib.hid hG0
      clear hP0 hG0 heq htx hval hvb
      go_enter Tryd.func12, Tryd.ntmps12
      go_wp2_with fail
      refine (HA.out _ F.out).mono ?_
      rintro e w1 ⟨rfl, hb1⟩
      go_wp2_with fail
      refine (refValid_any _ _ lo0 hi0).mono ?_
      rintro e w2 ⟨rfl, rfl⟩
      go_wp2_with fail
      refine (HP.out _ (F.out.below hb1)).mono ?_
      rintro e wp ⟨rfl, hbp⟩
      have hbq := Below.step hb1 hbp
      go_wp2_with fail
      refine (HG.out _ (F.out.below hbq)).mono ?_
      rintro e wg ⟨rfl, hbg⟩
      have hbh := Below.step hbq hbg
      go_wp2_with fail
      refine (awake_any _ (F.out.below hbh)).mono ?_
      rintro e wr ⟨rfl, hbr⟩
      have hbs := Below.step hbh hbr
      go_wp2
      go_ret
      exact ⟨rfl, hbs⟩
  · have hv2 : ¬ (0 : Int) ≤ a1 := by omega
    cases hva : validB a0
    · rcases parseS_cases s2.data.toList (a1) with ⟨e0, he0, heq⟩ | ⟨v, heq, hval, hp, htx⟩
      · have hP0 := fun w f => parse_any s2 (a1) w (by omega) lo1 hi1 f
        rw [heq] at hP0
        have HP := Lib.hid hP0
        have hez : (e0 != 0) = true := by rcases he0 with rfl | rfl <;> decide
        clear hP0 heq he0
        go_enter Tryd.func12, Tryd.ntmps12
        go_wp2_with fail
        refine (HA.out _ F.out).mono ?_
        rintro e w1 ⟨rfl, hb1⟩
        go_wp2_with fail
        refine (refValid_any _ _ lo0 hi0).mono ?_
        rintro e w2 ⟨rfl, rfl⟩
        go_wp2_with fail
        refine (HP.out _ (F.out.below hb1)).mono ?_
        rintro e wp ⟨rfl, hbp⟩
        have hbq := Below.step hb1 hbp
        go_wp2_with fail
        refine (awake_any _ (F.out.below hbq)).mono ?_
        rintro e wr ⟨rfl, hbr⟩
        have hbs := Below.step hbq hbr
        go_wp2
        go_ret
        exact ⟨rfl, hbs⟩
      · exact absurd hp (by omega)
    · rcases parseS_cases s2.data.toList (a1) with ⟨e0, he0, heq⟩ | ⟨v, heq, hval, hp, htx⟩
      · have hP0 := fun w f => parse_any s2 (a1) w (by omega) lo1 hi1 f
        rw [heq] at hP0
        have HP := Lib.hid hP0
        have hez : (e0 != 0) = true := by rcases he0 with rfl | rfl <;> decide
        clear hP0 heq he0
        go_enter Tryd.func12, Tryd.ntmps12
        go_wp2_with fail
        refine (HA.out _ F.out).mono ?_
        rintro e w1 ⟨rfl, hb1⟩
        go_wp2_with fail
        refine (refValid_any _ _ lo0 hi0).mono ?_
        rintro e w2 ⟨rfl, rfl⟩
        go_wp2_with fail
        refine (HP.out _ (F.out.below hb1)).mono ?_
        rintro e wp ⟨rfl, hbp⟩
        have hbq := Below.step hb1 hbp
        go_wp2_with fail
        refine (awake_any _ (F.out.below hbq)).mono ?_
        rintro e wr ⟨rfl, hbr⟩
        have hbs := Below.step hbq hbr
        go_wp2
        go_ret
        exact ⟨rfl, hbs⟩
      · exact absurd hp (by omega)
  · have hv2 : ¬ a1 ≤ 6 := by omega
    have hv3 : (0 : Int) ≤ a1 := by omega
    cases hva : validB a0
    · rcases parseS_cases s2.data.toList (a1) with ⟨e0, he0, heq⟩ | ⟨v, heq, hval, hp, htx⟩
      · have hP0 := fun w f => parse_any s2 (a1) w (by omega) lo1 hi1 f
        rw [heq] at hP0
        have HP := Lib.hid hP0
        have hez : (e0 != 0) = true := by rcases he0 with rfl | rfl <;> decide
        clear hP0 heq he0
        go_enter Tryd.func12, Tryd.ntmps12
        go_wp2_with fail
        refine (HA.out _ F.out).mono ?_
        rintro e w1 ⟨rfl, hb1⟩
        go_wp2_with fail
        refine (refValid_any _ _ lo0 hi0).mono ?_
        rintro e w2 ⟨rfl, rfl⟩
        go_wp2_with fail
        refine (HP.out _ (F.out.below hb1)).mono ?_
        rintro e wp ⟨rfl, hbp⟩
        have hbq := Below.step hb1 hbp
        go_wp2_with fail
        refine (awake_any _ (F.out.below hbq)).mono ?_
        rintro e wr ⟨rfl, hbr⟩
        have hbs := Below.step hbq hbr
        go_wp2
        go_ret
        exact ⟨rfl, hbs⟩
      · exact absurd hp (by omega)
    · rcases parseS_cases s2.data.toList (a1) with ⟨e0, he0, heq⟩ | ⟨v, heq, hval, hp, htx⟩
      · have hP0 := fun w f => parse_any s2 (a1) w (by omega) lo1 hi1 f
        rw [heq] at hP0
        have HP := Lib.hid hP0
        have hez : (e0 != 0) = true := by rcases he0 with rfl | rfl <;> decide
        clear hP0 heq he0
        go_enter Tryd.func12, Tryd.ntmps12
        go_wp2_with fail
        refine (HA.out _ F.out).mono ?_
        rintro e w1 ⟨rfl, hb1⟩
        go_wp2_with fail
        refine (refValid_any _ _ lo0 hi0).mono ?_
        rintro e w2 ⟨rfl, rfl⟩
        go_wp2_with fail
        refine (HP.out _ (F.out.below hb1)).mono ?_
        rintro e wp ⟨rfl, hbp⟩
        have hbq := Below.step hb1 hbp
        go_wp2_with fail
        refine (awake_any _ (F.out.below hbq)).mono ?_
        rintro e wr ⟨rfl, hbr⟩
        have hbs := Below.step hbq hbr
        go_wp2
        go_ret
        exact ⟨rfl, hbs⟩
      · exact absurd hp (by omega)

set_option maxRecDepth 100000 in
set_option maxHeartbeats 4000000 in
theorem walk_ok (w : World) (f : Facts w) (a0 : Int) (lo0 : -9223372036854775808 ≤ a0) (hi0 : a0 ≤ 9223372036854775807) (a1 : Int) (lo1 : -9223372036854775808 ≤ a1) (hi1 : a1 ≤ 9223372036854775807) (s2 : ByteArray) (hs2 : s2.size ≤ 9223372036854775807) (hb : s2.size ≤ 100) (hval0 : validB a0 = true) (hp0 : 0 ≤ a1) (hp6 : a1 ≤ 6) :
    Calls Tryd.prog 12 #[.int .i64 a0, .int .i64 a1, .string s2] w fun e w' => e = .returned (.bool true) ∧ Below w.heap.size w w' := by
  have hbz : ¬ (100 : Int) < (s2.size : Int) := by omega
  have hv0 := validB_true hval0
  obtain ⟨p, rfl⟩ : ∃ p : Nat, a1 = p := ⟨a1.toNat, by omega⟩
  have hp : p ≤ 6 := by omega
  have hA := fun w f => format_any a0 p w lo0 hi0 lo1 hi1 f
  rw [fmtS_ok a0 p hval0 hp0 hp6, Int.toNat_natCast] at hA
  obtain ⟨T, hT⟩ : ∃ T : ByteArray, (⟨(fmtT a0 p).toArray⟩ : ByteArray) = T := ⟨_, rfl⟩
  have hTl : T.data.toList = fmtT a0 p := by rw [← hT]
  rw [hT] at hA
  have hTs : T.size = (fmtT a0 p).length := by rw [Lib.size_eq, hTl]
  have hTs2 : T.size ≤ 18 := by rw [hTs]; exact fmt_length a0 p (by omega) hp
  have hT1 := fun w f => parse_any T p w (by omega) lo1 hi1 f
  rw [hTl, parseS_yes _ p a0 hp hval0 rfl] at hT1
  have HA := Lib.hid hA
  have HT1 := Lib.hid hT1
  have F := Lib.hid f
  clear hA hT1 hT f hval0
  by_cases hz : p = 0
  · subst hz
    have hlen := fmt_len0 a0
    rw [← hTs] at hlen
    clear hTs hTl
    rcases parseS_cases s2.data.toList (((0 : Nat) : Int)) with ⟨e0, he0, heq⟩ | ⟨v, heq, hval, hp, htx⟩
    · have hP0 := fun w f => parse_any s2 (((0 : Nat) : Int)) w (by omega) lo1 hi1 f
      rw [heq] at hP0
      have HP := Lib.hid hP0
      have hez : (e0 != 0) = true := by rcases he0 with rfl | rfl <;> decide
      clear hP0 heq he0
      go_enter Tryd.func12, Tryd.ntmps12
      go_wp2_with fail
      refine (HA.out _ F.out).mono ?_
      rintro e w1 ⟨rfl, hb1⟩
      go_wp2_with fail
      refine (HT1.out _ (F.out.below hb1)).mono ?_
      rintro e w2 ⟨rfl, hb2⟩
      have hb3 := Below.step hb1 hb2
      go_wp2_with fail
      refine (HP.out _ (F.out.below hb3)).mono ?_
      rintro e wp ⟨rfl, hbp⟩
      have hbq := Below.step hb3 hbp
      go_wp2_with fail
      refine (awake_any _ (F.out.below hbq)).mono ?_
      rintro e wr ⟨rfl, hbr⟩
      have hbs := Below.step hbq hbr
      go_wp2
      go_ret
      exact ⟨rfl, hbs⟩
    · have hP0 := fun w f => parse_any s2 (((0 : Nat) : Int)) w (by omega) lo1 hi1 f
      rw [heq] at hP0
      have HP := Lib.hid hP0
      have hvb := validB_true hval
      have hG0 := fun w f => format_any v (((0 : Nat) : Int)) w (by omega) (by omega) lo1 hi1 f
      rw [fmtS_ok v (((0 : Nat) : Int)) hval hp.1 hp.2, htx] at hG0
      simp only [Lib.mk_data] at hG0
      have HG := Lib.hid hG0
      clear hP0 hG0 heq htx hval hvb
      go_enter Tryd.func12, Tryd.ntmps12
      go_wp2_with fail
      refine (HA.out _ F.out).mono ?_
      rintro e w1 ⟨rfl, hb1⟩
      go_wp2_with fail
      refine (HT1.out _ (F.out.below hb1)).mono ?_
      rintro e w2 ⟨rfl, hb2⟩
      have hb3 := Below.step hb1 hb2
      go_wp2_with fail
      refine (HP.out _ (F.out.below hb3)).mono ?_
      rintro e wp ⟨rfl, hbp⟩
      have hbq := Below.step hb3 hbp
      go_wp2_with fail
      refine (HG.out _ (F.out.below hbq)).mono ?_
      rintro e wg ⟨rfl, hbg⟩
      have hbh := Below.step hbq hbg
      go_wp2_with fail
      refine (awake_any _ (F.out.below hbh)).mono ?_
      rintro e wr ⟨rfl, hbr⟩
      have hbs := Below.step hbh hbr
      go_wp2
      go_ret
      exact ⟨rfl, hbs⟩
  · obtain ⟨A, B, hAB, hBl, hAl⟩ := fmt_at a0 p (by omega)
    have hTs3 : T.size = A.length + 1 + p := by
      rw [hTs, hAB, List.length_append, List.length_cons, hBl]
      omega
    have hk : A.length < T.size := by omega
    have hch : T[A.length] = 46 := by
      have h1 : T.data.toList[A.length]? = some 46 := by rw [hTl, hAB]; simp
      have h2 : T.data.toList[A.length]? = some T[A.length] := List.getElem?_eq_getElem (by rw [← Lib.size_eq]; exact hk)
      rw [h2] at h1
      exact Option.some.inj h1
    obtain ⟨k, hkd⟩ : ∃ k, A.length = k := ⟨_, rfl⟩
    subst hkd
    have zk : (T.size : Int) - (p : Int) - 1 = (A.length : Int) := by omega
    have q1 : (p : Int) + 2 ≤ (T.size : Int) := by omega
    have q2 : (0 : Int) < (p : Int) := by omega
    obtain ⟨k, hkd⟩ : ∃ k, A.length = k := ⟨_, rfl⟩
    have hk' : k < T.size := by omega
    have hch' : T[k] = 46 := by subst hkd; exact hch
    rw [hkd] at zk
    clear hTs3 hTs hTl hAB hBl hAl hkd hch hk hz
    rcases parseS_cases s2.data.toList (((p : Nat) : Int)) with ⟨e0, he0, heq⟩ | ⟨v, heq, hval, hp, htx⟩
    · have hP0 := fun w f => parse_any s2 (((p : Nat) : Int)) w (by omega) lo1 hi1 f
      rw [heq] at hP0
      have HP := Lib.hid hP0
      have hez : (e0 != 0) = true := by rcases he0 with rfl | rfl <;> decide
      clear hP0 heq he0
      go_enter Tryd.func12, Tryd.ntmps12
      go_wp2_with fail
      refine (HA.out _ F.out).mono ?_
      rintro e w1 ⟨rfl, hb1⟩
      go_wp2_with fail
      refine (HT1.out _ (F.out.below hb1)).mono ?_
      rintro e w2 ⟨rfl, hb2⟩
      have hb3 := Below.step hb1 hb2
      go_wp2_with fail
      refine (HP.out _ (F.out.below hb3)).mono ?_
      rintro e wp ⟨rfl, hbp⟩
      have hbq := Below.step hb3 hbp
      go_wp2_with fail
      refine (awake_any _ (F.out.below hbq)).mono ?_
      rintro e wr ⟨rfl, hbr⟩
      have hbs := Below.step hbq hbr
      go_wp2
      go_ret
      exact ⟨rfl, hbs⟩
    · have hP0 := fun w f => parse_any s2 (((p : Nat) : Int)) w (by omega) lo1 hi1 f
      rw [heq] at hP0
      have HP := Lib.hid hP0
      have hvb := validB_true hval
      have hG0 := fun w f => format_any v (((p : Nat) : Int)) w (by omega) (by omega) lo1 hi1 f
      rw [fmtS_ok v (((p : Nat) : Int)) hval hp.1 hp.2, htx] at hG0
      simp only [Lib.mk_data] at hG0
      have HG := Lib.hid hG0
      clear hP0 hG0 heq htx hval hvb
      go_enter Tryd.func12, Tryd.ntmps12
      go_wp2_with fail
      refine (HA.out _ F.out).mono ?_
      rintro e w1 ⟨rfl, hb1⟩
      go_wp2_with fail
      refine (HT1.out _ (F.out.below hb1)).mono ?_
      rintro e w2 ⟨rfl, hb2⟩
      have hb3 := Below.step hb1 hb2
      go_wp2_with fail
      refine (HP.out _ (F.out.below hb3)).mono ?_
      rintro e wp ⟨rfl, hbp⟩
      have hbq := Below.step hb3 hbp
      go_wp2_with fail
      refine (HG.out _ (F.out.below hbq)).mono ?_
      rintro e wg ⟨rfl, hbg⟩
      have hbh := Below.step hbq hbg
      go_wp2_with fail
      refine (awake_any _ (F.out.below hbh)).mono ?_
      rintro e wr ⟨rfl, hbr⟩
      have hbs := Below.step hbh hbr
      go_wp2
      go_ret
      exact ⟨rfl, hbs⟩

theorem walk (w : World) (f : Facts w) (a0 : Int) (lo0 : -9223372036854775808 ≤ a0) (hi0 : a0 ≤ 9223372036854775807) (a1 : Int) (lo1 : -9223372036854775808 ≤ a1) (hi1 : a1 ≤ 9223372036854775807) (s2 : ByteArray) (hs2 : s2.size ≤ 9223372036854775807) :
    Calls Tryd.prog 12 #[.int .i64 a0, .int .i64 a1, .string s2] w fun e w' => e = .returned (.bool true) ∧ Below w.heap.size w w' := by
  by_cases hb : 100 < s2.size
  · exact walk_long w f a0 lo0 hi0 a1 lo1 hi1 s2 hs2 hb
  · by_cases hor : validB a0 = false ∨ a1 < 0 ∨ 6 < a1
    · refine walk_err w f a0 lo0 hi0 a1 lo1 hi1 s2 hs2 (by omega) ?_ hor
      rcases hor with h | h | h
      · simp [fmtS, h]
      · have : ¬ 0 ≤ a1 := by omega
        simp [fmtS, this]
      · have : ¬ a1 ≤ 6 := by omega
        simp [fmtS, this]
    · refine walk_ok w f a0 lo0 hi0 a1 lo1 hi1 s2 hs2 (by omega) ?_ (by omega) (by omega)
      cases h : validB a0
      · exact absurd (Or.inl h) hor
      · rfl

set_option maxRecDepth 100000 in
theorem lifted (os : Os) (started : os.Started) (H : Type) (enc : TypeId × Value → H) (F : Stop.Interp) :
    ReturnsInHanded {} Tryd.checked os 12 .any ((OpenSpec.ofChange Rows.numTextsSpec).preRow enc Tryd.prog Tryd.f12 Rows.numTextsRow.domain false Rows.numTextsRow.laid) (((OpenSpec.ofChange Rows.numTextsSpec).at F).post enc Tryd.prog Tryd.f12 false true false false) := by
  refine returnsInHanded_of_row (C := Tryd.checked) (s := OpenSpec.ofChange Rows.numTextsSpec) own started (by kernel_rfl) Tryd.func12
    (ChangeSpec.witness_shaped (enc := enc) (C := Tryd.checked) (os := os) (X := fun w _ => laidMetH Tryd.prog Rows.numTextsRow.laid w) false (World.laidAll Tryd.prog os Rows.numTextsRow.laid) #[.int .i64 0, .int .i64 0, .string ⟨#[]⟩] 8 (World.laidAll_os _ _ _)
      (World.shaped_of_ZipB (by kernel_rfl) (by kernel_rfl)) (by kernel_rfl) (by kernel_rfl) (by kernel_rfl)
      (by rw [MakeChecks.laidMetH_plain _ _ _ (by kernel_rfl)]; exact laidMet_laidAll _ (by kernel_rfl) (by kernel_rfl))) ?_
  intro W base args ds gs before hval0 hW _ _ _ hL hsh _
  have hval : ∀ (j : Nat) t v, Tryd.f12.params[j]? = some t → args[j]? = some v → Value.okWide Tryd.prog W .any base t v := hval0
  have hW' := hW
  obtain ⟨p, q, hA0, hV, rfl, hfz, hnd⟩ := hW
  have hA : DataW.TrodAll enc Tryd.prog W 0 (fun _ => true) true Tryd.f12.params.toList args.toList ds p := hA0
  rw [Tryd.params12] at hA hval
  obtain ⟨v0, vs0, d0, ds0, p0, q0, hargs, rfl, rfl, h0, r0⟩ := trodAll_cons hA
  obtain ⟨v1, vs1, d1, ds1, p1, q1, rfl, rfl, rfl, h1, r1⟩ := trodAll_cons r0
  obtain ⟨v2, vs2, d2, ds2, p2, q2, rfl, rfl, rfl, h2, r2⟩ := trodAll_cons r1
  obtain ⟨rfl, rfl, rfl⟩ := trodAll_nil r2
  obtain rfl : args = #[v0, v1, v2] := by cases args; simp_all
  obtain ⟨rfl, rfl⟩ := trodVars_none hV
  obtain ⟨a0, rfl, rfl, rfl, w0⟩ := open_int Tryd.underlying3 (hval 0 3 v0 rfl rfl) h0
  have bd0 := i64_bd w0
  obtain ⟨a1, rfl, rfl, rfl, w1⟩ := open_int Tryd.underlying3 (hval 1 3 v1 rfl rfl) h1
  have bd1 := i64_bd w1
  obtain ⟨s2, rfl, rfl, rfl, ws2⟩ := Go.ChangeMaps.open_string Tryd.underlying9 (hval 2 9 v2 rfl rfl) h2
  clear hA0 hval0
  simp only [List.append_nil] at hW'
  refine (walk W (facts_of W hL hsh) a0 bd0.1 bd0.2 a1 bd1.1 bd1.2 s2 ws2).mono fun e W' ⟨he, hb⟩ => ?_
  subst he
  exact ⟨_, rfl, _, _, _, [], [], [], hW', trodAll_mk1 (shut_bool Tryd.underlying4 _), (trodAll_cons_mk (shut_int Tryd.underlying3 w0) (trodAll_cons_mk (shut_int Tryd.underlying3 w1) (trodAll_cons_mk (Go.ChangeMaps.shut_string Tryd.underlying9 ws2) trodAll_mk0))), rfl, hb.frame _, fun h => by cases h⟩

theorem said : Rows.NumTextsSaid :=
  OpenClaim.holds_of_cond 12 Tryd.f12 rfl rfl rfl rfl rfl rfl rfl ⟨rfl, rfl, rfl, rfl, rfl⟩ rfl rfl rfl rfl rfl (by kernel_rfl) Tryd.func12 (by kernel_rfl)
    (of_decide_eq_true (by kernel_rfl)) (by unfold Func.isWrapper; first | (rw [if_pos (by decide +kernel)]; kernel_rfl) | (rw [if_neg (by decide +kernel)]; exact ⟨rfl, rfl⟩))
    (fun os started H enc _ F => by rw [OpenClaim.pre_eq_preRow]; exact lifted os started H enc F)

theorem plain (f : FuncId) (fn : Func) (hf : Tryd.pinned.checked.prog.funcNamed "bikeshare/bikesharelaw01.NumTexts" = some f) (hfn : Tryd.pinned.checked.prog.funcs[f]? = some fn) :
    true = Tryd.pinned.checked.prog.looks [] ∧ ∀ (j : Nat) t, fn.params[j]? = some t → Tryd.pinned.checked.prog.wantsStandIn t = false := by
  obtain rfl : f = 12 := Option.some.inj ((show Tryd.prog.funcNamed "bikeshare/bikesharelaw01.NumTexts" = some 12 by kernel_rfl).symm.trans hf) |>.symm
  obtain rfl : fn = Tryd.f12 := (Option.some.inj (Tryd.func12.symm.trans hfn)).symm
  refine ⟨by kernel_rfl, fun j t ht => ?_⟩
  rw [Tryd.params12] at ht
  have hm : t ∈ [3, 3, 9] := by simpa using Array.mem_of_getElem? ht
  have hall : ([3, 3, 9].all fun u => !Tryd.prog.wantsStandIn u) = true := by kernel_rfl
  exact (show Tryd.prog.wantsStandIn t = false by simpa using List.all_eq_true.1 hall t hm)

/-- The card. -/
theorem card : Rows.NumTextsCardSaid :=
  Claim7.holds_tied_plain_at .later [] _ _ _ _ said (fun _ h => by cases h) (by kernel_rfl) (fun _ h => by cases h) numTexts_row_tie rfl ⟨rfl, rfl⟩ (by kernel_rfl) rfl plain (by kernel_rfl)
#print axioms card
end Go.Proofs.YtkoemofpepdopaaDoor.numTexts
