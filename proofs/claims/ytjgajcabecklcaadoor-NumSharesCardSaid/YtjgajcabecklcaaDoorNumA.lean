/-
  The contracts of the small functions of package num and of its specification: valid, natural, abs, count, Add, Mul, Nearest. No condition.
-/
import Derived.Test.YtjgajcabecklcaaDoorProg
import Derived.WalkKit
import Derived.Deep.QuietTactic
import Derived.BigQuiet
import Derived.Outline
namespace Go.Proofs.YtjgajcabecklcaaDoor
open Go.RowKit
set_option linter.unusedVariables false

/-- The numbers that package num calls valid. -/
def validB (n : Int) : Bool := decide (-1125899906842624 ≤ n ∧ n ≤ 1125899906842624)
theorem validB_true {n : Int} (h : validB n = true) : -1125899906842624 ≤ n ∧ n ≤ 1125899906842624 := of_decide_eq_true h
theorem validB_false {n : Int} (h : validB n = false) : n < -1125899906842624 ∨ 1125899906842624 < n := by
  have := of_decide_eq_false h; omega
theorem validB_mk {n : Int} (h1 : -1125899906842624 ≤ n) (h2 : n ≤ 1125899906842624) : validB n = true := decide_eq_true ⟨h1, h2⟩
theorem validB_not {n : Int} (h : n < -1125899906842624 ∨ 1125899906842624 < n) : validB n = false := decide_eq_false (by omega)

/-- The numbers from 0 to the greatest one. -/
def natB (n : Int) : Bool := decide (0 ≤ n ∧ n ≤ 1125899906842624)
theorem natB_true {n : Int} (h : natB n = true) : 0 ≤ n ∧ n ≤ 1125899906842624 := of_decide_eq_true h
theorem natB_false {n : Int} (h : natB n = false) : n < 0 ∨ 1125899906842624 < n := by
  have := of_decide_eq_false h; omega
theorem natB_mk {n : Int} (h1 : 0 ≤ n) (h2 : n ≤ 1125899906842624) : natB n = true := decide_eq_true ⟨h1, h2⟩
theorem natB_not {n : Int} (h : n < 0 ∨ 1125899906842624 < n) : natB n = false := decide_eq_false (by omega)

theorem valid_any (n : Int) (w : World) (h1 : -9223372036854775808 ≤ n) (h2 : n ≤ 9223372036854775807) :
    Calls Tryd.prog 35 #[.int .i64 n] w fun e w' => e = .returned (.bool (validB n)) ∧ w = w' := by
  by_cases c1 : -1125899906842624 ≤ n
  · by_cases c2 : n ≤ 1125899906842624
    · rw [validB_mk c1 c2]
      go_enter Tryd.func35, Tryd.ntmps35
      go_wp2
      go_ret
      exact ⟨rfl, rfl⟩
    · rw [validB_not (Or.inr (by omega))]
      go_enter Tryd.func35, Tryd.ntmps35
      go_wp2
      go_ret
      exact ⟨rfl, rfl⟩
  · rw [validB_not (Or.inl (by omega))]
    go_enter Tryd.func35, Tryd.ntmps35
    go_wp2
    go_ret
    exact ⟨rfl, rfl⟩

theorem natural_any (n : Int) (w : World) (h1 : -9223372036854775808 ≤ n) (h2 : n ≤ 9223372036854775807) :
    Calls Tryd.prog 37 #[.int .i64 n] w fun e w' => e = .returned (.bool (natB n)) ∧ w = w' := by
  by_cases c1 : 0 ≤ n
  · by_cases c2 : n ≤ 1125899906842624
    · rw [natB_mk c1 c2]
      go_enter Tryd.func37, Tryd.ntmps37
      go_wp2
      go_ret
      exact ⟨rfl, rfl⟩
    · rw [natB_not (Or.inr (by omega))]
      go_enter Tryd.func37, Tryd.ntmps37
      go_wp2
      go_ret
      exact ⟨rfl, rfl⟩
  · rw [natB_not (Or.inl (by omega))]
    go_enter Tryd.func37, Tryd.ntmps37
    go_wp2
    go_ret
    exact ⟨rfl, rfl⟩

theorem refValid_any (n : Int) (w : World) (h1 : -9223372036854775808 ≤ n) (h2 : n ≤ 9223372036854775807) :
    Calls Tryd.prog 25 #[.int .i64 n] w fun e w' => e = .returned (.bool (validB n)) ∧ w = w' := by
  by_cases c1 : -1125899906842624 ≤ n
  · by_cases c2 : n ≤ 1125899906842624
    · rw [validB_mk c1 c2]
      go_enter Tryd.func25, Tryd.ntmps25
      go_wp2
      go_ret
      exact ⟨rfl, rfl⟩
    · rw [validB_not (Or.inr (by omega))]
      go_enter Tryd.func25, Tryd.ntmps25
      go_wp2
      go_ret
      exact ⟨rfl, rfl⟩
  · rw [validB_not (Or.inl (by omega))]
    go_enter Tryd.func25, Tryd.ntmps25
    go_wp2
    go_ret
    exact ⟨rfl, rfl⟩

/-- What Add returns: the number, the error. -/
def addS (a b : Int) : Int × Int := if validB a && validB b then (if validB (a + b) then (a + b, 0) else (0, 2)) else (0, 1)

theorem add_any (a b : Int) (w : World) (h1 : -9223372036854775808 ≤ a) (h2 : a ≤ 9223372036854775807) (h3 : -9223372036854775808 ≤ b) (h4 : b ≤ 9223372036854775807) :
    Calls Tryd.prog 13 #[.int .i64 a, .int .i64 b] w fun e w' => e = .returned (.tuple #[.int .i64 (addS a b).1, .int .i64 (addS a b).2]) ∧ w = w' := by
  cases ha : validB a
  · have hf : addS a b = (0, 1) := by simp [addS, ha]
    rw [hf]
    clear hf
    go_enter Tryd.func13, Tryd.ntmps13
    go_wp2_with (go_at_call 35; refine (valid_any _ _ (by omega) (by omega)).mono ?_; rintro e w' ⟨rfl, rfl⟩)
    go_ret2
    exact ⟨rfl, rfl⟩
  · have ha2 := validB_true ha
    cases hb : validB b
    · have hf : addS a b = (0, 1) := by simp [addS, hb]
      rw [hf]
      clear hf
      go_enter Tryd.func13, Tryd.ntmps13
      go_wp2_with (go_at_call 35; refine (valid_any _ _ (by omega) (by omega)).mono ?_; rintro e w' ⟨rfl, rfl⟩)
      go_ret2
      exact ⟨rfl, rfl⟩
    · have hb2 := validB_true hb
      cases hs : validB (a + b)
      · have hf : addS a b = (0, 2) := by simp [addS, ha, hb, hs]
        rw [hf]
        clear hf
        go_enter Tryd.func13, Tryd.ntmps13
        go_wp2_with (go_at_call 35; refine (valid_any _ _ (by omega) (by omega)).mono ?_; rintro e w' ⟨rfl, rfl⟩)
        go_ret2
        exact ⟨rfl, rfl⟩
      · have hf : addS a b = (a + b, 0) := by simp [addS, ha, hb, hs]
        rw [hf]
        clear hf
        go_enter Tryd.func13, Tryd.ntmps13
        go_wp2_with (go_at_call 35; refine (valid_any _ _ (by omega) (by omega)).mono ?_; rintro e w' ⟨rfl, rfl⟩)
        go_ret2
        exact ⟨rfl, rfl⟩

theorem ret_int {k : IntKind} {a b : Int} (h : a = b) : Ending.returned (.int k a) = .returned (.int k b) := by rw [h]
theorem ret_pair {k l : IntKind} {a b c d : Int} (h : a = b) (h2 : c = d) : Ending.returned (.tuple #[.int k a, .int l c]) = .returned (.tuple #[.int k b, .int l d]) := by rw [h, h2]

/-- The absolute value. -/
def absI (n : Int) : Int := if n < 0 then -n else n
theorem absI_pos (n : Int) (h : 0 ≤ n) : absI n = n := if_neg (by omega)
theorem absI_neg (n : Int) (h : n ≤ 0) : absI n = -n := by unfold absI; split <;> omega
theorem absI_bd (n : Int) (h1 : -1125899906842624 ≤ n) (h2 : n ≤ 1125899906842624) : 0 ≤ absI n ∧ absI n ≤ 1125899906842624 := by unfold absI; split <;> omega
theorem absI_natAbs (n : Int) : absI n = n.natAbs := by unfold absI; split <;> omega

theorem abs_any (n : Int) (w : World) (h1 : -1125899906842624 ≤ n) (h2 : n ≤ 1125899906842624) :
    Calls Tryd.prog 36 #[.int .i64 n] w fun e w' => e = .returned (.int .i64 (absI n)) ∧ w = w' := by
  by_cases h : 0 ≤ n
  · rw [absI_pos n h]
    by_cases h0 : n = 0
    · subst h0
      go_enter Tryd.func36, Tryd.ntmps36
      go_wp2
      go_ret
      exact ⟨rfl, rfl⟩
    · have h3 : ¬ n < -n := by omega
      have h4 : -n < n := by omega
      go_enter Tryd.func36, Tryd.ntmps36
      go_wp2
      go_ret
      exact ⟨rfl, rfl⟩
  · rw [absI_neg n (by omega)]
    have h3 : n < -n := by omega
    go_enter Tryd.func36, Tryd.ntmps36
    go_wp2
    go_ret
    exact ⟨rfl, rfl⟩

/-- What Mul returns. -/
def mulS (a b : Int) : Int × Int := if validB a && validB b then (if validB (a * b) then (a * b, 0) else (0, 2)) else (0, 1)

/-- The quotient decides whether the product is valid. -/
theorem mul_fits (a b : Int) (ha : a ≠ 0) : (1125899906842624 / absI a < absI b) ↔ ¬ (-1125899906842624 ≤ a * b ∧ a * b ≤ 1125899906842624) := by
  have e : (absI a * absI b) = ((a * b).natAbs : Int) := by rw [absI_natAbs, absI_natAbs, Int.natAbs_mul, Int.natCast_mul]
  have hp : 0 < absI a := by unfold absI; split <;> omega
  rw [Int.ediv_lt_iff_lt_mul hp, Int.mul_comm, e]
  omega

theorem mul_any (a b : Int) (w : World) (h1 : -9223372036854775808 ≤ a) (h2 : a ≤ 9223372036854775807) (h3 : -9223372036854775808 ≤ b) (h4 : b ≤ 9223372036854775807) :
    Calls Tryd.prog 15 #[.int .i64 a, .int .i64 b] w fun e w' => e = .returned (.tuple #[.int .i64 (mulS a b).1, .int .i64 (mulS a b).2]) ∧ w = w' := by
  cases ha : validB a
  · have hf : mulS a b = (0, 1) := by simp [mulS, ha]
    rw [hf]
    clear hf
    go_enter Tryd.func15, Tryd.ntmps15
    go_wp2_with (go_at_call 35; refine (valid_any _ _ (by omega) (by omega)).mono ?_; rintro e w' ⟨rfl, rfl⟩)
    go_ret2
    exact ⟨rfl, rfl⟩
  · have ha2 := validB_true ha
    cases hb : validB b
    · have hf : mulS a b = (0, 1) := by simp [mulS, hb]
      rw [hf]
      clear hf
      go_enter Tryd.func15, Tryd.ntmps15
      go_wp2_with (go_at_call 35; refine (valid_any _ _ (by omega) (by omega)).mono ?_; rintro e w' ⟨rfl, rfl⟩)
      go_ret2
      exact ⟨rfl, rfl⟩
    · have hb2 := validB_true hb
      have hA := absI_bd a ha2.1 ha2.2
      have hB := absI_bd b hb2.1 hb2.2
      have hq0 : 0 ≤ 1125899906842624 / absI a := Int.ediv_nonneg (by omega) hA.1
      have hq1 : 1125899906842624 / absI a ≤ 1125899906842624 := Int.ediv_le_self _ (by omega)
      by_cases h0 : a = 0
      · subst h0
        have hf : mulS 0 b = (0, 0) := by simp [mulS, ha, hb]
        rw [hf]
        clear hf hA hq0 hq1
        go_enter Tryd.func15, Tryd.ntmps15
        go_wp2_with (go_at_call 35; refine (valid_any _ _ (by omega) (by omega)).mono ?_; rintro e w' ⟨rfl, rfl⟩)
        go_ret2
        exact ⟨by simp, rfl⟩
      · have hne : (a != 0) = true := by rw [bne_iff_ne]; exact h0
        have hp : 1 ≤ absI a := by unfold absI; split <;> omega
        have hm := mul_fits a b h0
        cases hs : validB (a * b)
        · have hs2 := validB_false hs
          have hf : mulS a b = (0, 2) := by simp [mulS, ha, hb, hs]
          rw [hf]
          have hlt : 1125899906842624 / absI a < absI b := hm.2 (by omega)
          clear hf hm
          go_enter Tryd.func15, Tryd.ntmps15
          go_wp2_with (first | (go_at_call 35; refine (valid_any _ _ (by omega) (by omega)).mono ?_; rintro e w' ⟨rfl, rfl⟩) | (go_at_call 36; refine (abs_any _ _ (by omega) (by omega)).mono ?_; rintro e w' ⟨rfl, rfl⟩))
          go_ret2
          exact ⟨rfl, rfl⟩
        · have hs2 := validB_true hs
          have hf : mulS a b = (a * b, 0) := by simp [mulS, ha, hb, hs]
          rw [hf]
          have hlt : ¬ 1125899906842624 / absI a < absI b := fun h => hm.1 h hs2
          clear hf hm
          go_enter Tryd.func15, Tryd.ntmps15
          go_wp2_with (first | (go_at_call 35; refine (valid_any _ _ (by omega) (by omega)).mono ?_; rintro e w' ⟨rfl, rfl⟩) | (go_at_call 36; refine (abs_any _ _ (by omega) (by omega)).mono ?_; rintro e w' ⟨rfl, rfl⟩))
          go_ret2
          exact ⟨rfl, rfl⟩

theorem refAdd_any (a b : Int) (w : World) (h1 : -9223372036854775808 ≤ a) (h2 : a ≤ 9223372036854775807) (h3 : -9223372036854775808 ≤ b) (h4 : b ≤ 9223372036854775807) :
    Calls Tryd.prog 14 #[.int .i64 a, .int .i64 b] w fun e w' => e = .returned (.tuple #[.int .i64 (addS a b).1, .int .i64 (addS a b).2]) ∧ w = w' := by
  cases ha : validB a
  · have hf : addS a b = (0, 1) := by simp [addS, ha]
    rw [hf]
    clear hf
    go_enter Tryd.func14, Tryd.ntmps14
    go_wp2_with (go_at_call 25; refine (refValid_any _ _ (by omega) (by omega)).mono ?_; rintro e w' ⟨rfl, rfl⟩)
    go_ret2
    exact ⟨rfl, rfl⟩
  · have ha2 := validB_true ha
    cases hb : validB b
    · have hf : addS a b = (0, 1) := by simp [addS, hb]
      rw [hf]
      clear hf
      go_enter Tryd.func14, Tryd.ntmps14
      go_wp2_with (go_at_call 25; refine (refValid_any _ _ (by omega) (by omega)).mono ?_; rintro e w' ⟨rfl, rfl⟩)
      go_ret2
      exact ⟨rfl, rfl⟩
    · have hb2 := validB_true hb
      cases hs : validB (a + b)
      · have hf : addS a b = (0, 2) := by simp [addS, ha, hb, hs]
        rw [hf]
        clear hf
        go_enter Tryd.func14, Tryd.ntmps14
        go_wp2_with (go_at_call 25; refine (refValid_any _ _ (by omega) (by omega)).mono ?_; rintro e w' ⟨rfl, rfl⟩)
        go_ret2
        exact ⟨rfl, rfl⟩
      · have hf : addS a b = (a + b, 0) := by simp [addS, ha, hb, hs]
        rw [hf]
        clear hf
        go_enter Tryd.func14, Tryd.ntmps14
        go_wp2_with (go_at_call 25; refine (refValid_any _ _ (by omega) (by omega)).mono ?_; rintro e w' ⟨rfl, rfl⟩)
        go_ret2
        exact ⟨rfl, rfl⟩

/-- The four ways of ref.Mul's two maxima: the signs. -/
theorem refMul_any (a b : Int) (w : World) (h1 : -9223372036854775808 ≤ a) (h2 : a ≤ 9223372036854775807) (h3 : -9223372036854775808 ≤ b) (h4 : b ≤ 9223372036854775807) :
    Calls Tryd.prog 16 #[.int .i64 a, .int .i64 b] w fun e w' => e = .returned (.tuple #[.int .i64 (mulS a b).1, .int .i64 (mulS a b).2]) ∧ w = w' := by
  cases ha : validB a
  · have hf : mulS a b = (0, 1) := by simp [mulS, ha]
    rw [hf]
    clear hf
    go_enter Tryd.func16, Tryd.ntmps16
    go_wp2_with (go_at_call 25; refine (refValid_any _ _ (by omega) (by omega)).mono ?_; rintro e w' ⟨rfl, rfl⟩)
    go_ret2
    exact ⟨rfl, rfl⟩
  · have ha2 := validB_true ha
    cases hb : validB b
    · have hf : mulS a b = (0, 1) := by simp [mulS, hb]
      rw [hf]
      clear hf
      go_enter Tryd.func16, Tryd.ntmps16
      go_wp2_with (go_at_call 25; refine (refValid_any _ _ (by omega) (by omega)).mono ?_; rintro e w' ⟨rfl, rfl⟩)
      go_ret2
      exact ⟨rfl, rfl⟩
    · have hb2 := validB_true hb
      by_cases h0 : a = 0
      · subst h0
        have hf : mulS 0 b = (0, 0) := by simp [mulS, ha, hb]
        rw [hf]
        clear hf
        go_enter Tryd.func16, Tryd.ntmps16
        go_wp2_with (go_at_call 25; refine (refValid_any _ _ (by omega) (by omega)).mono ?_; rintro e w' ⟨rfl, rfl⟩)
        go_ret2
        exact ⟨by simp, rfl⟩
      · have hne : (a != 0) = true := by rw [bne_iff_ne]; exact h0
        have hm := mul_fits a b h0
        have hA := absI_bd a ha2.1 ha2.2
        have hB := absI_bd b hb2.1 hb2.2
        have hq0 : 0 ≤ 1125899906842624 / absI a := Int.ediv_nonneg (by omega) hA.1
        have hq1 : 1125899906842624 / absI a ≤ 1125899906842624 := Int.ediv_le_self _ (by omega)
        cases hs : validB (a * b)
        · have hs2 := validB_false hs
          have hf : mulS a b = (0, 2) := by simp [mulS, ha, hb, hs]
          rw [hf]
          have hlt : 1125899906842624 / absI a < absI b := hm.2 (by omega)
          clear hf hm
          by_cases hna : 0 < a
          · rw [absI_pos a (by omega)] at hlt hq0 hq1
            have g1 : ¬ a < -a := by omega
            by_cases hnb : 0 ≤ b
            · rw [absI_pos b hnb] at hlt
              clear hA hB
              have g2 : ¬ b < -b := by omega
              go_enter Tryd.func16, Tryd.ntmps16
              go_wp2_with (go_at_call 25; refine (refValid_any _ _ (by omega) (by omega)).mono ?_; rintro e w' ⟨rfl, rfl⟩)
              all_goals go_ret2
              all_goals exact ⟨rfl, rfl⟩
            · rw [absI_neg b (by omega)] at hlt
              clear hA hB
              have g2 : b < -b := by omega
              go_enter Tryd.func16, Tryd.ntmps16
              go_wp2_with (go_at_call 25; refine (refValid_any _ _ (by omega) (by omega)).mono ?_; rintro e w' ⟨rfl, rfl⟩)
              all_goals go_ret2
              all_goals exact ⟨rfl, rfl⟩
          · obtain ⟨p, rfl⟩ : ∃ p, a = -p := ⟨-a, by omega⟩
            rw [absI_neg (-p) (by omega), Int.neg_neg] at hlt hq0 hq1
            have g1 : -p < p := by omega
            have gp : 1 ≤ p := by omega
            clear hA
            by_cases hnb : 0 ≤ b
            · rw [absI_pos b hnb] at hlt
              clear hB
              have g2 : ¬ b < -b := by omega
              go_enter Tryd.func16, Tryd.ntmps16
              go_wp2_with (go_at_call 25; refine (refValid_any _ _ (by omega) (by omega)).mono ?_; rintro e w' ⟨rfl, rfl⟩)
              all_goals go_ret2
              all_goals exact ⟨rfl, rfl⟩
            · rw [absI_neg b (by omega)] at hlt
              clear hB
              have g2 : b < -b := by omega
              go_enter Tryd.func16, Tryd.ntmps16
              go_wp2_with (go_at_call 25; refine (refValid_any _ _ (by omega) (by omega)).mono ?_; rintro e w' ⟨rfl, rfl⟩)
              all_goals go_ret2
              all_goals exact ⟨rfl, rfl⟩
        · have hs2 := validB_true hs
          have hf : mulS a b = (a * b, 0) := by simp [mulS, ha, hb, hs]
          rw [hf]
          have hlt : ¬ 1125899906842624 / absI a < absI b := fun h => hm.1 h hs2
          clear hf hm
          by_cases hna : 0 < a
          · rw [absI_pos a (by omega)] at hlt hq0 hq1
            have g1 : ¬ a < -a := by omega
            by_cases hnb : 0 ≤ b
            · rw [absI_pos b hnb] at hlt
              clear hA hB
              have g2 : ¬ b < -b := by omega
              go_enter Tryd.func16, Tryd.ntmps16
              go_wp2_with (go_at_call 25; refine (refValid_any _ _ (by omega) (by omega)).mono ?_; rintro e w' ⟨rfl, rfl⟩)
              all_goals go_ret2
              all_goals exact ⟨rfl, rfl⟩
            · rw [absI_neg b (by omega)] at hlt
              clear hA hB
              have g2 : b < -b := by omega
              go_enter Tryd.func16, Tryd.ntmps16
              go_wp2_with (go_at_call 25; refine (refValid_any _ _ (by omega) (by omega)).mono ?_; rintro e w' ⟨rfl, rfl⟩)
              all_goals go_ret2
              all_goals exact ⟨rfl, rfl⟩
          · obtain ⟨p, rfl⟩ : ∃ p, a = -p := ⟨-a, by omega⟩
            rw [absI_neg (-p) (by omega), Int.neg_neg] at hlt hq0 hq1
            have g1 : -p < p := by omega
            have gp : 1 ≤ p := by omega
            clear hA
            by_cases hnb : 0 ≤ b
            · rw [absI_pos b hnb] at hlt
              clear hB
              have g2 : ¬ b < -b := by omega
              go_enter Tryd.func16, Tryd.ntmps16
              go_wp2_with (go_at_call 25; refine (refValid_any _ _ (by omega) (by omega)).mono ?_; rintro e w' ⟨rfl, rfl⟩)
              all_goals go_ret2
              all_goals exact ⟨rfl, rfl⟩
            · rw [absI_neg b (by omega)] at hlt
              clear hB
              have g2 : b < -b := by omega
              go_enter Tryd.func16, Tryd.ntmps16
              go_wp2_with (go_at_call 25; refine (refValid_any _ _ (by omega) (by omega)).mono ?_; rintro e w' ⟨rfl, rfl⟩)
              all_goals go_ret2
              all_goals exact ⟨rfl, rfl⟩

/-- What Nearest returns: the nearest integer, of two the greater one: the floor of (2a + b) / (2b). -/
def nearS (a b : Int) : Int × Int := if validB a && (natB b && b != 0) then ((2 * a + b) / (2 * b), 0) else (0, 1)

theorem tdiv_floor (n d : Int) (h : 0 < d) (hn : n.tmod d < 0) : n.tdiv d - 1 = n / d := by
  have e := Int.mul_tdiv_add_tmod n d
  have hl := Int.lt_tmod_of_pos n h
  have h1 : n / d = n.tdiv d - 1 := by
    rw [Int.ediv_eq_iff_of_pos h]
    have e2 : d * (n.tdiv d - 1) = d * n.tdiv d - d := by rw [Int.mul_sub, Int.mul_one]
    have e3 : (n.tdiv d - 1) * d = d * (n.tdiv d - 1) := Int.mul_comm _ _
    have e4 : d * (n.tdiv d - 1 + 1) = d * n.tdiv d := by rw [Int.sub_add_cancel]
    constructor <;> simp_all <;> omega
  omega
theorem tdiv_floor' (n d : Int) (h : 0 < d) (hn : ¬ n.tmod d < 0) : n.tdiv d = n / d := by
  have e := Int.mul_tdiv_add_tmod n d
  have hl := Int.tmod_lt_of_pos n h
  have h1 : n / d = n.tdiv d := by
    rw [Int.ediv_eq_iff_of_pos h]
    have e3 : n.tdiv d * d = d * n.tdiv d := Int.mul_comm _ _
    constructor <;> simp_all <;> omega
  omega

theorem nearest_any (a b : Int) (w : World) (h1 : -9223372036854775808 ≤ a) (h2 : a ≤ 9223372036854775807) (h3 : -9223372036854775808 ≤ b) (h4 : b ≤ 9223372036854775807) :
    Calls Tryd.prog 22 #[.int .i64 a, .int .i64 b] w fun e w' => e = .returned (.tuple #[.int .i64 (nearS a b).1, .int .i64 (nearS a b).2]) ∧ w = w' := by
  cases ha : validB a
  · have hf : nearS a b = (0, 1) := by simp [nearS, ha]
    rw [hf]
    clear hf
    go_enter Tryd.func22, Tryd.ntmps22
    go_wp2_with (go_at_call 35; refine (valid_any _ _ (by omega) (by omega)).mono ?_; rintro e w' ⟨rfl, rfl⟩)
    go_ret2
    exact ⟨rfl, rfl⟩
  · have ha2 := validB_true ha
    cases hb : natB b
    · have hf : nearS a b = (0, 1) := by simp [nearS, hb]
      rw [hf]
      clear hf
      go_enter Tryd.func22, Tryd.ntmps22
      go_wp2_with (first | (go_at_call 35; refine (valid_any _ _ (by omega) (by omega)).mono ?_; rintro e w' ⟨rfl, rfl⟩) | (go_at_call 37; refine (natural_any _ _ (by omega) (by omega)).mono ?_; rintro e w' ⟨rfl, rfl⟩))
      go_ret2
      exact ⟨rfl, rfl⟩
    · have hb2 := natB_true hb
      by_cases h0 : b = 0
      · subst h0
        have hf : nearS a 0 = (0, 1) := by simp [nearS]
        rw [hf]
        clear hf
        go_enter Tryd.func22, Tryd.ntmps22
        go_wp2_with (first | (go_at_call 35; refine (valid_any _ _ (by omega) (by omega)).mono ?_; rintro e w' ⟨rfl, rfl⟩) | (go_at_call 37; refine (natural_any _ _ (by omega) (by omega)).mono ?_; rintro e w' ⟨rfl, rfl⟩))
        go_ret2
        exact ⟨rfl, rfl⟩
      · have hf : nearS a b = ((2 * a + b) / (2 * b), 0) := by simp [nearS, ha, hb, h0]
        have hz : (b == 0) = false := by simp [h0]
        have hp : 1 ≤ b := by omega
        have hp2 : (0 : Int) < 2 * b := by omega
        have b1 : -1125899906842624 ≤ (2 * a + b).tdiv (2 * b) ∧ (2 * a + b).tdiv (2 * b) ≤ 1125899906842625 := by
          by_cases hn : (2 * a + b).tmod (2 * b) < 0
          · have := tdiv_floor _ _ hp2 hn
            have k1 : (2 * a + b) / (2 * b) < 1125899906842625 := by rw [Int.ediv_lt_iff_lt_mul hp2]; omega
            have k2 : -1125899906842625 ≤ (2 * a + b) / (2 * b) := by rw [Int.le_ediv_iff_mul_le hp2]; omega
            omega
          · have := tdiv_floor' _ _ hp2 hn
            have k1 : (2 * a + b) / (2 * b) < 1125899906842626 := by rw [Int.ediv_lt_iff_lt_mul hp2]; omega
            have k2 : -1125899906842624 ≤ (2 * a + b) / (2 * b) := by rw [Int.le_ediv_iff_mul_le hp2]; omega
            omega
        rw [hf]
        clear hf h0
        by_cases hn : (2 * a + b).tmod (2 * b) < 0
        · have e := tdiv_floor _ _ hp2 hn
          rw [← e]
          clear e
          go_enter Tryd.func22, Tryd.ntmps22
          go_wp2_with (first | (go_at_call 35; refine (valid_any _ _ (by omega) (by omega)).mono ?_; rintro e w' ⟨rfl, rfl⟩) | (go_at_call 37; refine (natural_any _ _ (by omega) (by omega)).mono ?_; rintro e w' ⟨rfl, rfl⟩))
          go_ret2
          exact ⟨rfl, rfl⟩
        · have e := tdiv_floor' _ _ hp2 hn
          rw [← e]
          clear e
          go_enter Tryd.func22, Tryd.ntmps22
          go_wp2_with (first | (go_at_call 35; refine (valid_any _ _ (by omega) (by omega)).mono ?_; rintro e w' ⟨rfl, rfl⟩) | (go_at_call 37; refine (natural_any _ _ (by omega) (by omega)).mono ?_; rintro e w' ⟨rfl, rfl⟩))
          go_ret2
          exact ⟨rfl, rfl⟩
end Go.Proofs.YtjgajcabecklcaaDoor
