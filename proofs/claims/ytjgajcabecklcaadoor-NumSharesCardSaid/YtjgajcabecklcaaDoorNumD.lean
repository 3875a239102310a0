/-
  The contracts of package num's divide and MulDiv. The condition of divide: natural numbers up to the greatest one, and a divisor of at least 1.
-/
import Derived.Test.YtjgajcabecklcaaDoorNumC
namespace Go.Proofs.YtjgajcabecklcaaDoor
open Go.RowKit
set_option linter.unusedVariables false

theorem high_big (a b c h : Nat) (hh : a * b / 18446744073709551616 = h) (hc : 0 < c) (hle : c ≤ h) : 1125899906842624 < a * b / c := by
  have h1 : h * 18446744073709551616 ≤ a * b := by rw [← hh]; exact Nat.div_mul_le_self _ _
  have h2 : 18446744073709551616 ≤ a * b / c := by
    rw [Nat.le_div_iff_mul_le hc, Nat.mul_comm]
    exact Nat.le_trans (Nat.mul_le_mul_right _ hle) h1
  omega

set_option maxHeartbeats 1000000 in
theorem divide_yes (a b c : Nat) (w : World) (ha : a ≤ 1125899906842624) (hb : b ≤ 1125899906842624) (hc1 : 1 ≤ c) (hc : c ≤ 1125899906842624) (hq : a * b / c ≤ 1125899906842624) :
    Calls Tryd.prog 38 #[.int .i64 a, .int .i64 b, .int .i64 c] w fun e w' => e = .returned (.tuple #[.int .i64 ((a * b / c : Nat) : Int), .int .i64 ((a * b % c : Nat) : Int), .bool true]) ∧ ∃ n, w' = w.drewN n := by
  obtain ⟨hi, hhi⟩ : ∃ hi, a * b / 18446744073709551616 = hi := ⟨_, rfl⟩
  obtain ⟨lo, hlo⟩ : ∃ lo, a * b % 18446744073709551616 = lo := ⟨_, rfl⟩
  have hlol : lo < 18446744073709551616 := hlo ▸ Nat.mod_lt _ (by omega)
  have hlt : hi < c := by
    by_cases h : c ≤ hi
    · have := high_big a b c hi hhi (by omega) h; omega
    · omega
  have he : hi * 18446744073709551616 + lo = a * b := by
    have := Nat.div_add_mod (a * b) 18446744073709551616
    rw [hhi, hlo, Nat.mul_comm] at this
    exact this
  have hM := Tryd.bits_Mul64 a b (by omega) (by omega)
  rw [hhi, hlo] at hM
  have hD := fun w => div64_any hi lo c w hlt hlol (by omega)
  rw [he] at hD
  have hrl : a * b % c < c := Nat.mod_lt _ (by omega)
  obtain ⟨q, hqd⟩ : ∃ q, a * b / c = q := ⟨_, rfl⟩
  obtain ⟨r, hrd⟩ : ∃ r, a * b % c = r := ⟨_, rfl⟩
  rw [hqd] at hq
  rw [hrd] at hrl
  rw [hqd, hrd] at hD ⊢
  clear hhi hlo he hqd hrd
  have HM := Lib.hid hM
  have HD := Lib.hid hD
  clear hM hD
  have hn : ¬ (c : Int) ≤ (hi : Int) := by omega
  go_enter Tryd.func38, Tryd.ntmps38
  go_wp2_with (first | (go_at_call 46; refine (HM.out _).mono ?_; rintro e w' ⟨rfl, rfl⟩) | (go_at_call 47; refine (HD.out _).mono ?_; rintro e w' ⟨rfl, n, rfl⟩))
  go_ret3
  exact ⟨rfl, _, rfl⟩

set_option maxHeartbeats 1000000 in
theorem divide_no (a b c : Nat) (w : World) (ha : a ≤ 1125899906842624) (hb : b ≤ 1125899906842624) (hc1 : 1 ≤ c) (hc : c ≤ 1125899906842624) (hq : 1125899906842624 < a * b / c) :
    Calls Tryd.prog 38 #[.int .i64 a, .int .i64 b, .int .i64 c] w fun e w' => e = .returned (.tuple #[.int .i64 0, .int .i64 0, .bool false]) ∧ ∃ n, w' = w.drewN n := by
  obtain ⟨hi, hhi⟩ : ∃ hi, a * b / 18446744073709551616 = hi := ⟨_, rfl⟩
  obtain ⟨lo, hlo⟩ : ∃ lo, a * b % 18446744073709551616 = lo := ⟨_, rfl⟩
  have hlol : lo < 18446744073709551616 := hlo ▸ Nat.mod_lt _ (by omega)
  have hM := Tryd.bits_Mul64 a b (by omega) (by omega)
  rw [hhi, hlo] at hM
  have hab : a * b ≤ 1125899906842624 * 1125899906842624 := Nat.mul_le_mul ha hb
  have hil : hi ≤ 1125899906842624 := by rw [← hhi]; omega
  by_cases hlt : hi < c
  · have he : hi * 18446744073709551616 + lo = a * b := by
      have := Nat.div_add_mod (a * b) 18446744073709551616
      rw [hhi, hlo, Nat.mul_comm] at this
      exact this
    have hD := fun w => div64_any hi lo c w hlt hlol (by omega)
    rw [he] at hD
    have hql : a * b / c ≤ a * b := Nat.div_le_self _ _
    have hrl : a * b % c < c := Nat.mod_lt _ (by omega)
    obtain ⟨q, hqd⟩ : ∃ q, a * b / c = q := ⟨_, rfl⟩
    obtain ⟨r, hrd⟩ : ∃ r, a * b % c = r := ⟨_, rfl⟩
    rw [hqd] at hq hql
    rw [hrd] at hrl
    rw [hqd, hrd] at hD
    clear hhi hlo he hqd hrd hab
    have HM := Lib.hid hM
    have HD := Lib.hid hD
    clear hM hD
    have hn : ¬ (c : Int) ≤ (hi : Int) := by omega
    have hqz : (1125899906842624 : Int) < (q : Int) := by omega
    go_enter Tryd.func38, Tryd.ntmps38
    go_wp2_with (first | (go_at_call 46; refine (HM.out _).mono ?_; rintro e w' ⟨rfl, rfl⟩) | (go_at_call 47; refine (HD.out _).mono ?_; rintro e w' ⟨rfl, n, rfl⟩))
    go_ret3
    exact ⟨rfl, _, rfl⟩
  · have HM := Lib.hid hM
    clear hM hhi hlo hab hq
    have hn : (c : Int) ≤ (hi : Int) := by omega
    go_enter Tryd.func38, Tryd.ntmps38
    go_wp2_with (go_at_call 46; refine (HM.out _).mono ?_; rintro e w' ⟨rfl, rfl⟩)
    go_ret3
    exact ⟨rfl, 0, rfl⟩

set_option maxHeartbeats 1000000 in
theorem mulDiv_any (a b c : Int) (w : World) (h1 : -9223372036854775808 ≤ a) (h2 : a ≤ 9223372036854775807) (h3 : -9223372036854775808 ≤ b) (h4 : b ≤ 9223372036854775807) (h5 : -9223372036854775808 ≤ c) (h6 : c ≤ 9223372036854775807) :
    Calls Tryd.prog 20 #[.int .i64 a, .int .i64 b, .int .i64 c] w fun e w' => e = .returned (.tuple #[.int .i64 (mulDivS a b c).1, .int .i64 (mulDivS a b c).2]) ∧ ∃ n, w' = w.drewN n := by
  cases ha : natB a
  · have hf : mulDivS a b c = (0, 1) := by simp [mulDivS, ha]
    rw [hf]
    clear hf
    go_enter Tryd.func20, Tryd.ntmps20
    go_wp2_with (go_at_call 37; refine (natural_any _ _ (by omega) (by omega)).mono ?_; rintro e w' ⟨rfl, rfl⟩)
    go_ret2
    exact ⟨rfl, 0, rfl⟩
  have ha2 := natB_true ha
  cases hb : natB b
  · have hf : mulDivS a b c = (0, 1) := by simp [mulDivS, hb]
    rw [hf]
    clear hf
    go_enter Tryd.func20, Tryd.ntmps20
    go_wp2_with (go_at_call 37; refine (natural_any _ _ (by omega) (by omega)).mono ?_; rintro e w' ⟨rfl, rfl⟩)
    go_ret2
    exact ⟨rfl, 0, rfl⟩
  have hb2 := natB_true hb
  cases hc : natB c
  · have hf : mulDivS a b c = (0, 1) := by simp [mulDivS, hc]
    rw [hf]
    clear hf
    go_enter Tryd.func20, Tryd.ntmps20
    go_wp2_with (go_at_call 37; refine (natural_any _ _ (by omega) (by omega)).mono ?_; rintro e w' ⟨rfl, rfl⟩)
    go_ret2
    exact ⟨rfl, 0, rfl⟩
  have hc2 := natB_true hc
  by_cases h0 : c = 0
  · subst h0
    have hf : mulDivS a b 0 = (0, 1) := by simp [mulDivS]
    rw [hf]
    clear hf
    go_enter Tryd.func20, Tryd.ntmps20
    go_wp2_with (go_at_call 37; refine (natural_any _ _ (by omega) (by omega)).mono ?_; rintro e w' ⟨rfl, rfl⟩)
    go_ret2
    exact ⟨rfl, 0, rfl⟩
  have hf : mulDivS a b c = if a * b / c ≤ 1125899906842624 then (a * b / c, 0) else (0, 2) := by simp [mulDivS, ha, hb, hc, h0]
  rw [hf]
  have h0z : (c == 0) = false := beq_eq_false_iff_ne.2 h0
  clear hf h0
  obtain ⟨a, rfl⟩ := nat_of (a := a) (by omega)
  obtain ⟨b, rfl⟩ := nat_of (a := b) (by omega)
  obtain ⟨c, rfl⟩ := nat_of (a := c) (by omega)
  rw [cast_mul_div]
  have hcne : (c : Int) ≠ 0 := by simpa using h0z
  by_cases hle : a * b / c ≤ 1125899906842624
  · have hD := fun w => divide_yes a b c w (by omega) (by omega) (by omega) (by omega) hle
    rw [if_pos (by omega)]
    obtain ⟨q, hqd⟩ : ∃ q, a * b / c = q := ⟨_, rfl⟩
    obtain ⟨r, hrd⟩ : ∃ r, a * b % c = r := ⟨_, rfl⟩
    rw [hqd] at hle ⊢
    rw [hqd, hrd] at hD
    clear hqd hrd hcne
    have HD := Lib.hid hD
    clear hD
    go_enter Tryd.func20, Tryd.ntmps20
    go_wp2_with (first | (go_at_call 37; refine (natural_any _ _ (by omega) (by omega)).mono ?_; rintro e w' ⟨rfl, rfl⟩) | (go_at_call 38; refine (HD.out _).mono ?_; rintro e w' ⟨rfl, n, rfl⟩))
    go_ret2
    exact ⟨rfl, _, rfl⟩
  · have hD := fun w => divide_no a b c w (by omega) (by omega) (by omega) (by omega) (by omega)
    rw [if_neg (by omega)]
    have HD := Lib.hid hD
    clear hD hle hcne
    go_enter Tryd.func20, Tryd.ntmps20
    go_wp2_with (first | (go_at_call 37; refine (natural_any _ _ (by omega) (by omega)).mono ?_; rintro e w' ⟨rfl, rfl⟩) | (go_at_call 38; refine (HD.out _).mono ?_; rintro e w' ⟨rfl, n, rfl⟩))
    go_ret2
    exact ⟨rfl, _, rfl⟩
end Go.Proofs.YtjgajcabecklcaaDoor
