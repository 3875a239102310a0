/-
  The contracts of the divisions: the specification's Divide (by bits), and its MulDiv and Nearest. No condition.
-/
import Derived.Test.YtjgajcabecklcaaDoorNumA
import Derived.Test.YtjgajcabecklcaaDoorNumPlain
import Derived.RegionTactic
import Derived.Lib.Hide
import Derived.ChangeAlike
namespace Go.Proofs.YtjgajcabecklcaaDoor
open Go.RowKit
set_option linter.unusedVariables false

theorem refNearest_any (a b : Int) (w : World) (h1 : -9223372036854775808 ≤ a) (h2 : a ≤ 9223372036854775807) (h3 : -9223372036854775808 ≤ b) (h4 : b ≤ 9223372036854775807) :
    Calls Tryd.prog 23 #[.int .i64 a, .int .i64 b] w fun e w' => e = .returned (.tuple #[.int .i64 (nearS a b).1, .int .i64 (nearS a b).2]) ∧ w = w' := by
  cases ha : validB a
  · have hf : nearS a b = (0, 1) := by simp [nearS, ha]
    rw [hf]
    clear hf
    go_enter Tryd.func23, Tryd.ntmps23
    go_wp2_with (go_at_call 25; refine (refValid_any _ _ (by omega) (by omega)).mono ?_; rintro e w' ⟨rfl, rfl⟩)
    go_ret2
    exact ⟨rfl, rfl⟩
  · have ha2 := validB_true ha
    by_cases hb1 : b < 1
    · have hf : nearS a b = (0, 1) := by
        by_cases h0 : b = 0
        · simp [nearS, h0]
        · simp [nearS, natB_not (n := b) (Or.inl (by omega))]
      rw [hf]
      clear hf
      go_enter Tryd.func23, Tryd.ntmps23
      go_wp2_with (go_at_call 25; refine (refValid_any _ _ (by omega) (by omega)).mono ?_; rintro e w' ⟨rfl, rfl⟩)
      go_ret2
      exact ⟨rfl, rfl⟩
    · by_cases hb2 : 1125899906842624 < b
      · have hf : nearS a b = (0, 1) := by simp [nearS, natB_not (n := b) (Or.inr hb2)]
        rw [hf]
        clear hf
        go_enter Tryd.func23, Tryd.ntmps23
        go_wp2_with (go_at_call 25; refine (refValid_any _ _ (by omega) (by omega)).mono ?_; rintro e w' ⟨rfl, rfl⟩)
        go_ret2
        exact ⟨rfl, rfl⟩
      · have hf : nearS a b = ((2 * a + b) / (2 * b), 0) := by
          have h0 : b ≠ 0 := by omega
          simp [nearS, ha, natB_mk (n := b) (by omega) (by omega), h0]
        have hp2 : (0 : Int) < 2 * b := by omega
        have b1 : -1125899906842624 ≤ (2 * a + b).tdiv (2 * b) ∧ (2 * a + b).tdiv (2 * b) ≤ 1125899906842625 := by
          by_cases hn : (2 * a + b).tmod (2 * b) < 0
          · have := tdiv_floor _ _ hp2 hn
            have k1 : (2 * a + b) / (2 * b) < 1125899906842625 := by rw [Int.ediv_lt_iff_lt_mul hp2]; omega
            have k2 : -1125899906842625 ≤ (2 * a + b) / (2 * b) := by rw [Int.le_ediv_iff_mul_le hp2]; omega
            omega
          · have := tdiv_floor' _ _ hp2 hn
            have k1 : (2 * a + b) / (2 * b) < 1125899906842626 := by rw [Int.ediv_lt_iff_lt_mul hp2]; omega
            have k2 : -1125899906842624 ≤ (2 * a + b) / (2 * b) := by rw [Int.le_ediv_iff_mul_le hp2]; omega
            omega
        rw [hf]
        clear hf
        by_cases hn : (2 * a + b).tmod (2 * b) < 0
        · have e := tdiv_floor _ _ hp2 hn
          rw [← e]
          clear e
          go_enter Tryd.func23, Tryd.ntmps23
          go_wp2_with (go_at_call 25; refine (refValid_any _ _ (by omega) (by omega)).mono ?_; rintro e w' ⟨rfl, rfl⟩)
          go_ret2
          exact ⟨rfl, rfl⟩
        · have e := tdiv_floor' _ _ hp2 hn
          rw [← e]
          clear e
          go_enter Tryd.func23, Tryd.ntmps23
          go_wp2_with (go_at_call 25; refine (refValid_any _ _ (by omega) (by omega)).mono ?_; rintro e w' ⟨rfl, rfl⟩)
          go_ret2
          exact ⟨rfl, rfl⟩

theorem cast_div2 (r v c : Nat) : (2 * (r : Int) + (v : Int)) / (c : Int) = (((2 * r + v) / c : Nat) : Int) := by
  rw [Int.natCast_ediv, Int.natCast_add, Int.natCast_mul]; rfl
theorem cast_mod2 (r v c : Nat) : (2 * (r : Int) + (v : Int)) % (c : Int) = (((2 * r + v) % c : Nat) : Int) := by
  rw [Int.natCast_emod, Int.natCast_add, Int.natCast_mul]; rfl
theorem cast_div1 (r c : Nat) : (2 * (r : Int)) / (c : Int) = (((2 * r) / c : Nat) : Int) := by
  rw [Int.natCast_ediv, Int.natCast_mul]; rfl
theorem cast_mod1 (r c : Nat) : (2 * (r : Int)) % (c : Int) = (((2 * r) % c : Nat) : Int) := by
  rw [Int.natCast_emod, Int.natCast_mul]; rfl
theorem val_int {k : IntKind} {a b : Int} (h : a = b) : Value.int k a = Value.int k b := by rw [h]
theorem half_pow (j : Nat) : 2 ^ (j + 1) / 2 = 2 ^ j := by rw [Nat.pow_succ]; omega

set_option maxRecDepth 100000 in
set_option maxHeartbeats 1000000 in
theorem refDivide_any (a b c : Nat) (w : World) (ha : a ≤ 1125899906842624) (hb : b ≤ 1125899906842624) (hc1 : 1 ≤ c) (hc : c ≤ 1125899906842624) :
    Calls Tryd.prog 30 #[.int .i64 a, .int .i64 b, .int .i64 c] w fun e w' => e = .returned (.tuple #[.int .i64 ((min (a * b / c) 1125899906842625 : Nat) : Int), .int .i64 ((a * b % c : Nat) : Int)]) ∧ ∃ n, w' = w.drewN n := by
  have hstart : a / 2 ^ 51 = 0 := Nat.div_eq_of_lt (by omega)
  go_enter Tryd.func30, Tryd.ntmps30
  go_wp2
  go_loopw [8, 9, 10] (fun q r bit wr => ∃ k n : Nat, k ≤ 51 ∧ bit = .int .i64 ((2 ^ k / 2 : Nat) : Int) ∧ q = .int .i64 ((min (a / 2 ^ k * b / c) 1125899906842625 : Nat) : Int) ∧ r = .int .i64 ((a / 2 ^ k * b % c : Nat) : Int) ∧ wr = w.drewN n) (fun _ _ bit _ => (intOf bit).toNat)
  case atStart => exact ⟨51, 0, by omega, by rfl, by rw [hstart]; simp, by rw [hstart]; simp, rfl⟩
  case round =>
    obtain ⟨k, n, hk, rfl, rfl, rfl, rfl⟩ := hrel
    by_cases h0 : k = 0
    · subst h0
      simp only [Nat.pow_zero, Nat.div_one]
      go_wp2
      go_ret2
      exact ⟨rfl, _, rfl⟩
    · obtain ⟨j, rfl⟩ : ∃ j, k = j + 1 := ⟨k - 1, by omega⟩
      have hx := place_step a j
      have hq := div_step (a / 2 ^ (j + 1)) b c (a / 2 ^ j % 2) 1125899906842624 _ _ (by omega) rfl rfl (by omega)
      rw [← hx] at hq
      obtain ⟨B, hB⟩ : ∃ B, 2 ^ j = B := ⟨_, rfl⟩
      have hB1 : 1 ≤ B := hB ▸ Nat.one_le_two_pow
      have hB2 : B ≤ 1125899906842624 := by
        rw [← hB]
        exact Nat.le_trans (Nat.pow_le_pow_right (by omega) (show j ≤ 50 by omega)) (by decide)
      rw [half_pow, hB]
      have hrl : a / 2 ^ (j + 1) * b % c < c := Nat.mod_lt _ (by omega)
      have hql : min (a / 2 ^ (j + 1) * b / c) 1125899906842625 ≤ 1125899906842625 := Nat.min_le_right _ _
      obtain ⟨q, hqd⟩ : ∃ q, min (a / 2 ^ (j + 1) * b / c) 1125899906842625 = q := ⟨_, rfl⟩
      obtain ⟨r, hrd⟩ : ∃ r, a / 2 ^ (j + 1) * b % c = r := ⟨_, rfl⟩
      rw [hqd, hrd] at hq
      rw [hqd] at hql
      rw [hrd] at hrl
      rw [hqd, hrd]
      rw [hB] at hx hq
      clear hqd hrd hx
      obtain ⟨x, hxd⟩ : ∃ x, a / B = x := ⟨_, rfl⟩
      have hxl : x ≤ a := hxd ▸ Nat.div_le_self _ _
      rw [hxd] at hq
      obtain ⟨u, hud⟩ : ∃ u, b / c = u := ⟨_, rfl⟩
      have hul : u ≤ b := hud ▸ Nat.div_le_self _ _
      obtain ⟨v, hvd⟩ : ∃ v, b % c = v := ⟨_, rfl⟩
      have hvl : v < c := hvd ▸ Nat.mod_lt _ (by omega)
      rw [hud, hvd] at hq
      have zx : (a : Int) / (B : Int) = (x : Int) := by rw [← hxd]; exact (Int.natCast_ediv a B).symm
      have HB : Hid (2 ^ j = B) := hB
      have HX : Hid (a / B = x) := hxd
      clear hB hxd
      have hB1z : (1 : Int) ≤ (B : Int) := by omega
      have hc1z : (1 : Int) ≤ (c : Int) := by omega
      have hBz : (0 : Int) < (B : Int) := by omega
      obtain ⟨W, hW⟩ : ∃ W, w.drewN n = W := ⟨_, rfl⟩
      rw [hW]
      have HW : Hid (w.drewN n = W) := hW
      clear hW
      by_cases ht : x % 2 = 1
      · rw [ht, Nat.one_mul, Nat.one_mul] at hq
        have zt : ((x : Int) % 2 == 1) = true := beq_iff_eq.2 (by omega)
        have zu : (b : Int) / (c : Int) = (u : Int) := by rw [← hud]; exact (Int.natCast_ediv b c).symm
        have zv : (b : Int) % (c : Int) = (v : Int) := by rw [← hvd]; exact (Int.natCast_emod b c).symm
        obtain ⟨z, hzd⟩ : ∃ z, (2 * r + v) / c = z := ⟨_, rfl⟩
        obtain ⟨y, hyd⟩ : ∃ y, (2 * r + v) % c = y := ⟨_, rfl⟩
        have hzl : z ≤ 2 * r + v := hzd ▸ Nat.div_le_self _ _
        have hyl : y < c := hyd ▸ Nat.mod_lt _ (by omega)
        have zz : (2 * (r : Int) + (v : Int)) / (c : Int) = (z : Int) := by rw [← hzd]; exact cast_div2 r v c
        have zy : (2 * (r : Int) + (v : Int)) % (c : Int) = (y : Int) := by rw [← hyd]; exact cast_mod2 r v c
        rw [hzd, hyd] at hq
        clear hud hvd hzd hyd
        have HQ := Lib.hid hq
        clear hq ht
        go_wp2_with fail
        go_region
        all_goals go_wp2_with fail
        all_goals go_region
        all_goals go_wp2_with fail
        go_roundw
        case measure => simp only [intOf]; omega
        case rel =>
          refine ⟨j, n + 2, by omega, val_int (by rw [HB.out]; omega), val_int ?_, val_int ?_, by rw [← HW.out]; rfl⟩
          · rw [HB.out, HX.out, ← HQ.out.1]
            split <;> omega
          · rw [HB.out, HX.out, ← HQ.out.2]
            exact zy
      · rw [show x % 2 = 0 by omega, Nat.zero_mul, Nat.zero_mul, Nat.add_zero, Nat.add_zero] at hq
        have zt : ((x : Int) % 2 == 1) = false := beq_eq_false_iff_ne.2 (by omega)
        obtain ⟨z, hzd⟩ : ∃ z, (2 * r) / c = z := ⟨_, rfl⟩
        obtain ⟨y, hyd⟩ : ∃ y, (2 * r) % c = y := ⟨_, rfl⟩
        have hzl : z ≤ 2 * r := hzd ▸ Nat.div_le_self _ _
        have hyl : y < c := hyd ▸ Nat.mod_lt _ (by omega)
        have zz : (2 * (r : Int)) / (c : Int) = (z : Int) := by rw [← hzd]; exact cast_div1 r c
        have zy : (2 * (r : Int)) % (c : Int) = (y : Int) := by rw [← hyd]; exact cast_mod1 r c
        rw [hzd, hyd] at hq
        clear hud hvd hzd hyd
        have HQ := Lib.hid hq
        clear hq ht
        go_wp2_with fail
        go_region
        all_goals go_wp2_with fail
        go_roundw
        case measure => simp only [intOf]; omega
        case rel =>
          refine ⟨j, n + 1, by omega, val_int (by rw [HB.out]; omega), val_int ?_, val_int ?_, by rw [← HW.out]; rfl⟩
          · rw [HB.out, HX.out, ← HQ.out.1]
            split <;> omega
          · rw [HB.out, HX.out, ← HQ.out.2]
            exact zy

/-- What MulDiv returns. -/
def mulDivS (a b c : Int) : Int × Int := if natB a && (natB b && (natB c && c != 0)) then (if a * b / c ≤ 1125899906842624 then (a * b / c, 0) else (0, 2)) else (0, 1)

theorem nat_of {a : Int} (h : 0 ≤ a) : ∃ n : Nat, a = n := ⟨a.toNat, by omega⟩
theorem cast_mul_div (a b c : Nat) : (a : Int) * (b : Int) / (c : Int) = ((a * b / c : Nat) : Int) := by
  rw [Int.natCast_ediv, Int.natCast_mul]

theorem refMulDiv_any (a b c : Int) (w : World) (h1 : -9223372036854775808 ≤ a) (h2 : a ≤ 9223372036854775807) (h3 : -9223372036854775808 ≤ b) (h4 : b ≤ 9223372036854775807) (h5 : -9223372036854775808 ≤ c) (h6 : c ≤ 9223372036854775807) :
    Calls Tryd.prog 21 #[.int .i64 a, .int .i64 b, .int .i64 c] w fun e w' => e = .returned (.tuple #[.int .i64 (mulDivS a b c).1, .int .i64 (mulDivS a b c).2]) ∧ ∃ n, w' = w.drewN n := by
  by_cases a1 : a < 0
  · have hf : mulDivS a b c = (0, 1) := by simp [mulDivS, natB_not (n := a) (Or.inl a1)]
    rw [hf]
    clear hf
    go_enter Tryd.func21, Tryd.ntmps21
    go_wp2
    go_ret2
    exact ⟨rfl, 0, rfl⟩
  by_cases a2 : 1125899906842624 < a
  · have hf : mulDivS a b c = (0, 1) := by simp [mulDivS, natB_not (n := a) (Or.inr a2)]
    rw [hf]
    clear hf
    go_enter Tryd.func21, Tryd.ntmps21
    go_wp2
    go_ret2
    exact ⟨rfl, 0, rfl⟩
  by_cases b1 : b < 0
  · have hf : mulDivS a b c = (0, 1) := by simp [mulDivS, natB_not (n := b) (Or.inl b1)]
    rw [hf]
    clear hf
    go_enter Tryd.func21, Tryd.ntmps21
    go_wp2
    go_ret2
    exact ⟨rfl, 0, rfl⟩
  by_cases b2 : 1125899906842624 < b
  · have hf : mulDivS a b c = (0, 1) := by simp [mulDivS, natB_not (n := b) (Or.inr b2)]
    rw [hf]
    clear hf
    go_enter Tryd.func21, Tryd.ntmps21
    go_wp2
    go_ret2
    exact ⟨rfl, 0, rfl⟩
  by_cases c1 : c < 1
  · have hf : mulDivS a b c = (0, 1) := by
      by_cases h0 : c = 0
      · simp [mulDivS, h0]
      · simp [mulDivS, natB_not (n := c) (Or.inl (by omega))]
    rw [hf]
    clear hf
    go_enter Tryd.func21, Tryd.ntmps21
    go_wp2
    go_ret2
    exact ⟨rfl, 0, rfl⟩
  by_cases c2 : 1125899906842624 < c
  · have hf : mulDivS a b c = (0, 1) := by simp [mulDivS, natB_not (n := c) (Or.inr c2)]
    rw [hf]
    clear hf
    go_enter Tryd.func21, Tryd.ntmps21
    go_wp2
    go_ret2
    exact ⟨rfl, 0, rfl⟩
  have hc0 : c ≠ 0 := by omega
  have hf : mulDivS a b c = if a * b / c ≤ 1125899906842624 then (a * b / c, 0) else (0, 2) := by simp [mulDivS, natB_mk (n := a) (by omega) (by omega), natB_mk (n := b) (by omega) (by omega), natB_mk (n := c) (by omega) (by omega), hc0]
  rw [hf]
  clear hf hc0
  obtain ⟨a, rfl⟩ := nat_of (a := a) (by omega)
  obtain ⟨b, rfl⟩ := nat_of (a := b) (by omega)
  obtain ⟨c, rfl⟩ := nat_of (a := c) (by omega)
  rw [cast_mul_div]
  have hD := refDivide_any a b c
  obtain ⟨q, hq⟩ : ∃ q, a * b / c = q := ⟨_, rfl⟩
  rw [hq] at hD ⊢
  clear hq
  have HD := Lib.hid hD
  clear hD
  by_cases hle : (q : Int) ≤ 1125899906842624
  · rw [if_pos hle]
    have e : min q 1125899906842625 = q := by omega
    go_enter Tryd.func21, Tryd.ntmps21
    go_wp2_with fail
    refine (HD.out _ (by omega) (by omega) (by omega) (by omega)).mono ?_
    rintro e w' ⟨rfl, n, rfl⟩
    rw [e]
    clear e
    go_wp2
    go_ret2
    exact ⟨rfl, _, rfl⟩
  · rw [if_neg hle]
    have e : min q 1125899906842625 = 1125899906842625 := by omega
    go_enter Tryd.func21, Tryd.ntmps21
    go_wp2_with fail
    refine (HD.out _ (by omega) (by omega) (by omega) (by omega)).mono ?_
    rintro e w' ⟨rfl, n, rfl⟩
    rw [e]
    clear e
    go_wp2
    go_ret2
    exact ⟨rfl, _, rfl⟩

/-- The law's own test. -/
def cntB (n low : Int) : Bool := decide (low ≤ n ∧ n ≤ 1125899906842624)
theorem count_any (n low : Int) (w : World) (h1 : -9223372036854775808 ≤ n) (h2 : n ≤ 9223372036854775807) (h3 : -9223372036854775808 ≤ low) (h4 : low ≤ 9223372036854775807) :
    Calls Tryd.prog 24 #[.int .i64 n, .int .i64 low] w fun e w' => e = .returned (.bool (cntB n low)) ∧ w = w' := by
  by_cases c1 : low ≤ n
  · by_cases c2 : n ≤ 1125899906842624
    · rw [show cntB n low = true from decide_eq_true ⟨c1, c2⟩]
      go_enter Tryd.func24, Tryd.ntmps24
      go_wp2
      go_ret
      exact ⟨rfl, rfl⟩
    · rw [show cntB n low = false from decide_eq_false (by omega)]
      go_enter Tryd.func24, Tryd.ntmps24
      go_wp2
      go_ret
      exact ⟨rfl, rfl⟩
  · rw [show cntB n low = false from decide_eq_false (by omega)]
    go_enter Tryd.func24, Tryd.ntmps24
    go_wp2
    go_ret
    exact ⟨rfl, rfl⟩
end Go.Proofs.YtjgajcabecklcaaDoor
