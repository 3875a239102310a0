/-
  P1.2: NumExact: without the reference: for all integers, MulDiv returns the quotient of products of at most 62 bits, agrees with twice the quotient of half of a factor, does not depend on the order of the factors, and divides by a factor exactly; and the chapter's examples hold; the tied card. Conditions: the row's own (Go's own tables and error values hold what the program's text lays when the call begins).
-/
import Derived.Test.YtkoemofpepdopaaDoorNumP
import Derived.Test.YtkoemofpepdopaaDoorCards
import Derived.Test.YtkoemofpepdopaaDoorTie
namespace Go.Proofs.YtkoemofpepdopaaDoor.numExact
open Go.ChangeShapes Go.WideShapes Go.ChangeAt Go.RowKit
set_option linter.unusedVariables false

theorem mulDivS_comm (a b c : Int) : mulDivS a b c = mulDivS b a c := by
  unfold mulDivS
  rw [Int.mul_comm a b]
  cases natB a <;> cases natB b <;> simp
theorem mulDivN (a b c : Nat) (ha : a ≤ 1125899906842624) (hb : b ≤ 1125899906842624) (hc1 : 1 ≤ c) (hc : c ≤ 1125899906842624) :
    mulDivS a b c = if a * b / c ≤ 1125899906842624 then (((a * b / c : Nat) : Int), 0) else (0, 2) := by
  have h0 : c ≠ 0 := by omega
  have h1 : ((a * b / c : Nat) : Int) ≤ 1125899906842624 ↔ a * b / c ≤ 1125899906842624 := by omega
  rw [← cast_mul_div] at *
  simp only [mulDivS, natB_mk (n := (a : Int)) (by omega) (by omega), natB_mk (n := (b : Int)) (by omega) (by omega), natB_mk (n := (c : Int)) (by omega) (by omega), Bool.true_and]
  rw [if_pos (by rw [bne_iff_ne]; omega)]
  by_cases h : a * b / c ≤ 1125899906842624
  · rw [if_pos (h1.2 h), if_pos h]
  · rw [if_neg (fun hh => h (h1.1 hh)), if_neg h]

/-- Twice the quotient of half of a factor. -/
theorem half_quot (a b c : Nat) (hc : 0 < c) : 2 * (a * (b / 2) / c) + b % 2 * (a / c) ≤ a * b / c ∧ a * b / c ≤ 2 * (a * (b / 2) / c) + b % 2 * (a / c) + 2 := by
  have h1 := Nat.div_add_mod (a * (b / 2)) c
  have h2 := Nat.div_add_mod a c
  have h3 := Nat.mod_lt (a * (b / 2)) hc
  have h4 := Nat.mod_lt a hc
  have hb := Nat.div_add_mod b 2
  have e : a * b = 2 * (a * (b / 2)) + b % 2 * a := by
    have : a * b = a * (2 * (b / 2) + b % 2) := by rw [hb]
    rw [this, Nat.mul_add, Nat.mul_left_comm, Nat.mul_comm a (b % 2)]
  generalize a * (b / 2) / c = H at *
  generalize a * (b / 2) % c = r1 at *
  generalize a * (b / 2) = X at *
  generalize a / c = u at *
  generalize a % c = r2 at *
  have m1 : c * (2 * H) = 2 * (c * H) := Nat.mul_left_comm c 2 H
  have m2 : c * (2 * H + u) = 2 * (c * H) + c * u := by rw [Nat.mul_add, m1]
  have ht : b % 2 = 0 ∨ b % 2 = 1 := by omega
  rcases ht with ht | ht
  · rw [ht, Nat.zero_mul] at e
    rw [e, ht, Nat.zero_mul]
    have k : 2 * X + 0 = 2 * r1 + c * (2 * H) := by rw [m1]; omega
    rw [k, Nat.add_mul_div_left _ _ hc]
    have hz : 2 * r1 / c < 2 := by rw [Nat.div_lt_iff_lt_mul hc]; omega
    generalize 2 * r1 / c = z at *
    omega
  · rw [ht, Nat.one_mul] at e
    rw [e, ht, Nat.one_mul]
    have k : 2 * X + a = (2 * r1 + r2) + c * (2 * H + u) := by rw [m2]; omega
    rw [k, Nat.add_mul_div_left _ _ hc]
    have hz : (2 * r1 + r2) / c < 3 := by rw [Nat.div_lt_iff_lt_mul hc]; omega
    generalize (2 * r1 + r2) / c = z at *
    omega

set_option maxRecDepth 100000 in
set_option maxHeartbeats 4000000 in
theorem walk_err (w : World) (f : Facts w) (a0 : Int) (lo0 : -9223372036854775808 ≤ a0) (hi0 : a0 ≤ 9223372036854775807) (a1 : Int) (lo1 : -9223372036854775808 ≤ a1) (hi1 : a1 ≤ 9223372036854775807) (a2 : Int) (lo2 : -9223372036854775808 ≤ a2) (hi2 : a2 ≤ 9223372036854775807) (hor : (cntB a0 0 = false) ∨ (cntB a0 0 = true ∧ cntB a1 0 = false) ∨ (cntB a0 0 = true ∧ cntB a1 0 = true ∧ cntB a2 1 = false)) (hN : mulDivS a0 a1 a2 = (0, 1)) :
    Calls Tryd.prog 7 #[.int .i64 a0, .int .i64 a1, .int .i64 a2] w fun e w' => e = .returned (.bool true) ∧ Below w.heap.size w w' := by
  have hA := fun w => mulDiv_any a0 a1 a2 w lo0 hi0 lo1 hi1 lo2 hi2
  have hB := fun w => mulDiv_any a1 a0 a2 w lo1 hi1 lo0 hi0 lo2 hi2
  rw [mulDivS_comm a1 a0 a2] at hB
  simp only [hN] at hA hB
  have HA := Lib.hid hA
  have HB := Lib.hid hB
  have F := Lib.hid f
  clear hA hB f hN
  rcases hor with h | ⟨h, h'⟩ | ⟨h, h', h''⟩
  · go_enter Tryd.func7, Tryd.ntmps7
    go_wp2_with fail
    refine (HA.out _).mono ?_
    rintro e w1 ⟨rfl, n1, hw1⟩
    have hb1 : Below w.heap.size w w1 := hw1 ▸ below_drewN' w n1
    clear hw1
    go_wp2_with fail
    refine (HB.out _).mono ?_
    rintro e w2 ⟨rfl, n2, hw2⟩
    have hb2 : Below w.heap.size w w2 := Below.step hb1 (hw2 ▸ below_drewN' w1 n2)
    clear hw2 hb1
    go_wp2_with (first | (go_at_call 24; refine (count_any _ _ _ (by omega) (by omega) (by omega) (by omega)).mono ?_; rintro e w' ⟨rfl, rfl⟩) | (go_at_call 17; refine (awake_any _ (F.out.below hb2)).mono ?_; rintro e w9 ⟨rfl, hbw⟩))
    go_ret
    exact ⟨rfl, Below.step hb2 hbw⟩
  · go_enter Tryd.func7, Tryd.ntmps7
    go_wp2_with fail
    refine (HA.out _).mono ?_
    rintro e w1 ⟨rfl, n1, hw1⟩
    have hb1 : Below w.heap.size w w1 := hw1 ▸ below_drewN' w n1
    clear hw1
    go_wp2_with fail
    refine (HB.out _).mono ?_
    rintro e w2 ⟨rfl, n2, hw2⟩
    have hb2 : Below w.heap.size w w2 := Below.step hb1 (hw2 ▸ below_drewN' w1 n2)
    clear hw2 hb1
    go_wp2_with (first | (go_at_call 24; refine (count_any _ _ _ (by omega) (by omega) (by omega) (by omega)).mono ?_; rintro e w' ⟨rfl, rfl⟩) | (go_at_call 17; refine (awake_any _ (F.out.below hb2)).mono ?_; rintro e w9 ⟨rfl, hbw⟩))
    go_ret
    exact ⟨rfl, Below.step hb2 hbw⟩
  · go_enter Tryd.func7, Tryd.ntmps7
    go_wp2_with fail
    refine (HA.out _).mono ?_
    rintro e w1 ⟨rfl, n1, hw1⟩
    have hb1 : Below w.heap.size w w1 := hw1 ▸ below_drewN' w n1
    clear hw1
    go_wp2_with fail
    refine (HB.out _).mono ?_
    rintro e w2 ⟨rfl, n2, hw2⟩
    have hb2 : Below w.heap.size w w2 := Below.step hb1 (hw2 ▸ below_drewN' w1 n2)
    clear hw2 hb1
    go_wp2_with (first | (go_at_call 24; refine (count_any _ _ _ (by omega) (by omega) (by omega) (by omega)).mono ?_; rintro e w' ⟨rfl, rfl⟩) | (go_at_call 17; refine (awake_any _ (F.out.below hb2)).mono ?_; rintro e w9 ⟨rfl, hbw⟩))
    go_ret
    exact ⟨rfl, Below.step hb2 hbw⟩

/-- What the walks below share: the numbers are natural, and of the right size. -/
structure Sizes (a b c : Nat) : Prop where
  a : a ≤ 1125899906842624
  b : b ≤ 1125899906842624
  c1 : 1 ≤ c
  c : c ≤ 1125899906842624

theorem cnt_nat (n low : Nat) (h : low ≤ n) (h2 : n ≤ 1125899906842624) : cntB (n : Int) (low : Int) = true := decide_eq_true (by omega)

set_option maxRecDepth 100000 in
set_option maxHeartbeats 4000000 in
theorem walk_small (w : World) (f : Facts w) (a b c : Nat) (hs : Sizes a b c) (h1 : a ≤ 2147483648) (h2 : b ≤ 2147483648) :
    Calls Tryd.prog 7 #[.int .i64 (a : Int), .int .i64 (b : Int), .int .i64 (c : Int)] w fun e w' => e = .returned (.bool true) ∧ Below w.heap.size w w' := by
  have hN := mulDivN a b c hs.a hs.b hs.c1 hs.c
  have := hs.a; have := hs.b; have := hs.c; have := hs.c1
  have hab : a * b ≤ 2147483648 * 2147483648 := Nat.mul_le_mul h1 h2
  have hql : a * b / c ≤ a * b := Nat.div_le_self _ _
  have zq : (a : Int) * (b : Int) / (c : Int) = ((a * b / c : Nat) : Int) := cast_mul_div a b c
  have zm : (a : Int) * (b : Int) = ((a * b : Nat) : Int) := (Int.natCast_mul a b).symm
  rw [zm] at zq
  obtain ⟨m, hm⟩ : ∃ m, a * b = m := ⟨_, rfl⟩
  rw [hm] at hN hab hql zq zm
  obtain ⟨q, hq⟩ : ∃ q, m / c = q := ⟨_, rfl⟩
  rw [hq] at hN hql zq
  by_cases hle : q ≤ 1125899906842624
  · rw [if_pos hle] at hN
    have hA := fun w => mulDiv_any (a : Int) b c w (by omega) (by omega) (by omega) (by omega) (by omega) (by omega)
    have hB := fun w => mulDiv_any (b : Int) a c w (by omega) (by omega) (by omega) (by omega) (by omega) (by omega)
    have hC := fun w => mulDiv_any (a : Int) c c w (by omega) (by omega) (by omega) (by omega) (by omega) (by omega)
    rw [mulDivS_comm b a c] at hB
    simp only [hN] at hA hB
    have hcc : mulDivS (a : Int) c c = ((a : Int), 0) := by
      rw [mulDivN a c c hs.a hs.c hs.c1 hs.c, Nat.mul_div_cancel _ (by omega), if_pos hs.a]
    simp only [hcc] at hC
    have ca : cntB (a : Int) 0 = true := cnt_nat a 0 (by omega) hs.a
    have cb : cntB (b : Int) 0 = true := cnt_nat b 0 (by omega) hs.b
    have cc : cntB (c : Int) 1 = true := cnt_nat c 1 hs.c1 hs.c
    have HA := Lib.hid hA
    have HB := Lib.hid hB
    have HC := Lib.hid hC
    have F := Lib.hid f
    have ha := hs.a
    have hb := hs.b
    have hc := hs.c
    have hc1 := hs.c1
    clear hA hB hC f hcc
    clear hm hq hN
    have hlz : ¬ (1125899906842624 : Int) < (q : Int) := by omega
    go_enter Tryd.func7, Tryd.ntmps7
    go_wp2_with fail
    refine (HA.out _).mono ?_
    rintro e w1 ⟨rfl, n1, hw1⟩
    have hb1 : Below w.heap.size w w1 := hw1 ▸ below_drewN' w n1
    clear hw1
    go_wp2_with fail
    refine (HB.out _).mono ?_
    rintro e w2 ⟨rfl, n2, hw2⟩
    have hb2 : Below w.heap.size w w2 := Below.step hb1 (hw2 ▸ below_drewN' w1 n2)
    clear hw2 hb1
    go_wp2_with (go_at_call 24; refine (count_any _ _ _ (by omega) (by omega) (by omega) (by omega)).mono ?_; rintro e w' ⟨rfl, rfl⟩)
    refine (HC.out _).mono ?_
    rintro e w3 ⟨rfl, n3, hw3⟩
    have hb3 : Below w.heap.size w w3 := Below.step hb2 (hw3 ▸ below_drewN' w2 n3)
    clear hw3 hb2
    go_wp2_with (first | (go_at_call 24; refine (count_any _ _ _ (by omega) (by omega) (by omega) (by omega)).mono ?_; rintro e w' ⟨rfl, rfl⟩) | (go_at_call 17; refine (awake_any _ (F.out.below hb3)).mono ?_; rintro e w9 ⟨rfl, hbw⟩))
    go_ret
    exact ⟨rfl, Below.step hb3 hbw⟩
  · rw [if_neg hle] at hN
    have hA := fun w => mulDiv_any (a : Int) b c w (by omega) (by omega) (by omega) (by omega) (by omega) (by omega)
    have hB := fun w => mulDiv_any (b : Int) a c w (by omega) (by omega) (by omega) (by omega) (by omega) (by omega)
    have hC := fun w => mulDiv_any (a : Int) c c w (by omega) (by omega) (by omega) (by omega) (by omega) (by omega)
    rw [mulDivS_comm b a c] at hB
    simp only [hN] at hA hB
    have hcc : mulDivS (a : Int) c c = ((a : Int), 0) := by
      rw [mulDivN a c c hs.a hs.c hs.c1 hs.c, Nat.mul_div_cancel _ (by omega), if_pos hs.a]
    simp only [hcc] at hC
    have ca : cntB (a : Int) 0 = true := cnt_nat a 0 (by omega) hs.a
    have cb : cntB (b : Int) 0 = true := cnt_nat b 0 (by omega) hs.b
    have cc : cntB (c : Int) 1 = true := cnt_nat c 1 hs.c1 hs.c
    have HA := Lib.hid hA
    have HB := Lib.hid hB
    have HC := Lib.hid hC
    have F := Lib.hid f
    have ha := hs.a
    have hb := hs.b
    have hc := hs.c
    have hc1 := hs.c1
    clear hA hB hC f hcc
    clear hm hq hN
    have hlz : (1125899906842624 : Int) < (q : Int) := by omega
    go_enter Tryd.func7, Tryd.ntmps7
    go_wp2_with fail
    refine (HA.out _).mono ?_
    rintro e w1 ⟨rfl, n1, hw1⟩
    have hb1 : Below w.heap.size w w1 := hw1 ▸ below_drewN' w n1
    clear hw1
    go_wp2_with fail
    refine (HB.out _).mono ?_
    rintro e w2 ⟨rfl, n2, hw2⟩
    have hb2 : Below w.heap.size w w2 := Below.step hb1 (hw2 ▸ below_drewN' w1 n2)
    clear hw2 hb1
    go_wp2_with (go_at_call 24; refine (count_any _ _ _ (by omega) (by omega) (by omega) (by omega)).mono ?_; rintro e w' ⟨rfl, rfl⟩)
    refine (HC.out _).mono ?_
    rintro e w3 ⟨rfl, n3, hw3⟩
    have hb3 : Below w.heap.size w w3 := Below.step hb2 (hw3 ▸ below_drewN' w2 n3)
    clear hw3 hb2
    go_wp2_with (first | (go_at_call 24; refine (count_any _ _ _ (by omega) (by omega) (by omega) (by omega)).mono ?_; rintro e w' ⟨rfl, rfl⟩) | (go_at_call 17; refine (awake_any _ (F.out.below hb3)).mono ?_; rintro e w9 ⟨rfl, hbw⟩))
    go_ret
    exact ⟨rfl, Below.step hb3 hbw⟩

set_option maxRecDepth 100000 in
set_option maxHeartbeats 4000000 in
theorem walk_big (w : World) (f : Facts w) (a b c : Nat) (hs : Sizes a b c) (h1 : 2147483648 < a) :
    Calls Tryd.prog 7 #[.int .i64 (a : Int), .int .i64 (b : Int), .int .i64 (c : Int)] w fun e w' => e = .returned (.bool true) ∧ Below w.heap.size w w' := by
  have hN := mulDivN a b c hs.a hs.b hs.c1 hs.c
  have := hs.a; have := hs.b; have := hs.c; have := hs.c1
  have hH := mulDivN a (b / 2) c hs.a (by omega) hs.c1 hs.c
  obtain ⟨k1, k2⟩ := half_quot a b c (by omega)
  have hul : a / c ≤ a := Nat.div_le_self _ _
  have zu : (a : Int) / (c : Int) = ((a / c : Nat) : Int) := (Int.natCast_ediv a c).symm
  have hM := fun (x : Int) (w : World) (hx : x = ((b / 2 : Nat) : Int)) => mulDiv_any (a : Int) x c w (by omega) (by omega) (by omega) (by omega) (by omega) (by omega)
  have hM2 : ∀ (x : Int) (w : World), x = ((b / 2 : Nat) : Int) → Calls Tryd.prog 20 #[.int .i64 (a : Int), .int .i64 x, .int .i64 (c : Int)] w fun e w' => e = .returned (.tuple #[.int .i64 (mulDivS (a : Int) ((b / 2 : Nat) : Int) c).1, .int .i64 (mulDivS (a : Int) ((b / 2 : Nat) : Int) c).2]) ∧ ∃ n, w' = w.drewN n := fun x w hx => by
    have := hM x w hx
    rw [hx] at this ⊢
    exact this
  clear hM
  obtain ⟨q, hq⟩ : ∃ q, a * b / c = q := ⟨_, rfl⟩
  obtain ⟨h, hh⟩ : ∃ h, a * (b / 2) / c = h := ⟨_, rfl⟩
  obtain ⟨u, hu⟩ : ∃ u, a / c = u := ⟨_, rfl⟩
  rw [hq] at hN k1 k2
  rw [hh] at hH k1 k2
  rw [hu] at k1 k2 hul zu
  clear hq hh hu
  by_cases hle : q ≤ 1125899906842624
  · have hhl : h ≤ 1125899906842624 := by omega
    rw [if_pos hle] at hN
    rw [if_pos hhl] at hH
    simp only [hH] at hM2
    have HH := Lib.hid hM2
    clear hM2 hH
    have hA := fun w => mulDiv_any (a : Int) b c w (by omega) (by omega) (by omega) (by omega) (by omega) (by omega)
    have hB := fun w => mulDiv_any (b : Int) a c w (by omega) (by omega) (by omega) (by omega) (by omega) (by omega)
    have hC := fun w => mulDiv_any (a : Int) c c w (by omega) (by omega) (by omega) (by omega) (by omega) (by omega)
    rw [mulDivS_comm b a c] at hB
    simp only [hN] at hA hB
    have hcc : mulDivS (a : Int) c c = ((a : Int), 0) := by
      rw [mulDivN a c c hs.a hs.c hs.c1 hs.c, Nat.mul_div_cancel _ (by omega), if_pos hs.a]
    simp only [hcc] at hC
    have ca : cntB (a : Int) 0 = true := cnt_nat a 0 (by omega) hs.a
    have cb : cntB (b : Int) 0 = true := cnt_nat b 0 (by omega) hs.b
    have cc : cntB (c : Int) 1 = true := cnt_nat c 1 hs.c1 hs.c
    have HA := Lib.hid hA
    have HB := Lib.hid hB
    have HC := Lib.hid hC
    have F := Lib.hid f
    have ha := hs.a
    have hb := hs.b
    have hc := hs.c
    have hc1 := hs.c1
    clear hA hB hC f hcc
    clear hN
    rcases (show b % 2 = 0 ∨ b % 2 = 1 by omega) with ht | ht
    · rw [ht, Nat.zero_mul] at k1 k2
      have zt : (b : Int) % 2 = 0 := by omega
      have g1 : 2 * (h : Int) ≤ (q : Int) := by omega
      have g2 : (q : Int) ≤ 2 * (h : Int) + 2 := by omega
      have g3 : (q : Int) ≤ 1125899906842624 := by omega
      clear k1 k2 ht
      go_enter Tryd.func7, Tryd.ntmps7
      go_wp2_with fail
      refine (HA.out _).mono ?_
      rintro e w1 ⟨rfl, n1, hw1⟩
      have hb1 : Below w.heap.size w w1 := hw1 ▸ below_drewN' w n1
      clear hw1
      go_wp2_with fail
      refine (HB.out _).mono ?_
      rintro e w2 ⟨rfl, n2, hw2⟩
      have hb2 : Below w.heap.size w w2 := Below.step hb1 (hw2 ▸ below_drewN' w1 n2)
      clear hw2 hb1
      go_wp2_with (go_at_call 24; refine (count_any _ _ _ (by omega) (by omega) (by omega) (by omega)).mono ?_; rintro e w' ⟨rfl, rfl⟩)
      refine (HC.out _).mono ?_
      rintro e w3 ⟨rfl, n3, hw3⟩
      have hb3 : Below w.heap.size w w3 := Below.step hb2 (hw3 ▸ below_drewN' w2 n3)
      clear hw3 hb2
      go_wp2_with (go_at_call 24; refine (count_any _ _ _ (by omega) (by omega) (by omega) (by omega)).mono ?_; rintro e w' ⟨rfl, rfl⟩)
      refine (HH.out _ _ (by omega)).mono ?_
      rintro e w4 ⟨rfl, n4, hw4⟩
      have hb4 : Below w.heap.size w w4 := Below.step hb3 (hw4 ▸ below_drewN' w3 n4)
      clear hw4 hb3
      go_wp2_with (first | (go_at_call 24; refine (count_any _ _ _ (by omega) (by omega) (by omega) (by omega)).mono ?_; rintro e w' ⟨rfl, rfl⟩) | (go_at_call 17; refine (awake_any _ (F.out.below hb4)).mono ?_; rintro e w9 ⟨rfl, hbw⟩))
      go_ret
      exact ⟨rfl, Below.step hb4 hbw⟩
    · rw [ht, Nat.one_mul] at k1 k2
      have zt : (b : Int) % 2 = 1 := by omega
      have g1 : 2 * (h : Int) + (u : Int) ≤ (q : Int) := by omega
      have g2 : (q : Int) ≤ 2 * (h : Int) + (u : Int) + 2 := by omega
      have g3 : (q : Int) ≤ 1125899906842624 := by omega
      clear k1 k2 ht
      go_enter Tryd.func7, Tryd.ntmps7
      go_wp2_with fail
      refine (HA.out _).mono ?_
      rintro e w1 ⟨rfl, n1, hw1⟩
      have hb1 : Below w.heap.size w w1 := hw1 ▸ below_drewN' w n1
      clear hw1
      go_wp2_with fail
      refine (HB.out _).mono ?_
      rintro e w2 ⟨rfl, n2, hw2⟩
      have hb2 : Below w.heap.size w w2 := Below.step hb1 (hw2 ▸ below_drewN' w1 n2)
      clear hw2 hb1
      go_wp2_with (go_at_call 24; refine (count_any _ _ _ (by omega) (by omega) (by omega) (by omega)).mono ?_; rintro e w' ⟨rfl, rfl⟩)
      refine (HC.out _).mono ?_
      rintro e w3 ⟨rfl, n3, hw3⟩
      have hb3 : Below w.heap.size w w3 := Below.step hb2 (hw3 ▸ below_drewN' w2 n3)
      clear hw3 hb2
      go_wp2_with (go_at_call 24; refine (count_any _ _ _ (by omega) (by omega) (by omega) (by omega)).mono ?_; rintro e w' ⟨rfl, rfl⟩)
      refine (HH.out _ _ (by omega)).mono ?_
      rintro e w4 ⟨rfl, n4, hw4⟩
      have hb4 : Below w.heap.size w w4 := Below.step hb3 (hw4 ▸ below_drewN' w3 n4)
      clear hw4 hb3
      go_wp2_with (first | (go_at_call 24; refine (count_any _ _ _ (by omega) (by omega) (by omega) (by omega)).mono ?_; rintro e w' ⟨rfl, rfl⟩) | (go_at_call 17; refine (awake_any _ (F.out.below hb4)).mono ?_; rintro e w9 ⟨rfl, hbw⟩))
      go_ret
      exact ⟨rfl, Below.step hb4 hbw⟩
  · rw [if_neg hle] at hN
    have ht : b % 2 * u ≤ u := by
      rcases (show b % 2 = 0 ∨ b % 2 = 1 by omega) with ht | ht <;> rw [ht] <;> omega
    by_cases hhl : h ≤ 1125899906842624
    · rw [if_pos hhl] at hH
      simp only [hH] at hM2
      have HH := Lib.hid hM2
      clear hM2 hH
      have g1 : (1125899906842624 : Int) < 2 * (h : Int) + (u : Int) + 2 := by omega
      have hA := fun w => mulDiv_any (a : Int) b c w (by omega) (by omega) (by omega) (by omega) (by omega) (by omega)
      have hB := fun w => mulDiv_any (b : Int) a c w (by omega) (by omega) (by omega) (by omega) (by omega) (by omega)
      have hC := fun w => mulDiv_any (a : Int) c c w (by omega) (by omega) (by omega) (by omega) (by omega) (by omega)
      rw [mulDivS_comm b a c] at hB
      simp only [hN] at hA hB
      have hcc : mulDivS (a : Int) c c = ((a : Int), 0) := by
        rw [mulDivN a c c hs.a hs.c hs.c1 hs.c, Nat.mul_div_cancel _ (by omega), if_pos hs.a]
      simp only [hcc] at hC
      have ca : cntB (a : Int) 0 = true := cnt_nat a 0 (by omega) hs.a
      have cb : cntB (b : Int) 0 = true := cnt_nat b 0 (by omega) hs.b
      have cc : cntB (c : Int) 1 = true := cnt_nat c 1 hs.c1 hs.c
      have HA := Lib.hid hA
      have HB := Lib.hid hB
      have HC := Lib.hid hC
      have F := Lib.hid f
      have ha := hs.a
      have hb := hs.b
      have hc := hs.c
      have hc1 := hs.c1
      clear hA hB hC f hcc
      clear hN k1 k2 ht
      go_enter Tryd.func7, Tryd.ntmps7
      go_wp2_with fail
      refine (HA.out _).mono ?_
      rintro e w1 ⟨rfl, n1, hw1⟩
      have hb1 : Below w.heap.size w w1 := hw1 ▸ below_drewN' w n1
      clear hw1
      go_wp2_with fail
      refine (HB.out _).mono ?_
      rintro e w2 ⟨rfl, n2, hw2⟩
      have hb2 : Below w.heap.size w w2 := Below.step hb1 (hw2 ▸ below_drewN' w1 n2)
      clear hw2 hb1
      go_wp2_with (go_at_call 24; refine (count_any _ _ _ (by omega) (by omega) (by omega) (by omega)).mono ?_; rintro e w' ⟨rfl, rfl⟩)
      refine (HC.out _).mono ?_
      rintro e w3 ⟨rfl, n3, hw3⟩
      have hb3 : Below w.heap.size w w3 := Below.step hb2 (hw3 ▸ below_drewN' w2 n3)
      clear hw3 hb2
      go_wp2_with (go_at_call 24; refine (count_any _ _ _ (by omega) (by omega) (by omega) (by omega)).mono ?_; rintro e w' ⟨rfl, rfl⟩)
      refine (HH.out _ _ (by omega)).mono ?_
      rintro e w4 ⟨rfl, n4, hw4⟩
      have hb4 : Below w.heap.size w w4 := Below.step hb3 (hw4 ▸ below_drewN' w3 n4)
      clear hw4 hb3
      go_wp2_with (first | (go_at_call 24; refine (count_any _ _ _ (by omega) (by omega) (by omega) (by omega)).mono ?_; rintro e w' ⟨rfl, rfl⟩) | (go_at_call 17; refine (awake_any _ (F.out.below hb4)).mono ?_; rintro e w9 ⟨rfl, hbw⟩))
      go_ret
      exact ⟨rfl, Below.step hb4 hbw⟩
    · rw [if_neg hhl] at hH
      simp only [hH] at hM2
      have HH := Lib.hid hM2
      clear hM2 hH
      have hA := fun w => mulDiv_any (a : Int) b c w (by omega) (by omega) (by omega) (by omega) (by omega) (by omega)
      have hB := fun w => mulDiv_any (b : Int) a c w (by omega) (by omega) (by omega) (by omega) (by omega) (by omega)
      have hC := fun w => mulDiv_any (a : Int) c c w (by omega) (by omega) (by omega) (by omega) (by omega) (by omega)
      rw [mulDivS_comm b a c] at hB
      simp only [hN] at hA hB
      have hcc : mulDivS (a : Int) c c = ((a : Int), 0) := by
        rw [mulDivN a c c hs.a hs.c hs.c1 hs.c, Nat.mul_div_cancel _ (by omega), if_pos hs.a]
      simp only [hcc] at hC
      have ca : cntB (a : Int) 0 = true := cnt_nat a 0 (by omega) hs.a
      have cb : cntB (b : Int) 0 = true := cnt_nat b 0 (by omega) hs.b
      have cc : cntB (c : Int) 1 = true := cnt_nat c 1 hs.c1 hs.c
      have HA := Lib.hid hA
      have HB := Lib.hid hB
      have HC := Lib.hid hC
      have F := Lib.hid f
      have ha := hs.a
      have hb := hs.b
      have hc := hs.c
      have hc1 := hs.c1
      clear hA hB hC f hcc
      clear hN k1 k2 ht
      go_enter Tryd.func7, Tryd.ntmps7
      go_wp2_with fail
      refine (HA.out _).mono ?_
      rintro e w1 ⟨rfl, n1, hw1⟩
      have hb1 : Below w.heap.size w w1 := hw1 ▸ below_drewN' w n1
      clear hw1
      go_wp2_with fail
      refine (HB.out _).mono ?_
      rintro e w2 ⟨rfl, n2, hw2⟩
      have hb2 : Below w.heap.size w w2 := Below.step hb1 (hw2 ▸ below_drewN' w1 n2)
      clear hw2 hb1
      go_wp2_with (go_at_call 24; refine (count_any _ _ _ (by omega) (by omega) (by omega) (by omega)).mono ?_; rintro e w' ⟨rfl, rfl⟩)
      refine (HC.out _).mono ?_
      rintro e w3 ⟨rfl, n3, hw3⟩
      have hb3 : Below w.heap.size w w3 := Below.step hb2 (hw3 ▸ below_drewN' w2 n3)
      clear hw3 hb2
      go_wp2_with (go_at_call 24; refine (count_any _ _ _ (by omega) (by omega) (by omega) (by omega)).mono ?_; rintro e w' ⟨rfl, rfl⟩)
      refine (HH.out _ _ (by omega)).mono ?_
      rintro e w4 ⟨rfl, n4, hw4⟩
      have hb4 : Below w.heap.size w w4 := Below.step hb3 (hw4 ▸ below_drewN' w3 n4)
      clear hw4 hb3
      go_wp2_with (first | (go_at_call 24; refine (count_any _ _ _ (by omega) (by omega) (by omega) (by omega)).mono ?_; rintro e w' ⟨rfl, rfl⟩) | (go_at_call 17; refine (awake_any _ (F.out.below hb4)).mono ?_; rintro e w9 ⟨rfl, hbw⟩))
      go_ret
      exact ⟨rfl, Below.step hb4 hbw⟩

set_option maxRecDepth 100000 in
set_option maxHeartbeats 4000000 in
theorem walk_big2 (w : World) (f : Facts w) (a b c : Nat) (hs : Sizes a b c) (h1 : a ≤ 2147483648) (h2 : 2147483648 < b) :
    Calls Tryd.prog 7 #[.int .i64 (a : Int), .int .i64 (b : Int), .int .i64 (c : Int)] w fun e w' => e = .returned (.bool true) ∧ Below w.heap.size w w' := by
  have hN := mulDivN a b c hs.a hs.b hs.c1 hs.c
  have := hs.a; have := hs.b; have := hs.c; have := hs.c1
  have hH := mulDivN a (b / 2) c hs.a (by omega) hs.c1 hs.c
  obtain ⟨k1, k2⟩ := half_quot a b c (by omega)
  have hul : a / c ≤ a := Nat.div_le_self _ _
  have zu : (a : Int) / (c : Int) = ((a / c : Nat) : Int) := (Int.natCast_ediv a c).symm
  have hM := fun (x : Int) (w : World) (hx : x = ((b / 2 : Nat) : Int)) => mulDiv_any (a : Int) x c w (by omega) (by omega) (by omega) (by omega) (by omega) (by omega)
  have hM2 : ∀ (x : Int) (w : World), x = ((b / 2 : Nat) : Int) → Calls Tryd.prog 20 #[.int .i64 (a : Int), .int .i64 x, .int .i64 (c : Int)] w fun e w' => e = .returned (.tuple #[.int .i64 (mulDivS (a : Int) ((b / 2 : Nat) : Int) c).1, .int .i64 (mulDivS (a : Int) ((b / 2 : Nat) : Int) c).2]) ∧ ∃ n, w' = w.drewN n := fun x w hx => by
    have := hM x w hx
    rw [hx] at this ⊢
    exact this
  clear hM
  obtain ⟨q, hq⟩ : ∃ q, a * b / c = q := ⟨_, rfl⟩
  obtain ⟨h, hh⟩ : ∃ h, a * (b / 2) / c = h := ⟨_, rfl⟩
  obtain ⟨u, hu⟩ : ∃ u, a / c = u := ⟨_, rfl⟩
  rw [hq] at hN k1 k2
  rw [hh] at hH k1 k2
  rw [hu] at k1 k2 hul zu
  clear hq hh hu
  by_cases hle : q ≤ 1125899906842624
  · have hhl : h ≤ 1125899906842624 := by omega
    rw [if_pos hle] at hN
    rw [if_pos hhl] at hH
    simp only [hH] at hM2
    have HH := Lib.hid hM2
    clear hM2 hH
    have hA := fun w => mulDiv_any (a : Int) b c w (by omega) (by omega) (by omega) (by omega) (by omega) (by omega)
    have hB := fun w => mulDiv_any (b : Int) a c w (by omega) (by omega) (by omega) (by omega) (by omega) (by omega)
    have hC := fun w => mulDiv_any (a : Int) c c w (by omega) (by omega) (by omega) (by omega) (by omega) (by omega)
    rw [mulDivS_comm b a c] at hB
    simp only [hN] at hA hB
    have hcc : mulDivS (a : Int) c c = ((a : Int), 0) := by
      rw [mulDivN a c c hs.a hs.c hs.c1 hs.c, Nat.mul_div_cancel _ (by omega), if_pos hs.a]
    simp only [hcc] at hC
    have ca : cntB (a : Int) 0 = true := cnt_nat a 0 (by omega) hs.a
    have cb : cntB (b : Int) 0 = true := cnt_nat b 0 (by omega) hs.b
    have cc : cntB (c : Int) 1 = true := cnt_nat c 1 hs.c1 hs.c
    have HA := Lib.hid hA
    have HB := Lib.hid hB
    have HC := Lib.hid hC
    have F := Lib.hid f
    have ha := hs.a
    have hb := hs.b
    have hc := hs.c
    have hc1 := hs.c1
    clear hA hB hC f hcc
    clear hN
    rcases (show b % 2 = 0 ∨ b % 2 = 1 by omega) with ht | ht
    · rw [ht, Nat.zero_mul] at k1 k2
      have zt : (b : Int) % 2 = 0 := by omega
      have g1 : 2 * (h : Int) ≤ (q : Int) := by omega
      have g2 : (q : Int) ≤ 2 * (h : Int) + 2 := by omega
      have g3 : (q : Int) ≤ 1125899906842624 := by omega
      clear k1 k2 ht
      go_enter Tryd.func7, Tryd.ntmps7
      go_wp2_with fail
      refine (HA.out _).mono ?_
      rintro e w1 ⟨rfl, n1, hw1⟩
      have hb1 : Below w.heap.size w w1 := hw1 ▸ below_drewN' w n1
      clear hw1
      go_wp2_with fail
      refine (HB.out _).mono ?_
      rintro e w2 ⟨rfl, n2, hw2⟩
      have hb2 : Below w.heap.size w w2 := Below.step hb1 (hw2 ▸ below_drewN' w1 n2)
      clear hw2 hb1
      go_wp2_with (go_at_call 24; refine (count_any _ _ _ (by omega) (by omega) (by omega) (by omega)).mono ?_; rintro e w' ⟨rfl, rfl⟩)
      refine (HC.out _).mono ?_
      rintro e w3 ⟨rfl, n3, hw3⟩
      have hb3 : Below w.heap.size w w3 := Below.step hb2 (hw3 ▸ below_drewN' w2 n3)
      clear hw3 hb2
      go_wp2_with (go_at_call 24; refine (count_any _ _ _ (by omega) (by omega) (by omega) (by omega)).mono ?_; rintro e w' ⟨rfl, rfl⟩)
      refine (HH.out _ _ (by omega)).mono ?_
      rintro e w4 ⟨rfl, n4, hw4⟩
      have hb4 : Below w.heap.size w w4 := Below.step hb3 (hw4 ▸ below_drewN' w3 n4)
      clear hw4 hb3
      go_wp2_with (first | (go_at_call 24; refine (count_any _ _ _ (by omega) (by omega) (by omega) (by omega)).mono ?_; rintro e w' ⟨rfl, rfl⟩) | (go_at_call 17; refine (awake_any _ (F.out.below hb4)).mono ?_; rintro e w9 ⟨rfl, hbw⟩))
      go_ret
      exact ⟨rfl, Below.step hb4 hbw⟩
    · rw [ht, Nat.one_mul] at k1 k2
      have zt : (b : Int) % 2 = 1 := by omega
      have g1 : 2 * (h : Int) + (u : Int) ≤ (q : Int) := by omega
      have g2 : (q : Int) ≤ 2 * (h : Int) + (u : Int) + 2 := by omega
      have g3 : (q : Int) ≤ 1125899906842624 := by omega
      clear k1 k2 ht
      go_enter Tryd.func7, Tryd.ntmps7
      go_wp2_with fail
      refine (HA.out _).mono ?_
      rintro e w1 ⟨rfl, n1, hw1⟩
      have hb1 : Below w.heap.size w w1 := hw1 ▸ below_drewN' w n1
      clear hw1
      go_wp2_with fail
      refine (HB.out _).mono ?_
      rintro e w2 ⟨rfl, n2, hw2⟩
      have hb2 : Below w.heap.size w w2 := Below.step hb1 (hw2 ▸ below_drewN' w1 n2)
      clear hw2 hb1
      go_wp2_with (go_at_call 24; refine (count_any _ _ _ (by omega) (by omega) (by omega) (by omega)).mono ?_; rintro e w' ⟨rfl, rfl⟩)
      refine (HC.out _).mono ?_
      rintro e w3 ⟨rfl, n3, hw3⟩
      have hb3 : Below w.heap.size w w3 := Below.step hb2 (hw3 ▸ below_drewN' w2 n3)
      clear hw3 hb2
      go_wp2_with (go_at_call 24; refine (count_any _ _ _ (by omega) (by omega) (by omega) (by omega)).mono ?_; rintro e w' ⟨rfl, rfl⟩)
      refine (HH.out _ _ (by omega)).mono ?_
      rintro e w4 ⟨rfl, n4, hw4⟩
      have hb4 : Below w.heap.size w w4 := Below.step hb3 (hw4 ▸ below_drewN' w3 n4)
      clear hw4 hb3
      go_wp2_with (first | (go_at_call 24; refine (count_any _ _ _ (by omega) (by omega) (by omega) (by omega)).mono ?_; rintro e w' ⟨rfl, rfl⟩) | (go_at_call 17; refine (awake_any _ (F.out.below hb4)).mono ?_; rintro e w9 ⟨rfl, hbw⟩))
      go_ret
      exact ⟨rfl, Below.step hb4 hbw⟩
  · rw [if_neg hle] at hN
    have ht : b % 2 * u ≤ u := by
      rcases (show b % 2 = 0 ∨ b % 2 = 1 by omega) with ht | ht <;> rw [ht] <;> omega
    by_cases hhl : h ≤ 1125899906842624
    · rw [if_pos hhl] at hH
      simp only [hH] at hM2
      have HH := Lib.hid hM2
      clear hM2 hH
      have g1 : (1125899906842624 : Int) < 2 * (h : Int) + (u : Int) + 2 := by omega
      have hA := fun w => mulDiv_any (a : Int) b c w (by omega) (by omega) (by omega) (by omega) (by omega) (by omega)
      have hB := fun w => mulDiv_any (b : Int) a c w (by omega) (by omega) (by omega) (by omega) (by omega) (by omega)
      have hC := fun w => mulDiv_any (a : Int) c c w (by omega) (by omega) (by omega) (by omega) (by omega) (by omega)
      rw [mulDivS_comm b a c] at hB
      simp only [hN] at hA hB
      have hcc : mulDivS (a : Int) c c = ((a : Int), 0) := by
        rw [mulDivN a c c hs.a hs.c hs.c1 hs.c, Nat.mul_div_cancel _ (by omega), if_pos hs.a]
      simp only [hcc] at hC
      have ca : cntB (a : Int) 0 = true := cnt_nat a 0 (by omega) hs.a
      have cb : cntB (b : Int) 0 = true := cnt_nat b 0 (by omega) hs.b
      have cc : cntB (c : Int) 1 = true := cnt_nat c 1 hs.c1 hs.c
      have HA := Lib.hid hA
      have HB := Lib.hid hB
      have HC := Lib.hid hC
      have F := Lib.hid f
      have ha := hs.a
      have hb := hs.b
      have hc := hs.c
      have hc1 := hs.c1
      clear hA hB hC f hcc
      clear hN k1 k2 ht
      go_enter Tryd.func7, Tryd.ntmps7
      go_wp2_with fail
      refine (HA.out _).mono ?_
      rintro e w1 ⟨rfl, n1, hw1⟩
      have hb1 : Below w.heap.size w w1 := hw1 ▸ below_drewN' w n1
      clear hw1
      go_wp2_with fail
      refine (HB.out _).mono ?_
      rintro e w2 ⟨rfl, n2, hw2⟩
      have hb2 : Below w.heap.size w w2 := Below.step hb1 (hw2 ▸ below_drewN' w1 n2)
      clear hw2 hb1
      go_wp2_with (go_at_call 24; refine (count_any _ _ _ (by omega) (by omega) (by omega) (by omega)).mono ?_; rintro e w' ⟨rfl, rfl⟩)
      refine (HC.out _).mono ?_
      rintro e w3 ⟨rfl, n3, hw3⟩
      have hb3 : Below w.heap.size w w3 := Below.step hb2 (hw3 ▸ below_drewN' w2 n3)
      clear hw3 hb2
      go_wp2_with (go_at_call 24; refine (count_any _ _ _ (by omega) (by omega) (by omega) (by omega)).mono ?_; rintro e w' ⟨rfl, rfl⟩)
      refine (HH.out _ _ (by omega)).mono ?_
      rintro e w4 ⟨rfl, n4, hw4⟩
      have hb4 : Below w.heap.size w w4 := Below.step hb3 (hw4 ▸ below_drewN' w3 n4)
      clear hw4 hb3
      go_wp2_with (first | (go_at_call 24; refine (count_any _ _ _ (by omega) (by omega) (by omega) (by omega)).mono ?_; rintro e w' ⟨rfl, rfl⟩) | (go_at_call 17; refine (awake_any _ (F.out.below hb4)).mono ?_; rintro e w9 ⟨rfl, hbw⟩))
      go_ret
      exact ⟨rfl, Below.step hb4 hbw⟩
    · rw [if_neg hhl] at hH
      simp only [hH] at hM2
      have HH := Lib.hid hM2
      clear hM2 hH
      have hA := fun w => mulDiv_any (a : Int) b c w (by omega) (by omega) (by omega) (by omega) (by omega) (by omega)
      have hB := fun w => mulDiv_any (b : Int) a c w (by omega) (by omega) (by omega) (by omega) (by omega) (by omega)
      have hC := fun w => mulDiv_any (a : Int) c c w (by omega) (by omega) (by omega) (by omega) (by omega) (by omega)
      rw [mulDivS_comm b a c] at hB
      simp only [hN] at hA hB
      have hcc : mulDivS (a : Int) c c = ((a : Int), 0) := by
        rw [mulDivN a c c hs.a hs.c hs.c1 hs.c, Nat.mul_div_cancel _ (by omega), if_pos hs.a]
      simp only [hcc] at hC
      have ca : cntB (a : Int) 0 = true := cnt_nat a 0 (by omega) hs.a
      have cb : cntB (b : Int) 0 = true := cnt_nat b 0 (by omega) hs.b
      have cc : cntB (c : Int) 1 = true := cnt_nat c 1 hs.c1 hs.c
      have HA := Lib.hid hA
      have HB := Lib.hid hB
      have HC := Lib.hid hC
      have F := Lib.hid f
      have ha := hs.a
      have hb := hs.b
      have hc := hs.c
      have hc1 := hs.c1
      clear hA hB hC f hcc
      clear hN k1 k2 ht
      go_enter Tryd.func7, Tryd.ntmps7
      go_wp2_with fail
      refine (HA.out _).mono ?_
      rintro e w1 ⟨rfl, n1, hw1⟩
      have hb1 : Below w.heap.size w w1 := hw1 ▸ below_drewN' w n1
      clear hw1
      go_wp2_with fail
      refine (HB.out _).mono ?_
      rintro e w2 ⟨rfl, n2, hw2⟩
      have hb2 : Below w.heap.size w w2 := Below.step hb1 (hw2 ▸ below_drewN' w1 n2)
      clear hw2 hb1
      go_wp2_with (go_at_call 24; refine (count_any _ _ _ (by omega) (by omega) (by omega) (by omega)).mono ?_; rintro e w' ⟨rfl, rfl⟩)
      refine (HC.out _).mono ?_
      rintro e w3 ⟨rfl, n3, hw3⟩
      have hb3 : Below w.heap.size w w3 := Below.step hb2 (hw3 ▸ below_drewN' w2 n3)
      clear hw3 hb2
      go_wp2_with (go_at_call 24; refine (count_any _ _ _ (by omega) (by omega) (by omega) (by omega)).mono ?_; rintro e w' ⟨rfl, rfl⟩)
      refine (HH.out _ _ (by omega)).mono ?_
      rintro e w4 ⟨rfl, n4, hw4⟩
      have hb4 : Below w.heap.size w w4 := Below.step hb3 (hw4 ▸ below_drewN' w3 n4)
      clear hw4 hb3
      go_wp2_with (first | (go_at_call 24; refine (count_any _ _ _ (by omega) (by omega) (by omega) (by omega)).mono ?_; rintro e w' ⟨rfl, rfl⟩) | (go_at_call 17; refine (awake_any _ (F.out.below hb4)).mono ?_; rintro e w9 ⟨rfl, hbw⟩))
      go_ret
      exact ⟨rfl, Below.step hb4 hbw⟩

theorem walk (w : World) (f : Facts w) (a0 : Int) (lo0 : -9223372036854775808 ≤ a0) (hi0 : a0 ≤ 9223372036854775807) (a1 : Int) (lo1 : -9223372036854775808 ≤ a1) (hi1 : a1 ≤ 9223372036854775807) (a2 : Int) (lo2 : -9223372036854775808 ≤ a2) (hi2 : a2 ≤ 9223372036854775807) :
    Calls Tryd.prog 7 #[.int .i64 a0, .int .i64 a1, .int .i64 a2] w fun e w' => e = .returned (.bool true) ∧ Below w.heap.size w w' := by
  by_cases hs : (0 ≤ a0 ∧ a0 ≤ 1125899906842624) ∧ (0 ≤ a1 ∧ a1 ≤ 1125899906842624) ∧ (1 ≤ a2 ∧ a2 ≤ 1125899906842624)
  · obtain ⟨a, rfl⟩ := nat_of (a := a0) (by omega)
    obtain ⟨b, rfl⟩ := nat_of (a := a1) (by omega)
    obtain ⟨c, rfl⟩ := nat_of (a := a2) (by omega)
    have hz : Sizes a b c := ⟨by omega, by omega, by omega, by omega⟩
    by_cases h1 : a ≤ 2147483648
    · by_cases h2 : b ≤ 2147483648
      · exact walk_small w f a b c hz h1 h2
      · exact walk_big2 w f a b c hz h1 (by omega)
    · exact walk_big w f a b c hz (by omega)
  · have ec : ∀ n low : Int, cntB n low = decide (low ≤ n ∧ n ≤ 1125899906842624) := fun _ _ => rfl
    refine walk_err w f a0 lo0 hi0 a1 lo1 hi1 a2 lo2 hi2 ?_ ?_
    · simp only [ec, decide_eq_false_iff_not, decide_eq_true_eq]
      omega
    · by_cases ha : natB a0 = true
      · by_cases hb : natB a1 = true
        · have h1 := natB_true ha
          have h2 := natB_true hb
          by_cases h0 : a2 = 0
          · simp [mulDivS, h0]
          · simp [mulDivS, natB_not (n := a2) (by omega)]
        · simp [mulDivS, hb]
      · simp [mulDivS, ha]

set_option maxRecDepth 100000 in
theorem lifted (os : Os) (started : os.Started) (H : Type) (enc : TypeId × Value → H) (F : Stop.Interp) :
    ReturnsInHanded {} Tryd.checked os 7 .any ((OpenSpec.ofChange Rows.numExactSpec).preRow enc Tryd.prog Tryd.f7 Rows.numExactRow.domain false Rows.numExactRow.laid) (((OpenSpec.ofChange Rows.numExactSpec).at F).post enc Tryd.prog Tryd.f7 false true false false) := by
  refine returnsInHanded_of_row (C := Tryd.checked) (s := OpenSpec.ofChange Rows.numExactSpec) own started (by kernel_rfl) Tryd.func7
    (ChangeSpec.witness_shaped (enc := enc) (C := Tryd.checked) (os := os) (X := fun w _ => laidMetH Tryd.prog Rows.numExactRow.laid w) false (World.laidAll Tryd.prog os Rows.numExactRow.laid) #[.int .i64 0, .int .i64 0, .int .i64 0] 8 (World.laidAll_os _ _ _)
      (World.shaped_of_ZipB (by kernel_rfl) (by kernel_rfl)) (by kernel_rfl) (by kernel_rfl) (by kernel_rfl)
      (by rw [MakeChecks.laidMetH_plain _ _ _ (by kernel_rfl)]; exact laidMet_laidAll _ (by kernel_rfl) (by kernel_rfl))) ?_
  intro W base args ds gs before hval0 hW _ _ _ hL hsh _
  have hval : ∀ (j : Nat) t v, Tryd.f7.params[j]? = some t → args[j]? = some v → Value.okWide Tryd.prog W .any base t v := hval0
  have hW' := hW
  obtain ⟨p, q, hA0, hV, rfl, hfz, hnd⟩ := hW
  have hA : DataW.TrodAll enc Tryd.prog W 0 (fun _ => true) true Tryd.f7.params.toList args.toList ds p := hA0
  rw [Tryd.params7] at hA hval
  obtain ⟨v0, vs0, d0, ds0, p0, q0, hargs, rfl, rfl, h0, r0⟩ := trodAll_cons hA
  obtain ⟨v1, vs1, d1, ds1, p1, q1, rfl, rfl, rfl, h1, r1⟩ := trodAll_cons r0
  obtain ⟨v2, vs2, d2, ds2, p2, q2, rfl, rfl, rfl, h2, r2⟩ := trodAll_cons r1
  obtain ⟨rfl, rfl, rfl⟩ := trodAll_nil r2
  obtain rfl : args = #[v0, v1, v2] := by cases args; simp_all
  obtain ⟨rfl, rfl⟩ := trodVars_none hV
  obtain ⟨a0, rfl, rfl, rfl, w0⟩ := open_int Tryd.underlying3 (hval 0 3 v0 rfl rfl) h0
  have bd0 := i64_bd w0
  obtain ⟨a1, rfl, rfl, rfl, w1⟩ := open_int Tryd.underlying3 (hval 1 3 v1 rfl rfl) h1
  have bd1 := i64_bd w1
  obtain ⟨a2, rfl, rfl, rfl, w2⟩ := open_int Tryd.underlying3 (hval 2 3 v2 rfl rfl) h2
  have bd2 := i64_bd w2
  clear hA0 hval0
  simp only [List.append_nil] at hW'
  refine (walk W (facts_of W hL hsh) a0 bd0.1 bd0.2 a1 bd1.1 bd1.2 a2 bd2.1 bd2.2).mono fun e W' ⟨he, hb⟩ => ?_
  subst he
  exact ⟨_, rfl, _, _, _, [], [], [], hW', trodAll_mk1 (shut_bool Tryd.underlying4 _), (trodAll_cons_mk (shut_int Tryd.underlying3 w0) (trodAll_cons_mk (shut_int Tryd.underlying3 w1) (trodAll_cons_mk (shut_int Tryd.underlying3 w2) trodAll_mk0))), rfl, hb.frame _, fun h => by cases h⟩

theorem said : Rows.NumExactSaid :=
  OpenClaim.holds_of_cond 7 Tryd.f7 rfl rfl rfl rfl rfl rfl rfl ⟨rfl, rfl, rfl, rfl, rfl⟩ rfl rfl rfl rfl rfl (by kernel_rfl) Tryd.func7 (by kernel_rfl)
    (of_decide_eq_true (by kernel_rfl)) (by unfold Func.isWrapper; first | (rw [if_pos (by decide +kernel)]; kernel_rfl) | (rw [if_neg (by decide +kernel)]; exact ⟨rfl, rfl⟩))
    (fun os started H enc _ F => by rw [OpenClaim.pre_eq_preRow]; exact lifted os started H enc F)

theorem plain (f : FuncId) (fn : Func) (hf : Tryd.pinned.checked.prog.funcNamed "bikeshare/bikesharelaw01.NumExact" = some f) (hfn : Tryd.pinned.checked.prog.funcs[f]? = some fn) :
    true = Tryd.pinned.checked.prog.looks [] ∧ ∀ (j : Nat) t, fn.params[j]? = some t → Tryd.pinned.checked.prog.wantsStandIn t = false := by
  obtain rfl : f = 7 := Option.some.inj ((show Tryd.prog.funcNamed "bikeshare/bikesharelaw01.NumExact" = some 7 by kernel_rfl).symm.trans hf) |>.symm
  obtain rfl : fn = Tryd.f7 := (Option.some.inj (Tryd.func7.symm.trans hfn)).symm
  refine ⟨by kernel_rfl, fun j t ht => ?_⟩
  rw [Tryd.params7] at ht
  have hm : t ∈ [3, 3, 3] := by simpa using Array.mem_of_getElem? ht
  have hall : ([3, 3, 3].all fun u => !Tryd.prog.wantsStandIn u) = true := by kernel_rfl
  exact (show Tryd.prog.wantsStandIn t = false by simpa using List.all_eq_true.1 hall t hm)

/-- The card. -/
theorem card : Rows.NumExactCardSaid :=
  Claim7.holds_tied_plain_at .later [] _ _ _ _ said (fun _ h => by cases h) (by kernel_rfl) (fun _ h => by cases h) numExact_row_tie rfl ⟨rfl, rfl⟩ (by kernel_rfl) rfl plain (by kernel_rfl)
#print axioms card
end Go.Proofs.YtkoemofpepdopaaDoor.numExact
