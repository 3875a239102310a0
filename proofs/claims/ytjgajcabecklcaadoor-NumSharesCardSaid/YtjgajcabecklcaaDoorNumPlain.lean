/-
  Plain facts on numbers, of no program: division of a product by the bits of a factor, and the long division of two digits by one (base 2 to the 32nd). No condition.
-/
namespace Go.Proofs.YtjgajcabecklcaaDoor


/-- One round of the division by bits. -/
theorem div_step (A b c t M q r : Nat) (hc : 0 < c) (hq : q = min (A * b / c) (M + 1)) (hr : r = A * b % c) (ht : t = 0 ∨ t = 1) :
    min (2 * q + t * (b / c) + (2 * r + t * (b % c)) / c) (M + 1) = min ((2 * A + t) * b / c) (M + 1) ∧ (2 * r + t * (b % c)) % c = (2 * A + t) * b % c := by
  have e1 := Nat.div_add_mod (A * b) c
  have e2 := Nat.div_add_mod b c
  have key : (2 * A + t) * b = (2 * r + t * (b % c)) + c * (2 * (A * b / c) + t * (b / c)) := by
    subst hr
    calc (2 * A + t) * b = 2 * (A * b) + t * b := by rw [Nat.add_mul, Nat.mul_assoc]
      _ = 2 * (c * (A * b / c) + A * b % c) + t * (c * (b / c) + b % c) := by rw [e1, e2]
      _ = _ := by
        simp only [Nat.mul_add, Nat.mul_left_comm]
        omega
  have hd : (2 * A + t) * b / c = (2 * r + t * (b % c)) / c + (2 * (A * b / c) + t * (b / c)) := by
    rw [key, Nat.add_mul_div_left _ _ hc]
  have hm : (2 * A + t) * b % c = (2 * r + t * (b % c)) % c := by
    rw [key, Nat.add_mul_mod_self_left]
  refine ⟨?_, hm.symm⟩
  rw [hd]
  generalize (2 * r + t * (b % c)) / c = z
  generalize hy : A * b / c = y at hq
  rcases ht with rfl | rfl <;> simp only [Nat.zero_mul, Nat.one_mul] <;> generalize b / c = u <;> omega

/-- The next place. -/
theorem place_step (a k : Nat) : a / 2 ^ k = 2 * (a / 2 ^ (k + 1)) + a / 2 ^ k % 2 := by
  rw [Nat.pow_succ, ← Nat.div_div_eq_div_mul]; omega



/-- What stands at the head of the loop that lowers the guess q. B is the base. -/
structure Guess (yn1 yn0 u v Q q r : Nat) : Prop where
  eq : q * yn1 + r = u
  ge : Q ≤ q
  le : q ≤ 4294967297
  rl : r < 4294967296

/-- What is known of the divisor and the dividend. -/
structure Divs (Y yn1 yn0 u v Q : Nat) : Prop where
  hy : Y = yn1 * 4294967296 + yn0
  hy0 : yn0 < 4294967296
  hy1 : 2147483648 ≤ yn1
  hy2 : yn1 < 4294967296
  hu : u < Y
  hv : v < 4294967296
  hq : Q = (u * 4294967296 + v) / Y

theorem lin_lt (B a b u v r x : Nat) (he : a + r = u) (hc : r * B + v < b) (e3 : x = a * B + b) : u * B + v < x := by
  subst he e3; rw [Nat.add_mul]; omega

theorem Divs.mk' (Y u v : Nat) (h1 : 9223372036854775808 ≤ Y) (h2 : Y < 18446744073709551616) (hu : u < Y) (hv : v < 4294967296) :
    Divs Y (Y / 4294967296) (Y % 4294967296) u v ((u * 4294967296 + v) / Y) :=
  ⟨by omega, by omega, by omega, by omega, hu, hv, rfl⟩

theorem Divs.lo {Y yn1 yn0 u v Q : Nat} (h : Divs Y yn1 yn0 u v Q) : Q * Y ≤ u * 4294967296 + v := by
  have := h.hq
  subst this
  exact Nat.div_mul_le_self _ _

theorem Divs.hi {Y yn1 yn0 u v Q : Nat} (h : Divs Y yn1 yn0 u v Q) : u * 4294967296 + v < Q * Y + Y := by
  have hq := h.hq
  have hy : 0 < Y := by have := h.hy; have := h.hy1; omega
  have := Nat.lt_mul_div_succ (u * 4294967296 + v) hy
  rw [← hq] at this
  have e1 : Y * (Q + 1) = Y * Q + Y := Nat.mul_succ Y Q
  have e2 : Y * Q = Q * Y := Nat.mul_comm Y Q
  omega

theorem Divs.small {Y yn1 yn0 u v Q : Nat} (h : Divs Y yn1 yn0 u v Q) : Q < 4294967296 := by
  rw [h.hq]
  have hy : 0 < Y := by have := h.hy; have := h.hy1; omega
  rw [Nat.div_lt_iff_lt_mul hy]
  have := h.hu; have := h.hv
  have h3 : (u + 1) * 4294967296 ≤ Y * 4294967296 := Nat.mul_le_mul_right _ h.hu
  rw [Nat.add_mul] at h3
  rw [Nat.mul_comm 4294967296 Y]
  omega

/-- A guess is not above the quotient where the products say so. -/
theorem Divs.le_of {Y yn1 yn0 u v Q : Nat} (h : Divs Y yn1 yn0 u v Q) (q r : Nat) (he : q * yn1 + r = u) (hc : q * yn0 ≤ r * 4294967296 + v) : q ≤ Q := by
  have hy : 0 < Y := by have := h.hy; have := h.hy1; omega
  have e1 : q * (yn1 * 4294967296 + yn0) = q * yn1 * 4294967296 + q * yn0 := by rw [Nat.mul_add q, ← Nat.mul_assoc q]
  rw [h.hq, Nat.le_div_iff_mul_le hy, h.hy, e1]
  omega

/-- It is above it where they say otherwise. -/
theorem Divs.lt_of {Y yn1 yn0 u v Q : Nat} (h : Divs Y yn1 yn0 u v Q) (q r : Nat) (he : q * yn1 + r = u) (hc : r * 4294967296 + v < q * yn0) : Q < q := by
  have hy : 0 < Y := by have := h.hy; have := h.hy1; omega
  have e3 : q * Y = q * yn1 * 4294967296 + q * yn0 := by rw [h.hy, Nat.mul_add q, ← Nat.mul_assoc q]
  have e2 : u * 4294967296 + v < q * Y := lin_lt _ _ _ _ _ _ _ he hc e3
  have e4 := (Nat.div_lt_iff_lt_mul (x := u * 4294967296 + v) (y := q) hy).2 e2
  have := h.hq
  omega

theorem Divs.start {Y yn1 yn0 u v Q : Nat} (h : Divs Y yn1 yn0 u v Q) : Guess yn1 yn0 u v Q (u / yn1) (u - u / yn1 * yn1) := by
  have hp : 0 < yn1 := by have := h.hy1; omega
  have hm := Nat.div_add_mod u yn1
  have hml := Nat.mod_lt u hp
  have hy2 := h.hy2
  rw [Nat.mul_comm] at hm
  refine ⟨by omega, ?_, ?_, by omega⟩
  · rw [Nat.le_div_iff_mul_le hp]
    have h1 := h.lo
    rw [h.hy, Nat.mul_add, ← Nat.mul_assoc] at h1
    have := h.hv
    omega
  · have h2 : u < 4294967298 * yn1 := by
      have := h.hu; have := h.hy; have := h.hy0; have := h.hy1
      omega
    have := (Nat.div_lt_iff_lt_mul hp).2 h2
    omega

theorem Guess.pos {Y yn1 yn0 u v Q q r : Nat} (h : Divs Y yn1 yn0 u v Q) (g : Guess yn1 yn0 u v Q q r) (hc : 4294967296 ≤ q ∨ r * 4294967296 + v < q * yn0) : Q + 1 ≤ q := by
  rcases hc with hc | hc
  · have := h.small; omega
  · exact h.lt_of q r g.eq hc

theorem pred_mul (q y : Nat) (h : 1 ≤ q) : (q - 1) * y + y = q * y := by
  obtain ⟨k, rfl⟩ : ∃ k, q = k + 1 := ⟨q - 1, by omega⟩
  rw [Nat.add_sub_cancel, Nat.add_mul, Nat.one_mul]

/-- One round that goes on. -/
theorem Guess.next {Y yn1 yn0 u v Q q r : Nat} (h : Divs Y yn1 yn0 u v Q) (g : Guess yn1 yn0 u v Q q r) (hc : 4294967296 ≤ q ∨ r * 4294967296 + v < q * yn0) (hr : r + yn1 < 4294967296) :
    Guess yn1 yn0 u v Q (q - 1) (r + yn1) := by
  have hp := g.pos h hc
  have := pred_mul q yn1 (by omega)
  have he := g.eq
  have hl := g.le
  exact ⟨by omega, by omega, by omega, hr⟩

/-- The round that breaks off. -/
theorem Guess.stop {Y yn1 yn0 u v Q q r : Nat} (h : Divs Y yn1 yn0 u v Q) (g : Guess yn1 yn0 u v Q q r) (hc : 4294967296 ≤ q ∨ r * 4294967296 + v < q * yn0) (hr : 4294967296 ≤ r + yn1) :
    q - 1 = Q := by
  have hp := g.pos h hc
  have := pred_mul q yn1 (by omega)
  have he := g.eq
  have hl := g.le
  have hle : q - 1 ≤ Q := by
    refine h.le_of (q - 1) (r + yn1) (by omega) ?_
    have h0 := h.hy0
    have : (q - 1) * yn0 ≤ 4294967296 * 4294967296 := Nat.mul_le_mul (by omega) (by omega)
    have h3 : 4294967296 * 4294967296 ≤ (r + yn1) * 4294967296 := Nat.mul_le_mul_right _ hr
    omega
  omega

/-- The loop's end. -/
theorem Guess.done {Y yn1 yn0 u v Q q r : Nat} (h : Divs Y yn1 yn0 u v Q) (g : Guess yn1 yn0 u v Q q r) (_hc : ¬ 4294967296 ≤ q) (hd : ¬ r * 4294967296 + v < q * yn0) :
    q = Q := by
  have := h.le_of q r g.eq (by omega)
  have := g.ge
  omega

/-- The rest, as the machine's arithmetic comes to it. -/
theorem Divs.rest {Y yn1 yn0 u v Q : Nat} (h : Divs Y yn1 yn0 u v Q) : u * 4294967296 + v - Q * Y = (u * 4294967296 + v) % Y ∧ (u * 4294967296 + v) % Y < Y := by
  have hy : 0 < Y := by have := h.hy; have := h.hy1; omega
  refine ⟨?_, Nat.mod_lt _ hy⟩
  rw [h.hq, Nat.mul_comm _ Y]
  have := Nat.div_add_mod (u * 4294967296 + v) Y
  omega

/-- The two digits of the quotient, and the rest. -/
theorem two_digits (Y u v1 v0 : Nat) (hy : 0 < Y) :
    (u * 4294967296 + v1) / Y * 4294967296 + ((u * 4294967296 + v1) % Y * 4294967296 + v0) / Y = (u * 18446744073709551616 + v1 * 4294967296 + v0) / Y ∧
    ((u * 4294967296 + v1) % Y * 4294967296 + v0) % Y = (u * 18446744073709551616 + v1 * 4294967296 + v0) % Y := by
  have e := Nat.div_add_mod (u * 4294967296 + v1) Y
  obtain ⟨q, hq⟩ : ∃ q, q = (u * 4294967296 + v1) / Y := ⟨_, rfl⟩
  obtain ⟨r, hr⟩ : ∃ r, r = (u * 4294967296 + v1) % Y := ⟨_, rfl⟩
  rw [← hq, ← hr] at e
  rw [← hq, ← hr]
  have e2 : Y * (q * 4294967296) = Y * q * 4294967296 := (Nat.mul_assoc _ _ _).symm
  have key : u * 18446744073709551616 + v1 * 4294967296 + v0 = (r * 4294967296 + v0) + Y * (q * 4294967296) := by
    rw [e2]; omega
  have k1 : ((r * 4294967296 + v0) + Y * (q * 4294967296)) / Y = (r * 4294967296 + v0) / Y + q * 4294967296 := Nat.add_mul_div_left _ _ hy
  have k2 : ((r * 4294967296 + v0) + Y * (q * 4294967296)) % Y = (r * 4294967296 + v0) % Y := Nat.add_mul_mod_self_left _ _ _
  rw [key, k1, k2]
  exact ⟨Nat.add_comm _ _, rfl⟩

/-- The two numbers that math/bits.Div64 shifts: the dividend's upper and lower half. -/
theorem shifted (hi lo s : Nat) (hs : s ≤ 64) :
    (hi * 2 ^ s + lo / 2 ^ (64 - s)) * 18446744073709551616 + lo * 2 ^ s % 18446744073709551616 = (hi * 18446744073709551616 + lo) * 2 ^ s := by
  have e64 : 2 ^ (64 - s) * 2 ^ s = 18446744073709551616 := by
    rw [← Nat.pow_add, show 64 - s + s = 64 by omega]
  have hdiv : lo * 2 ^ s / 18446744073709551616 = lo / 2 ^ (64 - s) := by
    rw [← e64, Nat.mul_div_mul_right _ _ (Nat.two_pow_pos s)]
  have h := Nat.div_add_mod (lo * 2 ^ s) 18446744073709551616
  rw [hdiv] at h
  have e1 : (hi * 18446744073709551616 + lo) * 2 ^ s = hi * 2 ^ s * 18446744073709551616 + lo * 2 ^ s := by
    rw [Nat.add_mul, Nat.mul_right_comm]
  have e2 : (hi * 2 ^ s + lo / 2 ^ (64 - s)) * 18446744073709551616 = hi * 2 ^ s * 18446744073709551616 + 18446744073709551616 * (lo / 2 ^ (64 - s)) := by
    rw [Nat.add_mul, Nat.mul_comm (lo / 2 ^ (64 - s))]
  rw [e1, e2]
  exact (Nat.add_assoc _ _ _).trans (congrArg (hi * 2 ^ s * 18446744073709551616 + ·) h)

theorem shifted_lt (hi lo y s : Nat) (hs : s ≤ 64) (h : hi < y) (hl : lo < 18446744073709551616) : hi * 2 ^ s + lo / 2 ^ (64 - s) < y * 2 ^ s := by
  have e := shifted hi lo s hs
  have h1 : (hi * 18446744073709551616 + lo) * 2 ^ s < (y * 18446744073709551616) * 2 ^ s := Nat.mul_lt_mul_of_pos_right (by omega) (Nat.two_pow_pos s)
  rw [Nat.mul_right_comm y] at h1
  generalize hi * 2 ^ s + lo / 2 ^ (64 - s) = u at *
  generalize y * 2 ^ s = Y at *
  generalize (hi * 18446744073709551616 + lo) * 2 ^ s = N at *
  have h2 : u * 18446744073709551616 < Y * 18446744073709551616 := Nat.lt_of_le_of_lt (Nat.le_trans (Nat.le_add_right _ _) (Nat.le_of_eq e)) h1
  exact Nat.lt_of_mul_lt_mul_right h2

theorem low_lt (lo s : Nat) (hs : s ≤ 64) (hl : lo < 18446744073709551616) : lo / 2 ^ (64 - s) < 2 ^ s := by
  rw [Nat.div_lt_iff_lt_mul (Nat.two_pow_pos _), ← Nat.pow_add, show s + (64 - s) = 64 by omega]
  exact hl

theorem high_or (hi l s : Nat) (h : l < 2 ^ s) : hi * 2 ^ s ||| l = hi * 2 ^ s + l := by
  rw [Nat.mul_comm]
  exact (Nat.two_pow_add_eq_or_of_lt h hi).symm

/-- The quotient and the rest, out of the two digits. -/
theorem div64_end (hi lo y s : Nat) (hy : 0 < y) (hs : s ≤ 64) :
    let Y := y * 2 ^ s; let u := hi * 2 ^ s + lo / 2 ^ (64 - s); let t := lo * 2 ^ s % 18446744073709551616
    (u * 4294967296 + t / 4294967296) / Y * 4294967296 + ((u * 4294967296 + t / 4294967296) % Y * 4294967296 + t % 4294967296) / Y = (hi * 18446744073709551616 + lo) / y ∧
    ((u * 4294967296 + t / 4294967296) % Y * 4294967296 + t % 4294967296) % Y / 2 ^ s = (hi * 18446744073709551616 + lo) % y := by
  intro Y u t
  have hp := Nat.two_pow_pos s
  have hY : 0 < Y := Nat.mul_pos hy hp
  have e := two_digits Y u (t / 4294967296) (t % 4294967296) hY
  have ht : u * 18446744073709551616 + t / 4294967296 * 4294967296 + t % 4294967296 = (hi * 18446744073709551616 + lo) * 2 ^ s := by
    rw [← shifted hi lo s hs]
    have := Nat.div_add_mod t 4294967296
    rw [Nat.mul_comm] at this
    rw [Nat.add_assoc, this]
  rw [ht] at e
  refine ⟨e.1.trans (Nat.mul_div_mul_right _ _ hp), ?_⟩
  rw [e.2]
  show (hi * 18446744073709551616 + lo) * 2 ^ s % (y * 2 ^ s) / 2 ^ s = _
  rw [Nat.mul_mod_mul_right, Nat.mul_div_cancel _ hp]
end Go.Proofs.YtjgajcabecklcaaDoor
