/-
  Plain facts of the encoding: zigzag numbers, groups of seven bits, what is decoded at an index of a list of bytes. No program is named here. No condition.
-/
import Derived.Test.YthalnnhkeaanhaaDoorProg
import Derived.WalkKit
import Derived.Lib.Hide
namespace Go.Proofs.YthalnnhkeaanhaaDoor
open Go.RowKit
set_option linter.unusedVariables false

/-- The zigzag number. -/
def zz (n : Int) : Nat := if n < 0 then (-2 * n - 1).toNat else (2 * n).toNat
def uz (u : Nat) : Int := if u % 2 = 1 then -((u / 2 : Nat) : Int) - 1 else ((u / 2 : Nat) : Int)
theorem uz_zz (n : Int) : uz (zz n) = n := by
  unfold uz zz
  by_cases h : n < 0
  · rw [if_pos h, if_pos (by omega)]; omega
  · rw [if_neg h, if_neg (by omega)]; omega
theorem zz_uz (u : Nat) : zz (uz u) = u := by
  unfold uz zz
  by_cases h : u % 2 = 1
  · rw [if_pos h, if_pos (by omega)]; omega
  · rw [if_neg h, if_neg (by omega)]; omega
theorem zz_lt {n : Int} (lo : -9223372036854775808 ≤ n) (hi : n ≤ 9223372036854775807) : zz n < 18446744073709551616 := by
  unfold zz; split <;> omega
theorem uz_bd {u : Nat} (h : u < 18446744073709551616) : -9223372036854775808 ≤ uz u ∧ uz u ≤ 9223372036854775807 := by
  unfold uz; split <;> omega

/-- Groups of seven bits, the lowest first. -/
def leb (u : Nat) : List UInt8 := if u < 128 then [UInt8.ofNat u] else UInt8.ofNat (128 + u % 128) :: leb (u / 128)
termination_by u
decreasing_by omega
theorem leb_small {u : Nat} (h : u < 128) : leb u = [UInt8.ofNat u] := by rw [leb, if_pos h]
theorem leb_big {u : Nat} (h : 128 ≤ u) : leb u = UInt8.ofNat (128 + u % 128) :: leb (u / 128) := by rw [leb, if_neg (by omega)]
theorem leb_pos (u : Nat) : 1 ≤ (leb u).length := by
  by_cases h : u < 128
  · rw [leb_small h]; simp
  · rw [leb_big (by omega)]; simp
theorem leb_len : ∀ (k u : Nat), u < 128 ^ (k + 1) → (leb u).length ≤ k + 1
  | 0, u, h => by rw [leb_small (by simpa using h)]; simp
  | k + 1, u, h => by
    by_cases hu : u < 128
    · rw [leb_small hu]; simp
    · rw [leb_big (by omega), List.length_cons]
      have := leb_len k (u / 128) (by rw [Nat.div_lt_iff_lt_mul (by decide)]; rwa [Nat.pow_succ] at h)
      omega
theorem leb_gt : ∀ (k u : Nat), 128 ^ (k + 1) ≤ u → k + 1 < (leb u).length
  | 0, u, h => by
    rw [leb_big (by simpa using h), List.length_cons]
    have := leb_pos (u / 128)
    omega
  | k + 1, u, h => by
    have hp : 128 ≤ 128 ^ (k + 1 + 1) := by
      rw [Nat.pow_succ]
      have := Nat.pow_pos (n := k + 1) (show 0 < 128 by decide)
      omega
    rw [leb_big (by omega), List.length_cons]
    have := leb_gt k (u / 128) (by rw [Nat.le_div_iff_mul_le (by decide)]; rwa [Nat.pow_succ] at h)
    omega
def enc (n : Int) : List UInt8 := leb (zz n)
theorem enc_pos (n : Int) : 1 ≤ (enc n).length := leb_pos _
theorem leb_ten {u : Nat} (h : u < 18446744073709551616) : (leb u).length ≤ 10 := leb_len 9 u (by omega)
theorem enc_ten {n : Int} (lo : -9223372036854775808 ≤ n) (hi : n ≤ 9223372036854775807) : (enc n).length ≤ 10 := leb_ten (zz_lt lo hi)

/-- How many bytes at the beginning have the highest bit. -/
def lead : List UInt8 → Nat
  | [] => 0
  | c :: r => if 128 ≤ c.toNat then lead r + 1 else 0
def val : List UInt8 → Nat
  | [] => 0
  | c :: r => c.toNat % 128 + 128 * val r
theorem lead_cons_hi {c : UInt8} {r : List UInt8} (h : 128 ≤ c.toNat) : lead (c :: r) = lead r + 1 := by rw [lead, if_pos h]
theorem lead_cons_lo {c : UInt8} {r : List UInt8} (h : c.toNat < 128) : lead (c :: r) = 0 := by rw [lead, if_neg (by omega)]
theorem lead_le : ∀ s : List UInt8, lead s ≤ s.length
  | [] => Nat.le_refl _
  | c :: r => by
    have := lead_le r
    rw [lead, List.length_cons]
    split <;> omega
theorem lead_hi : ∀ (s : List UInt8) (k : Nat), k < lead s → 128 ≤ (s.getD k 0).toNat
  | [], k, h => absurd h (Nat.not_lt_zero k)
  | c :: r, k, h => by
    by_cases hc : 128 ≤ c.toNat
    · rw [lead_cons_hi hc] at h
      match k with
      | 0 => simpa using hc
      | k + 1 =>
        have := lead_hi r k (by omega)
        simpa using this
    · rw [lead_cons_lo (by omega)] at h
      exact absurd h (Nat.not_lt_zero k)
theorem lead_stop : ∀ (s : List UInt8), (s.getD (lead s) 0).toNat < 128
  | [] => by simp [lead]
  | c :: r => by
    by_cases hc : 128 ≤ c.toNat
    · rw [lead_cons_hi hc]
      have := lead_stop r
      simpa using this
    · rw [lead_cons_lo (by omega)]
      simp
      omega
theorem lead_step {s : List UInt8} {k : Nat} (h : k ≤ lead s) (hc : 128 ≤ (s.getD k 0).toNat) : k + 1 ≤ lead s := by
  rcases Nat.lt_or_ge k (lead s) with h1 | h1
  · exact h1
  · obtain rfl : k = lead s := by omega
    have := lead_stop s
    omega
theorem lead_here {s : List UInt8} {k : Nat} (h : k ≤ lead s) (hc : (s.getD k 0).toNat < 128) : lead s = k := by
  rcases Nat.lt_or_ge k (lead s) with h1 | h1
  · have := lead_hi s k h1
    omega
  · omega
theorem lead_end {s : List UInt8} {k : Nat} (h : k ≤ lead s) (hk : s.length ≤ k) : lead s = k := by
  have := lead_le s
  omega

theorem take_snocB (l : List UInt8) (k : Nat) (h : k < l.length) : l.take (k + 1) = l.take k ++ [l.getD k 0] := by
  rw [List.take_succ_eq_append_getElem h]
  simp [h]
theorem dropB_cons (l : List UInt8) (k : Nat) (h : k < l.length) : l.drop k = l.getD k 0 :: l.drop (k + 1) := by
  rw [List.drop_eq_getElem_cons h]
  simp [h]
theorem getD_drop (l : List UInt8) (k j : Nat) : (l.drop k).getD j 0 = l.getD (k + j) 0 := by
  simp [List.getD]
theorem val_snoc : ∀ (l : List UInt8) (c : UInt8), val (l ++ [c]) = val l + 128 ^ l.length * (c.toNat % 128)
  | [], c => by simp [val]
  | x :: l, c => by
    rw [List.cons_append, val, val_snoc l c, val, List.length_cons, Nat.pow_succ, Nat.mul_add, Nat.mul_comm (128 ^ l.length) 128, Nat.mul_assoc]
    omega
theorem val_lt : ∀ (l : List UInt8), val l < 128 ^ l.length
  | [] => by simp [val]
  | x :: l => by
    have := val_lt l
    rw [val, List.length_cons, Nat.pow_succ]
    omega
theorem val_take (s : List UInt8) (k : Nat) (h : k < s.length) : val (s.take (k + 1)) = val (s.take k) + 128 ^ k * ((s.getD k 0).toNat % 128) := by
  rw [take_snocB s k h, val_snoc, List.length_take, Nat.min_eq_left (by omega)]
theorem val_take_lt (s : List UInt8) (k : Nat) : val (s.take k) < 128 ^ k := by
  have h1 := val_lt (s.take k)
  have h2 : (s.take k).length ≤ k := by rw [List.length_take]; omega
  exact Nat.lt_of_lt_of_le h1 (Nat.pow_le_pow_right (by decide) h2)
/-- From the highest group down. -/
theorem val_cons (c : UInt8) (r : List UInt8) : val (c :: r) = c.toNat % 128 + 128 * val r := rfl

/-- What is decoded at the beginning of a list of bytes: the zigzag number, the size, the error. -/
def dec (s : List UInt8) : Nat × Nat × Nat :=
  if 10 ≤ lead s then (0, 0, 3)
  else if s.length ≤ lead s then (0, 0, 4)
  else if (0 < lead s ∧ (s.getD (lead s) 0).toNat = 0) ∨ (lead s = 9 ∧ 1 < (s.getD (lead s) 0).toNat) then (0, 0, 3)
  else (val (s.take (lead s + 1)), lead s + 1, 0)
theorem dec_ten {s : List UInt8} (h : 10 ≤ lead s) : dec s = (0, 0, 3) := by unfold dec; rw [if_pos h]
theorem dec_short {s : List UInt8} {k : Nat} (hk : lead s = k) (h : k < 10) (h2 : s.length ≤ k) : dec s = (0, 0, 4) := by subst hk; unfold dec; rw [if_neg (by omega), if_pos h2]
theorem dec_form {s : List UInt8} {k : Nat} (hk : lead s = k) (h : k < 10) (h2 : k < s.length) (h3 : (0 < k ∧ (s.getD k 0).toNat = 0) ∨ (k = 9 ∧ 1 < (s.getD k 0).toNat)) : dec s = (0, 0, 3) := by
  subst hk; unfold dec; rw [if_neg (by omega), if_neg (by omega), if_pos h3]
theorem dec_ok {s : List UInt8} {k : Nat} (hk : lead s = k) (h : k < 10) (h2 : k < s.length) (h3 : ¬ ((0 < k ∧ (s.getD k 0).toNat = 0) ∨ (k = 9 ∧ 1 < (s.getD k 0).toNat))) : dec s = (val (s.take (k + 1)), k + 1, 0) := by
  subst hk; unfold dec; rw [if_neg (by omega), if_neg (by omega), if_neg h3]
theorem dec_cases (s : List UInt8) : (∃ E, dec s = (0, 0, E) ∧ (E = 3 ∨ E = 4)) ∨
    (lead s < 10 ∧ lead s < s.length ∧ (lead s = 0 ∨ (s.getD (lead s) 0).toNat ≠ 0) ∧ (lead s = 9 → (s.getD (lead s) 0).toNat ≤ 1) ∧ dec s = (val (s.take (lead s + 1)), lead s + 1, 0)) := by
  by_cases h1 : 10 ≤ lead s
  · exact Or.inl ⟨3, dec_ten h1, Or.inl rfl⟩
  by_cases h2 : s.length ≤ lead s
  · exact Or.inl ⟨4, dec_short rfl (by omega) h2, Or.inr rfl⟩
  by_cases h3 : (0 < lead s ∧ (s.getD (lead s) 0).toNat = 0) ∨ (lead s = 9 ∧ 1 < (s.getD (lead s) 0).toNat)
  · exact Or.inl ⟨3, dec_form rfl (by omega) (by omega) h3, Or.inl rfl⟩
  · exact Or.inr ⟨by omega, by omega, by omega, by omega, dec_ok rfl (by omega) (by omega) h3⟩
theorem val_bd {s : List UInt8} (h : lead s < 10) (h2 : lead s < s.length) (h3 : lead s = 9 → (s.getD (lead s) 0).toNat ≤ 1) : val (s.take (lead s + 1)) < 18446744073709551616 := by
  by_cases h9 : lead s = 9
  · have hc := h3 h9
    rw [h9] at hc h2 ⊢
    have e1 := val_take s 9 h2
    have e2 := val_take_lt s 9
    have e3 : (128 : Nat) ^ 9 = 9223372036854775808 := by decide
    rw [e3] at e1 e2
    have e4 : (s.getD 9 0).toNat % 128 ≤ 1 := Nat.le_trans (Nat.mod_le _ _) hc
    generalize (s.getD 9 0).toNat % 128 = c at e1 e4
    omega
  · have e2 := val_take_lt s (lead s + 1)
    have e3 : (128 : Nat) ^ (lead s + 1) ≤ 128 ^ 9 := Nat.pow_le_pow_right (by decide) (by omega)
    have e4 : (128 : Nat) ^ 9 = 9223372036854775808 := by decide
    omega

/-- The highest group. -/
def top (u : Nat) : Nat := if u < 128 then u else top (u / 128)
termination_by u
decreasing_by omega
theorem top_small {u : Nat} (h : u < 128) : top u = u := by rw [top, if_pos h]
theorem top_big {u : Nat} (h : 128 ≤ u) : top u = top (u / 128) := by rw [top, if_neg (by omega)]
theorem u8_small {u : Nat} (h : u < 256) : (UInt8.ofNat u).toNat = u := by
  rw [UInt8.toNat_ofNat']; exact Nat.mod_eq_of_lt h
theorem top_pos (u : Nat) (h : 1 ≤ u) : 1 ≤ top u := by
  by_cases h1 : u < 128
  · rw [top_small h1]; exact h
  · rw [top_big (by omega)]
    exact top_pos (u / 128) (by omega)
termination_by u
decreasing_by omega
theorem top_le (u : Nat) : top u * 128 ^ ((leb u).length - 1) ≤ u := by
  by_cases h1 : u < 128
  · rw [top_small h1, leb_small h1]; simp
  · have ih := top_le (u / 128)
    have hp := leb_pos (u / 128)
    rw [top_big (by omega), leb_big (by omega), List.length_cons]
    obtain ⟨m, hm⟩ : ∃ m, (leb (u / 128)).length = m + 1 := ⟨(leb (u / 128)).length - 1, by omega⟩
    rw [hm] at ih ⊢
    simp only [Nat.add_sub_cancel] at ih ⊢
    rw [Nat.pow_succ, ← Nat.mul_assoc]
    have := Nat.mul_le_mul_right 128 ih
    have h2 := Nat.div_mul_le_self u 128
    omega
termination_by u
decreasing_by omega
theorem val_leb (u : Nat) : val (leb u) = u := by
  by_cases h1 : u < 128
  · rw [leb_small h1, val, u8_small (by omega), val]; omega
  · rw [leb_big (by omega), val, u8_small (by omega), val_leb (u / 128)]; omega
termination_by u
decreasing_by omega
theorem lead_leb (u : Nat) (q : List UInt8) : lead (leb u ++ q) + 1 = (leb u).length ∧ ((leb u ++ q).getD (lead (leb u ++ q)) 0).toNat = top u := by
  by_cases h1 : u < 128
  · rw [leb_small h1, top_small h1]
    have e := u8_small (show u < 256 by omega)
    rw [List.cons_append, lead_cons_lo (by omega)]
    simpa using e
  · have ih := lead_leb (u / 128) q
    have e := u8_small (show 128 + u % 128 < 256 by omega)
    rw [leb_big (by omega), top_big (by omega), List.cons_append, lead_cons_hi (by omega), List.length_cons]
    refine ⟨by omega, ?_⟩
    simpa using ih.2
termination_by u
decreasing_by omega
theorem dec_leb {u : Nat} (h : u < 18446744073709551616) (q : List UInt8) : dec (leb u ++ q) = (u, (leb u).length, 0) := by
  obtain ⟨h1, h2⟩ := lead_leb u q
  have h10 := leb_ten h
  have hl : lead (leb u ++ q) < (leb u ++ q).length := by rw [List.length_append]; omega
  rw [dec_ok rfl (by omega) hl ?_]
  · rw [h1, List.take_left' rfl, val_leb]
  · rw [h2]
    rintro (⟨hp, hz⟩ | ⟨h9, ht⟩)
    · have : 128 ≤ u := by
        rcases Nat.lt_or_ge u 128 with hu | hu
        · have e : (leb u).length = 1 := by rw [leb_small hu]; rfl
          omega
        · exact hu
      have := top_pos u (by omega)
      omega
    · have ht2 := top_le u
      rw [show (leb u).length - 1 = 9 by omega] at ht2
      have e3 : (128 : Nat) ^ 9 = 9223372036854775808 := by decide
      rw [e3] at ht2
      omega
theorem dec_cut {u i : Nat} (h : u < 18446744073709551616) (hi : i < (leb u).length) : dec ((leb u).take i) = (0, 0, 4) := by
  obtain ⟨h1, _⟩ := lead_leb u []
  rw [List.append_nil] at h1
  have h10 := leb_ten h
  have hl : ((leb u).take i).length = i := by rw [List.length_take]; omega
  have hle := lead_le ((leb u).take i)
  rw [hl] at hle
  have key : ∀ k, k ≤ i → k ≤ lead ((leb u).take i) := fun k => by
    induction k with
    | zero => intro _; omega
    | succ k ih =>
      intro hk
      refine lead_step (ih (by omega)) ?_
      have := lead_hi (leb u) k (by omega)
      simpa [List.getD, show k < i by omega] using this
  have := key i (Nat.le_refl i)
  exact dec_short (k := i) (by omega) (by omega) (by omega)
theorem leb_hi {u i : Nat} (hi : i < (leb u).length) : 128 ≤ ((leb u).getD i 0).toNat ↔ i + 1 < (leb u).length := by
  obtain ⟨h1, h2⟩ := lead_leb u []
  rw [List.append_nil] at h1 h2
  constructor
  · intro h
    rcases Nat.lt_or_ge (i + 1) (leb u).length with h3 | h3
    · exact h3
    · have e : lead (leb u) = i := by omega
      have := lead_stop (leb u)
      rw [e] at this
      omega
  · intro h
    exact lead_hi (leb u) i (by omega)
theorem leb_val : ∀ (s : List UInt8), lead s < s.length → (lead s = 0 ∨ (s.getD (lead s) 0).toNat ≠ 0) → leb (val (s.take (lead s + 1))) = s.take (lead s + 1)
  | [], h, _ => absurd h (by simp)
  | c :: r, h, h0 => by
    by_cases hc : 128 ≤ c.toNat
    · rw [lead_cons_hi hc] at h h0 ⊢
      rw [List.length_cons] at h
      have h0' : (r.getD (lead r) 0).toNat ≠ 0 := by
        rcases h0 with h0 | h0
        · omega
        · simpa using h0
      have ih := leb_val r (by omega) (Or.inr h0')
      have hv := val_take r (lead r) (by omega)
      have hs := lead_stop r
      have hpos : 1 ≤ val (r.take (lead r + 1)) := by
        rw [hv]
        have e : (r.getD (lead r) 0).toNat % 128 = (r.getD (lead r) 0).toNat := Nat.mod_eq_of_lt hs
        rw [e]
        have := Nat.mul_le_mul (show 1 ≤ 128 ^ lead r from Nat.pow_pos (by decide)) (show 1 ≤ (r.getD (lead r) 0).toNat by omega)
        omega
      have ht : (c :: r).take (lead r + 1 + 1) = c :: r.take (lead r + 1) := rfl
      have hlt := c.toNat_lt
      rw [ht, val_cons, leb_big (by omega)]
      have e1 : (c.toNat % 128 + 128 * val (r.take (lead r + 1))) / 128 = val (r.take (lead r + 1)) := by omega
      have e2 : 128 + (c.toNat % 128 + 128 * val (r.take (lead r + 1))) % 128 = c.toNat := by omega
      rw [e1, e2, ih]
      congr 1
      exact UInt8.ofNat_toNat
    · rw [lead_cons_lo (by omega)]
      have ht : (c :: r).take (0 + 1) = [c] := by simp
      rw [ht, val_cons, val, leb_small (by omega)]
      congr 1
      rw [show c.toNat % 128 + 128 * 0 = c.toNat by omega]
      exact UInt8.ofNat_toNat

/-- What Int answers. -/
def It (l : List UInt8) (i : Int) : Int × Int × Nat :=
  if i < 0 ∨ (l.length : Int) < i then (0, 0, 1)
  else if (dec (l.drop i.toNat)).2.2 = 0 then (uz (dec (l.drop i.toNat)).1, i + ((dec (l.drop i.toNat)).2.1 : Int), 0)
  else (0, 0, (dec (l.drop i.toNat)).2.2)
theorem It_out {l : List UInt8} {i : Int} (h : i < 0 ∨ (l.length : Int) < i) : It l i = (0, 0, 1) := by unfold It; rw [if_pos h]
theorem It_bad {l : List UInt8} {i E : Nat} (h : i ≤ l.length) (hd : dec (l.drop i) = (0, 0, E)) (hE : E ≠ 0) : It l i = (0, 0, E) := by
  unfold It
  rw [if_neg (by omega), Int.toNat_natCast, hd, if_neg hE]
theorem It_good {l : List UInt8} {i u k : Nat} (h : i ≤ l.length) (hd : dec (l.drop i) = (u, k, 0)) : It l i = (uz u, (i : Int) + (k : Int), 0) := by
  unfold It
  rw [if_neg (by omega), Int.toNat_natCast, hd, if_pos rfl]
theorem It_enc {n : Int} (lo : -9223372036854775808 ≤ n) (hi : n ≤ 9223372036854775807) (p q : List UInt8) : It (p ++ (enc n ++ q)) (p.length : Int) = (n, (p.length : Int) + ((enc n).length : Int), 0) := by
  rw [It_good (u := zz n) (k := (enc n).length) (by rw [List.length_append]; omega) (by rw [List.drop_left' rfl]; exact dec_leb (zz_lt lo hi) q), uz_zz]
theorem It_cut {n : Int} (lo : -9223372036854775808 ≤ n) (hi : n ≤ 9223372036854775807) {i : Nat} (h : i < (enc n).length) : It ((enc n).take i) 0 = (0, 0, 4) :=
  It_bad (i := 0) (Nat.zero_le _) (by rw [List.drop_zero]; exact dec_cut (zz_lt lo hi) h) (by decide)
theorem It_cases (l : List UInt8) (i : Int) : (∃ E, It l i = (0, 0, E) ∧ 1 ≤ E ∧ E ≤ 4) ∨
    (∃ (k x : Nat) (n : Int), i = k ∧ k < x ∧ x ≤ l.length ∧ -9223372036854775808 ≤ n ∧ n ≤ 9223372036854775807 ∧ (l.drop k).take (x - k) = enc n ∧ It l i = (n, (x : Int), 0)) := by
  by_cases h : i < 0 ∨ (l.length : Int) < i
  · exact Or.inl ⟨1, It_out h, by omega, by omega⟩
  obtain ⟨k, rfl⟩ : ∃ k : Nat, i = k := ⟨i.toNat, by omega⟩
  have hk : k ≤ l.length := by omega
  rcases dec_cases (l.drop k) with ⟨E, hE, hE2⟩ | ⟨h1, h2, h3, h4, h5⟩
  · exact Or.inl ⟨E, It_bad hk hE (by omega), by omega, by omega⟩
  · refine Or.inr ⟨k, k + (lead (l.drop k) + 1), _, rfl, by omega, ?_, (uz_bd (val_bd h1 h2 h4)).1, (uz_bd (val_bd h1 h2 h4)).2, ?_, by rw [It_good hk h5]; simp⟩
    · rw [List.length_drop] at h2
      omega
    · rw [Nat.add_sub_cancel_left, enc, zz_uz, leb_val _ h2 h3]
end Go.Proofs.YthalnnhkeaanhaaDoor
