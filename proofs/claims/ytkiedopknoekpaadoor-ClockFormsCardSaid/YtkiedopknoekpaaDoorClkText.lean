/-
  Plain facts on the texts of moments, of no program: what a text consists of, that cutting it gives its parts, and that these read back as the numbers. No condition.
-/
import Derived.Test.YtkiedopknoekpaaDoorNumText
import Derived.Lib.IndexMore
namespace Go.Proofs.YtkiedopknoekpaaDoor
open Go.Lib
set_option linter.unusedVariables false

/-- The text of a moment. -/
def restT (t : Nat) : List UInt8 := dgs (t % 86400 / 3600) 2 ++ 58 :: (dgs (t % 86400 % 3600 / 60) 2 ++ 58 :: dgs (t % 60) 2)
def momT (t : Nat) : List UInt8 := decDigits (t / 86400) ++ 32 :: restT t

theorem index_sep (c : UInt8) (B : List UInt8) : ∀ A : List UInt8, c ∉ A → index (A ++ c :: B) [c] = A.length
  | [], _ => by
    rw [List.nil_append]
    unfold index
    simp [List.isPrefixOf]
  | a :: A, h => by
    have h1 : c ≠ a := fun e => h (by rw [← e]; exact List.mem_cons_self)
    have ih := index_sep c B A (fun hm => h (List.mem_cons_of_mem _ hm))
    rw [List.cons_append]
    unfold index
    rw [ih]
    simp only [List.isPrefixOf, Bool.and_true, beq_iff_eq]
    rw [if_neg h1, if_neg (by omega), List.length_cons]
    omega
theorem cut_sep (c : UInt8) (A B : List UInt8) (h : c ∉ A) : cut (A ++ c :: B) [c] = (A, B, true) := by
  unfold cut
  rw [index_sep c B A h, if_pos (by omega)]
  simp
theorem dgs_no58 (n k : Nat) : (58 : UInt8) ∉ dgs n k := by
  induction k with
  | zero => exact List.not_mem_nil
  | succ k ih =>
    intro hm
    rcases List.mem_cons.1 hm with e | e
    · have := dg_nat n k
      rw [← e] at this
      have h2 : (58 : UInt8).toNat = 58 := rfl
      omega
    · exact ih e
theorem cut_day (t : Nat) : cut (momT t) [32] = (decDigits (t / 86400), restT t, true) := by
  unfold momT
  refine cut_sep 32 _ _ ?_
  rw [decDigits_dgs]
  exact dgs_no _ _ _ (by decide)
theorem cut_hour (t : Nat) : cut (restT t) [58] = (dgs (t % 86400 / 3600) 2, dgs (t % 86400 % 3600 / 60) 2 ++ 58 :: dgs (t % 60) 2, true) := by
  unfold restT
  exact cut_sep 58 _ _ (dgs_no58 _ _)
theorem cut_minute (t : Nat) : cut (dgs (t % 86400 % 3600 / 60) 2 ++ 58 :: dgs (t % 60) 2) [58] = (dgs (t % 86400 % 3600 / 60) 2, dgs (t % 60) 2, true) := cut_sep 58 _ _ (dgs_no58 _ _)
theorem atoi_dgs (n k : Nat) (hk : 1 ≤ k) (h : n < 10 ^ k) (hb : n < 9223372036854775808) : atoiAll (dgs n k) = .ok n := by
  obtain ⟨i, rfl⟩ : ∃ i, k = i + 1 := ⟨k - 1, by omega⟩
  have hm : parseUint10 0 (dgs n (i + 1)) = .ok n := by
    rw [parse_dgs]
    · rw [Nat.zero_mul, Nat.zero_add, Nat.mod_eq_of_lt h]
    · rw [Nat.zero_mul, Nat.zero_add, Nat.mod_eq_of_lt h]; exact hb
  have e1 : parseMag (dgs n (i + 1)) = .ok n := by
    unfold parseMag
    rw [if_neg (by rw [dgs]; exact List.cons_ne_nil _ _), hm]
  have hd := dg_nat n i
  rw [dgs] at e1 ⊢
  simp only [atoiAll]
  rw [if_neg (by omega), e1]
  simp only
  rw [if_neg (by omega), if_neg (by omega), if_neg (by omega)]
theorem atoi_day (n : Nat) (hb : n < 9223372036854775808) : atoiAll (decDigits n) = .ok n := by
  rw [decDigits_dgs]
  exact atoi_dgs n _ (nDigits_pos n) (lt_pow_nDigits n) hb
theorem day_len (n : Nat) (h : n ≤ 49709) : 1 ≤ (decDigits n).length ∧ (decDigits n).length ≤ 5 := by
  rw [decDigits_dgs, dgs_length]
  refine ⟨nDigits_pos n, ?_⟩
  have hp := pow_nDigits n
  by_cases h0 : 1 ≤ n
  · have h1 := hp h0
    have hlt : 10 ^ (nDigits n - 1) < 10 ^ 5 := by omega
    have := (Nat.pow_lt_pow_iff_right (by decide : 1 < 10)).1 hlt
    omega
  · have : n = 0 := by omega
    subst this
    rw [nDigits_small (by decide)]
    decide
theorem rest_len (t : Nat) : (restT t).length = 8 := by simp [restT, dgs_length]
theorem mom_len (t : Nat) : (momT t).length = (decDigits (t / 86400)).length + 9 := by simp [momT, rest_len]
theorem two_digits (n : Nat) (h : n < 100) : decDigits (n / 10) ++ decDigits (n % 10) = dgs n 2 := by
  have h1 : n / 10 < 10 := by omega
  have h2 : n % 10 < 10 := by omega
  have e : ∀ m, m < 10 → decDigits m = [UInt8.ofNat (48 + m)] := fun m hm => by rw [decDigits, dif_pos hm]
  rw [e _ h1, e _ h2]
  simp only [dgs, dg, List.cons_append, List.nil_append]
  have a1 : n / 10 ^ 1 % 10 = n / 10 := by omega
  have a2 : n / 10 ^ 0 % 10 = n % 10 := by omega
  rw [a1, a2]

/-! ### What digits write -/
def digO : Option Nat → List UInt8 → Option Nat
  | a, [] => a
  | none, _ :: _ => none
  | some n, c :: l => if c.toNat < 48 ∨ 57 < c.toNat then none else digO (some (n * 10 + (c.toNat - 48))) l
def digS (l : List UInt8) : Int := match digO (some 0) l with | some n => n | none => -1
theorem digO_dgs (n : Nat) : ∀ (k a : Nat), digO (some a) (dgs n k) = some (a * 10 ^ k + n % 10 ^ k)
  | 0, a => by simp [dgs, digO, Nat.mod_one]
  | k + 1, a => by
    have hd := dg_nat n k
    rw [dgs, digO, if_neg (by omega), digO_dgs n k]
    congr 1
    have e0 := Nat.mod_mul_right_div_self n (10 ^ k) 10
    have e1 : n % (10 ^ k * 10) = n % 10 ^ k + 10 ^ k * (n / 10 ^ k % 10) := Nat.mod_mul
    rw [hd, Nat.pow_succ, e1, show 48 + n / 10 ^ k % 10 - 48 = n / 10 ^ k % 10 by omega, Nat.add_mul, Nat.mul_assoc, Nat.mul_comm 10 (10 ^ k), Nat.mul_comm (n / 10 ^ k % 10)]
    omega
theorem digS_dgs (n k : Nat) (h : n < 10 ^ k) : digS (dgs n k) = n := by
  unfold digS
  rw [digO_dgs, Nat.zero_mul, Nat.zero_add, Nat.mod_eq_of_lt h]
theorem digO_none (l : List UInt8) : digO none l = none := by cases l <;> rfl
theorem digO_snoc : ∀ (l : List UInt8) (a : Option Nat) (c : UInt8), digO a (l ++ [c]) = match digO a l with | none => none | some n => if c.toNat < 48 ∨ 57 < c.toNat then none else some (n * 10 + (c.toNat - 48))
  | [], a, c => by cases a <;> simp [digO]
  | d :: l, none, c => by rw [List.cons_append, digO, digO_none]
  | d :: l, some n, c => by
    rw [List.cons_append, digO, digO]
    split
    · simp only
    · exact digO_snoc l _ c
theorem digO_bd : ∀ (l : List UInt8) (a m : Nat), digO (some a) l = some m → m + 1 ≤ (a + 1) * 10 ^ l.length
  | [], a, m, h => by simp [digO] at h; subst h; simp
  | c :: l, a, m, h => by
    rw [digO] at h
    split at h
    · cases h
    · have ih := digO_bd l _ m h
      rw [List.length_cons, Nat.pow_succ]
      refine Nat.le_trans ih ?_
      rw [Nat.mul_comm (10 ^ l.length) 10, ← Nat.mul_assoc]
      exact Nat.mul_le_mul_right _ (by omega)
theorem digS_bd (l : List UInt8) (h : l.length ≤ 5) : -1 ≤ digS l ∧ digS l ≤ 99999 := by
  unfold digS
  cases hd : digO (some 0) l with
  | none => exact ⟨by decide, by decide⟩
  | some m =>
    have := digO_bd l 0 m hd
    have hp : 10 ^ l.length ≤ 10 ^ 5 := Nat.pow_le_pow_right (by decide) h
    simp only
    omega
end Go.Proofs.YtkiedopknoekpaaDoor
