/-
  Plain facts on decimal texts, of no program: the text of a number with a fixed number of places, the number of a text, and that strconv's Atoi reads it. No condition.
-/
import Derived.Lib.ItoaNum
import Derived.Lib.AtoiAll
import Derived.Lib.Replace
import Derived.Lib.IndexLaws
namespace Go.Proofs.YtjgajcabecklcaaDoor
open Go.Lib

/-- The last k decimal digits of n. -/
def dgs (n : Nat) : Nat → List UInt8
  | 0 => []
  | k + 1 => dg n k :: dgs n k
theorem dgs_length (n : Nat) : ∀ k, (dgs n k).length = k
  | 0 => rfl
  | k + 1 => by rw [dgs, List.length_cons, dgs_length n k]
theorem dgs_eq (n : Nat) : ∀ k, dgs n k = (List.range k).map fun t => dg n (k - 1 - t)
  | 0 => rfl
  | k + 1 => by
    rw [dgs, dgs_eq n k, List.range_succ_eq_map, List.map_cons, List.map_map]
    congr 1
    refine List.map_congr_left fun t _ => ?_
    show dg n (k - 1 - t) = dg n (k + 1 - 1 - (t + 1))
    congr 1
    omega
theorem decDigits_dgs (n : Nat) : decDigits n = dgs n (nDigits n) := by rw [decDigits_eq, dgs_eq]
theorem dg_nat (n j : Nat) : (dg n j).toNat = 48 + n / 10 ^ j % 10 := by
  have : n / 10 ^ j % 10 < 10 := Nat.mod_lt _ (by decide)
  simp only [dg, UInt8.toNat_ofNat']
  omega
theorem dg_zero (n j : Nat) (h : n < 10 ^ j) : dg n j = 48 := by
  unfold dg
  rw [Nat.div_eq_of_lt h]
  rfl
theorem dgs_pad (n k : Nat) : ∀ d, dgs n (nDigits n + d) = List.replicate d 48 ++ decDigits n
  | 0 => by rw [decDigits_dgs]; rfl
  | d + 1 => by
    rw [← Nat.add_assoc, dgs, dgs_pad n k d, List.replicate_succ, List.cons_append, dg_zero]
    exact Nat.lt_of_lt_of_le (lt_pow_nDigits n) (Nat.pow_le_pow_right (by decide) (by omega))

/-- The number of digits that are printed. -/
def width (n p : Nat) : Nat := max (nDigits n) (p + 1)
theorem width_pad (n p : Nat) : dgs n (width n p) = List.replicate (p + 1 - nDigits n) 48 ++ decDigits n := by
  rw [← dgs_pad n 0]
  congr 1
  unfold width
  omega
def signT (m : Int) : List UInt8 := if m < 0 then [45] else []
/-- The digits with a point before the last p of them (none if p is 0). -/
def pointT (D : List UInt8) (p : Nat) : List UInt8 := if p = 0 then D else D.take (D.length - p) ++ 46 :: D.drop (D.length - p)
/-- The text of m with p places. -/
def fmtT (m : Int) (p : Nat) : List UInt8 := signT m ++ pointT (dgs m.natAbs (width m.natAbs p)) p

/-- One byte of a text: a digit goes behind what was read. -/
def rd (n : Nat) (c : UInt8) : Nat := if 48 ≤ c.toNat ∧ c.toNat ≤ 57 then 10 * n + (c.toNat - 48) else n
def valN (l : List UInt8) : Nat := l.foldl rd 0
/-- The number of a text. -/
def valS (l : List UInt8) : Int := if l.head? = some 45 then -(valN l : Int) else valN l

theorem rd_dg (a n j : Nat) : rd a (dg n j) = 10 * a + n / 10 ^ j % 10 := by
  have : n / 10 ^ j % 10 < 10 := Nat.mod_lt _ (by decide)
  unfold rd
  rw [dg_nat, if_pos (by omega)]
  omega
theorem fold_dgs (n : Nat) : ∀ (k a : Nat), (dgs n k).foldl rd a = a * 10 ^ k + n % 10 ^ k
  | 0, a => by simp [dgs, Nat.mod_one]
  | k + 1, a => by
    rw [dgs, List.foldl_cons, rd_dg, fold_dgs n k, Nat.mod_pow_succ, Nat.pow_succ, Nat.add_mul]
    have e1 : 10 * a * 10 ^ k = a * (10 ^ k * 10) := by rw [Nat.mul_comm 10 a, Nat.mul_assoc, Nat.mul_comm 10]
    have e2 : n / 10 ^ k % 10 * 10 ^ k = 10 ^ k * (n / 10 ^ k % 10) := Nat.mul_comm _ _
    omega
theorem val_dgs (n k : Nat) (h : n < 10 ^ k) : valN (dgs n k) = n := by
  unfold valN
  rw [fold_dgs, Nat.zero_mul, Nat.zero_add, Nat.mod_eq_of_lt h]
theorem val_point (D : List UInt8) (p : Nat) : valN (pointT D p) = valN D := by
  unfold pointT
  split
  · rfl
  · unfold valN
    rw [List.foldl_append, List.foldl_cons, show rd (List.foldl rd 0 (List.take (D.length - p) D)) 46 = List.foldl rd 0 (List.take (D.length - p) D) from rfl, ← List.foldl_append, List.take_append_drop]
theorem lt_width (n p : Nat) : n < 10 ^ width n p := Nat.lt_of_lt_of_le (lt_pow_nDigits n) (Nat.pow_le_pow_right (by decide) (by unfold width; omega))
theorem width_ge (n p : Nat) : p + 1 ≤ width n p := by unfold width; omega
/-- The first byte behind the sign is a digit. -/
theorem point_head (n k p : Nat) (h : p + 1 ≤ k) : ∃ j r, pointT (dgs n k) p = dg n j :: r := by
  obtain ⟨i, rfl⟩ : ∃ i, k = i + 1 := ⟨k - 1, by omega⟩
  unfold pointT
  split
  · exact ⟨i, dgs n i, rfl⟩
  · rw [dgs_length, show i + 1 - p = (i - p) + 1 by omega, dgs, List.take_succ_cons, List.cons_append]
    exact ⟨i, _, rfl⟩
theorem dg_ne (n j : Nat) (c : UInt8) (h : c.toNat < 48) : dg n j ≠ c := by
  intro e
  have := dg_nat n j
  rw [e] at this
  omega
theorem val_fmt (m : Int) (p : Nat) : valS (fmtT m p) = m := by
  obtain ⟨j, r, hr⟩ := point_head m.natAbs (width m.natAbs p) p (width_ge _ _)
  have hv : valN (pointT (dgs m.natAbs (width m.natAbs p)) p) = m.natAbs := by rw [val_point, val_dgs _ _ (lt_width _ _)]
  unfold valS fmtT signT
  by_cases h : m < 0
  · rw [if_pos h, List.cons_append, List.nil_append, List.head?_cons, if_pos rfl]
    have e : valN (45 :: pointT (dgs m.natAbs (width m.natAbs p)) p) = m.natAbs := Eq.trans rfl hv
    rw [e]
    omega
  · rw [if_neg h, List.nil_append, if_neg, hv]
    · omega
    · rw [hr, List.head?_cons]
      intro e
      exact dg_ne _ _ 45 (by decide) (Option.some.inj e)

/-! ### The shift of the point: what Atoi is given -/
theorem parse_dgs (n : Nat) : ∀ (k a : Nat), a * 10 ^ k + n % 10 ^ k < 9223372036854775808 → parseUint10 a (dgs n k) = .ok (a * 10 ^ k + n % 10 ^ k)
  | 0, a, _ => by simp [dgs, parseUint10, Nat.mod_one]
  | k + 1, a, h => by
    have hd : n / 10 ^ k % 10 < 10 := Nat.mod_lt _ (by decide)
    have hp : 1 ≤ 10 ^ k := Nat.one_le_pow _ _ (by decide)
    have e0 : a * 10 ^ (k + 1) + n % 10 ^ (k + 1) = (10 * a + n / 10 ^ k % 10) * 10 ^ k + n % 10 ^ k := by
      rw [Nat.mod_pow_succ, Nat.pow_succ, Nat.add_mul]
      have e1 : 10 * a * 10 ^ k = a * (10 ^ k * 10) := by rw [Nat.mul_comm 10 a, Nat.mul_assoc, Nat.mul_comm 10]
      have e2 : n / 10 ^ k % 10 * 10 ^ k = 10 ^ k * (n / 10 ^ k % 10) := Nat.mul_comm _ _
      omega
    rw [e0] at h ⊢
    have h1 : (10 * a + n / 10 ^ k % 10) * 1 ≤ (10 * a + n / 10 ^ k % 10) * 10 ^ k := Nat.mul_le_mul_left _ hp
    have ih := parse_dgs n k (10 * a + n / 10 ^ k % 10) h
    rw [dgs, parseUint10, dg_nat, if_pos (by omega), if_neg (by omega), if_neg (by omega), show a * 10 + (48 + n / 10 ^ k % 10 - 48) = 10 * a + n / 10 ^ k % 10 by omega]
    exact ih
theorem atoi_sign (m : Int) (p : Nat) (h : m.natAbs < 9223372036854775808) : atoiAll (signT m ++ dgs m.natAbs (width m.natAbs p)) = .ok m := by
  have hw := lt_width m.natAbs p
  have hg := width_ge m.natAbs p
  have hm : parseUint10 0 (dgs m.natAbs (width m.natAbs p)) = .ok m.natAbs := by
    rw [parse_dgs]
    · rw [Nat.zero_mul, Nat.zero_add, Nat.mod_eq_of_lt hw]
    · rw [Nat.zero_mul, Nat.zero_add, Nat.mod_eq_of_lt hw]; exact h
  obtain ⟨i, hi⟩ : ∃ i, width m.natAbs p = i + 1 := ⟨width m.natAbs p - 1, by omega⟩
  have hne : dgs m.natAbs (width m.natAbs p) ≠ [] := by rw [hi, dgs]; exact List.cons_ne_nil _ _
  unfold signT
  by_cases hs : m < 0
  · rw [if_pos hs, List.cons_append, List.nil_append]
    have e1 : parseMag (dgs m.natAbs (width m.natAbs p)) = .ok m.natAbs := by unfold parseMag; rw [if_neg hne, hm]
    simp only [atoiAll]
    rw [if_pos (Or.inr (by decide)), e1]
    simp only
    rw [if_neg (fun h => h.1 (by decide)), if_neg (by omega), if_pos (by decide)]
    congr 1
    omega
  · rw [if_neg hs, List.nil_append]
    have e1 : parseMag (dgs m.natAbs (width m.natAbs p)) = .ok m.natAbs := by unfold parseMag; rw [if_neg hne, hm]
    have hd := dg_nat m.natAbs i
    rw [hi, dgs] at e1 ⊢
    simp only [atoiAll]
    rw [if_neg (by omega), e1]
    simp only
    rw [if_neg (by omega), if_neg (by omega), if_neg (by omega)]
    congr 1
    omega

theorem index_point (B : List UInt8) : ∀ A : List UInt8, (46 : UInt8) ∉ A → index (A ++ 46 :: B) [46] = A.length
  | [], _ => by
    rw [List.nil_append]
    unfold index
    simp [List.isPrefixOf]
  | a :: A, h => by
    have h1 : (46 : UInt8) ≠ a := fun e => h (by rw [← e]; exact List.mem_cons_self)
    have ih := index_point B A (fun hm => h (List.mem_cons_of_mem _ hm))
    rw [List.cons_append]
    unfold index
    rw [ih]
    simp only [List.isPrefixOf, Bool.and_true, beq_iff_eq]
    rw [if_neg h1, if_neg (by omega), List.length_cons]
    omega
theorem replace_none (A : List UInt8) (h : (46 : UInt8) ∉ A) : replace A [46] [] 1 = A := by
  have hc : count A [46] = 0 := by rw [count_one]; exact List.count_eq_zero.2 h
  unfold replace replaceNum
  rw [if_neg (by decide), hc, if_pos (Or.inr (by decide))]
  rfl
theorem replace_point (A B : List UInt8) (h : (46 : UInt8) ∉ A) : replace (A ++ 46 :: B) [46] [] 1 = A ++ B := by
  have hc : 1 ≤ count (A ++ 46 :: B) [46] := by
    rw [count_one]
    exact List.count_pos_iff.2 (by simp)
  have hi := index_point B A h
  unfold replace replaceNum
  rw [if_neg (by decide), if_neg (by omega), show (1 : Int).toNat = 0 + 1 from rfl, replaceK_hit _ _ _ _ _ hi]
  simp [replaceK]
theorem dgs_no (n k : Nat) (c : UInt8) (h : c.toNat < 48) : c ∉ dgs n k := by
  induction k with
  | zero => exact List.not_mem_nil
  | succ k ih =>
    intro hm
    rcases List.mem_cons.1 hm with e | e
    · exact dg_ne n k c h e.symm
    · exact ih e
theorem replace_fmt (m : Int) (p : Nat) : replace (fmtT m p) [46] [] 1 = signT m ++ dgs m.natAbs (width m.natAbs p) := by
  have hs : (46 : UInt8) ∉ signT m := by unfold signT; split <;> decide
  have hd := dgs_no m.natAbs (width m.natAbs p) 46 (by decide)
  unfold fmtT pointT
  split
  · exact replace_none _ (fun hm => (List.mem_append.1 hm).elim hs hd)
  · rw [← List.append_assoc, replace_point, List.append_assoc, List.take_append_drop]
    exact fun hm => (List.mem_append.1 hm).elim hs (fun h => hd (List.mem_of_mem_take h))

/-- Atoi, behind the text's one point is struck, reads the number again. -/
theorem atoi_fmt (m : Int) (p : Nat) (h : m.natAbs < 9223372036854775808) : atoiAll (replace (fmtT m p) [46] [] 1) = .ok m := by
  rw [replace_fmt, atoi_sign m p h]

theorem pow_nDigits (n : Nat) (e : 1 ≤ n) : 10 ^ (nDigits n - 1) ≤ n := by
  induction n using Nat.strongRecOn with
  | _ n ih =>
    by_cases hs : n < 10
    · rw [nDigits_small hs]; exact e
    · rw [nDigits_big hs, Nat.add_sub_cancel]
      have := ih (n / 10) (by omega) (by omega)
      have hp := nDigits_pos (n / 10)
      obtain ⟨k, hk⟩ : ∃ k, nDigits (n / 10) = k + 1 := ⟨nDigits (n / 10) - 1, by omega⟩
      rw [hk] at this ⊢
      rw [Nat.add_sub_cancel] at this
      rw [Nat.pow_succ]
      omega
/-- When the loop over the digits goes on. -/
theorem width_go (n p k : Nat) : k < width n p ↔ (0 < n / 10 ^ k ∨ k < p + 1) := by
  have h1 := lt_pow_nDigits n
  have hp : 0 < 10 ^ k := Nat.pow_pos (by decide)
  rw [Nat.div_pos_iff]
  unfold width
  constructor
  · intro h
    by_cases hk : k < p + 1
    · exact Or.inr hk
    · left
      refine ⟨hp, ?_⟩
      have hn : 1 ≤ n := by
        rcases Nat.eq_zero_or_pos n with rfl | e
        · rw [nDigits_small (by decide)] at h; omega
        · exact e
      exact Nat.le_trans (Nat.pow_le_pow_right (by decide) (by omega)) (pow_nDigits n hn)
  · rintro (⟨_, h⟩ | h)
    · have : k < nDigits n := by
        by_cases hk : k < nDigits n
        · exact hk
        · have := Nat.pow_le_pow_right (n := 10) (by decide) (show nDigits n ≤ k by omega)
          omega
      omega
    · omega
theorem nDigits_le (n : Nat) (h : n < 10 ^ 16) : nDigits n ≤ 16 := by
  by_cases h2 : nDigits n ≤ 16
  · exact h2
  · exfalso
    have h3 : 10 ^ (nDigits n - 1) ≤ n ∨ n = 0 := by
      rcases Nat.eq_zero_or_pos n with e | e
      · exact Or.inr e
      · left
        clear h h2
        induction n using Nat.strongRecOn with
        | _ n ih =>
          by_cases hs : n < 10
          · rw [nDigits_small hs]; show 10 ^ 0 ≤ n; exact e
          · rw [nDigits_big hs, Nat.add_sub_cancel]
            have := ih (n / 10) (by omega) (by omega)
            have hp := nDigits_pos (n / 10)
            obtain ⟨k, hk⟩ : ∃ k, nDigits (n / 10) = k + 1 := ⟨nDigits (n / 10) - 1, by omega⟩
            rw [hk] at this ⊢
            rw [Nat.add_sub_cancel] at this
            rw [Nat.pow_succ]
            omega
    rcases h3 with h3 | rfl
    · have : 10 ^ 16 ≤ 10 ^ (nDigits n - 1) := Nat.pow_le_pow_right (by decide) (by omega)
      omega
    · rw [nDigits_small (by decide)] at h2
      omega
theorem fmt_length (m : Int) (p : Nat) (h : m.natAbs < 10 ^ 16) (hp : p ≤ 6) : (fmtT m p).length ≤ 18 := by
  have h1 := nDigits_le _ h
  have hw : width m.natAbs p ≤ 16 := by unfold width; omega
  have hg := width_ge m.natAbs p
  have hs : (signT m).length ≤ 1 := by unfold signT; split <;> decide
  unfold fmtT pointT
  rw [List.length_append]
  split
  · rw [dgs_length]; omega
  · rw [List.length_append, List.length_cons, List.length_take, List.length_drop, dgs_length]; omega
end Go.Proofs.YtjgajcabecklcaaDoor
