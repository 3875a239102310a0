/-
  Plain facts of SipHash-2-4: turning, rounds, words, sums. No program is named here. No condition.
-/
import Derived.Test.YthalnnhkeaanhaaDoorWitE
import Derived.Laws.ShiftsVar
namespace Go.Proofs.YthalnnhkeaanhaaDoor
open Go.RowKit
set_option linter.unusedVariables false

/-- Turning left. -/
def rl (x n : Nat) : Nat := (x * 2 ^ n % 18446744073709551616) ||| (x / 2 ^ (64 - n))
/-- The array v with x at i. -/
def up (v : Nat → Nat) (i x : Nat) : Nat → Nat := fun k => if k = i then x else v k
theorem up_same (v : Nat → Nat) (i x : Nat) : up v i x i = x := if_pos rfl
theorem up_other (v : Nat → Nat) {i k : Nat} (x : Nat) (h : k ≠ i) : up v i x k = v k := if_neg h
/-- The numbers are below 2^64. -/
def Sm (v : Nat → Nat) : Prop := ∀ k, v k < 18446744073709551616
theorem or_lt64 {a b : Nat} (ha : a < 18446744073709551616) (hb : b < 18446744073709551616) : a ||| b < 18446744073709551616 := by
  rw [show (18446744073709551616 : Nat) = 2 ^ 64 from rfl] at *
  exact Nat.or_lt_two_pow ha hb
theorem xor_lt64 {a b : Nat} (ha : a < 18446744073709551616) (hb : b < 18446744073709551616) : a ^^^ b < 18446744073709551616 := by
  rw [show (18446744073709551616 : Nat) = 2 ^ 64 from rfl] at *
  exact Nat.xor_lt_two_pow ha hb
theorem rl_lt {x : Nat} (n : Nat) (h : x < 18446744073709551616) : rl x n < 18446744073709551616 :=
  or_lt64 (Nat.mod_lt _ (by decide)) (Nat.lt_of_le_of_lt (Nat.div_le_self _ _) h)
theorem Sm.up {v : Nat → Nat} (h : Sm v) (i : Nat) {x : Nat} (hx : x < 18446744073709551616) : Sm (up v i x) := fun k => by
  unfold Go.Proofs.YthalnnhkeaanhaaDoor.up
  split
  · exact hx
  · exact h k

/-- The part that the steps of a round have in common. -/
def mixS (v : Nat → Nat) (i j n : Nat) : Nat → Nat :=
  up (up v i ((v i + v j) % 18446744073709551616)) j (rl (v j) n ^^^ ((v i + v j) % 18446744073709551616))
theorem mixS_sm {v : Nat → Nat} (h : Sm v) (i j n : Nat) : Sm (mixS v i j n) :=
  (h.up i (Nat.mod_lt _ (by decide))).up j (xor_lt64 (rl_lt n (h j)) (Nat.mod_lt _ (by decide)))
def turnS (v : Nat → Nat) (i n : Nat) : Nat → Nat := up v i (rl (v i) n)
theorem turnS_sm {v : Nat → Nat} (h : Sm v) (i n : Nat) : Sm (turnS v i n) := h.up i (rl_lt n (h i))
def roundS (v : Nat → Nat) : Nat → Nat := turnS (mixS (mixS (mixS (turnS (mixS v 0 1 13) 0 32) 2 3 16) 0 3 21) 2 1 17) 2 32
theorem roundS_sm {v : Nat → Nat} (h : Sm v) : Sm (roundS v) :=
  turnS_sm (mixS_sm (mixS_sm (mixS_sm (turnS_sm (mixS_sm h _ _ _) _ _) _ _ _) _ _ _) _ _ _) _ _
def xorS (v : Nat → Nat) (i m : Nat) : Nat → Nat := up v i (v i ^^^ m)
theorem xorS_sm {v : Nat → Nat} (h : Sm v) (i : Nat) {m : Nat} (hm : m < 18446744073709551616) : Sm (xorS v i m) := h.up i (xor_lt64 (h i) hm)
def takeS (v : Nat → Nat) (m : Nat) : Nat → Nat := xorS (roundS (roundS (xorS v 3 m))) 0 m
theorem takeS_sm {v : Nat → Nat} (h : Sm v) {m : Nat} (hm : m < 18446744073709551616) : Sm (takeS v m) := xorS_sm (roundS_sm (roundS_sm (xorS_sm h 3 hm))) 0 hm
def fourS (v : Nat → Nat) : Nat := v 0 ^^^ v 1 ^^^ v 2 ^^^ v 3
theorem fourS_lt {v : Nat → Nat} (h : Sm v) : fourS v < 18446744073709551616 := xor_lt64 (xor_lt64 (xor_lt64 (h 0) (h 1)) (h 2)) (h 3)
def endS (v : Nat → Nat) : Nat := fourS (roundS (roundS (roundS (roundS (xorS v 2 255)))))
theorem endS_lt {v : Nat → Nat} (h : Sm v) : endS v < 18446744073709551616 :=
  fourS_lt (roundS_sm (roundS_sm (roundS_sm (roundS_sm (xorS_sm h 2 (by decide))))))
/-- What the numbers are at the beginning. -/
def startS (A B : Nat) : Nat → Nat := up (up (up (up (fun _ => 0) 0 (A ^^^ 8317987319222330741)) 1 (B ^^^ 7237128888997146477)) 2 (A ^^^ 7816392313619706465)) 3 (B ^^^ 8387220255154660723)
theorem startS_sm {A B : Nat} (ha : A < 18446744073709551616) (hb : B < 18446744073709551616) : Sm (startS A B) :=
  Sm.up (Sm.up (Sm.up (Sm.up (fun _ => by decide) 0 (xor_lt64 ha (by decide))) 1 (xor_lt64 hb (by decide))) 2 (xor_lt64 ha (by decide))) 3 (xor_lt64 hb (by decide))

/-- The number with these bytes, the lowest one first. -/
def wd (f : Nat → Nat) : Nat → Nat
  | 0 => 0
  | n + 1 => wd f n ||| f n * 2 ^ (8 * n)
theorem byte_lt {x n : Nat} (h : x < 256) (hn : n < 8) : x * 2 ^ (8 * n) < 18446744073709551616 := by
  have h1 : 2 ^ (8 * n) ≤ 2 ^ 56 := Nat.pow_le_pow_right (by decide) (by omega)
  have h2 : x * 2 ^ (8 * n) ≤ 255 * 2 ^ 56 := Nat.mul_le_mul (by omega) h1
  have h3 : 255 * 2 ^ 56 < 18446744073709551616 := by decide
  omega
theorem wd_lt {f : Nat → Nat} (h : ∀ k, f k < 256) : ∀ n, n ≤ 8 → wd f n < 18446744073709551616
  | 0, _ => by show (0 : Nat) < 18446744073709551616; decide
  | n + 1, hn => or_lt64 (wd_lt h n (by omega)) (byte_lt (h n) (by omega))
theorem wd_congr {f g : Nat → Nat} : ∀ n, (∀ k, k < n → f k = g k) → wd f n = wd g n
  | 0, _ => rfl
  | n + 1, h => by
    unfold wd
    rw [wd_congr n (fun k hk => h k (by omega)), h n (by omega)]
/-- The byte at a place of a word. -/
def byt (l : List UInt8) (k i : Nat) : Nat := if 8 * k + i < l.length then (l.getD (8 * k + i) 0).toNat else if i = 7 then l.length % 256 else 0
theorem byt_lt (l : List UInt8) (k i : Nat) : byt l k i < 256 := by
  unfold byt
  split
  · exact UInt8.toNat_lt _
  · split <;> omega
theorem byt_in {l : List UInt8} {k i : Nat} (h : 8 * k + i < l.length) : byt l k i = (l.getD (8 * k + i) 0).toNat := if_pos h
theorem byt_last {l : List UInt8} {k : Nat} (h : ¬ 8 * k + 7 < l.length) : byt l k 7 = l.length % 256 := by
  unfold byt
  rw [if_neg h, if_pos rfl]
theorem byt_out {l : List UInt8} {k i : Nat} (h : ¬ 8 * k + i < l.length) (hi : i ≠ 7) : byt l k i = 0 := by
  unfold byt
  rw [if_neg h, if_neg hi]
/-- The word with an index. -/
def wrd (l : List UInt8) (k : Nat) : Nat := wd (byt l k) 8
theorem wrd_lt (l : List UInt8) (k : Nat) : wrd l k < 18446744073709551616 := wd_lt (byt_lt l k) 8 (by decide)
/-- The numbers behind the first k words. -/
def stS (A B : Nat) (l : List UInt8) : Nat → Nat → Nat
  | 0 => startS A B
  | k + 1 => takeS (stS A B l k) (wrd l k)
theorem stS_zero (A B : Nat) (l : List UInt8) : stS A B l 0 = startS A B := rfl
theorem stS_succ (A B : Nat) (l : List UInt8) (k : Nat) : stS A B l (k + 1) = takeS (stS A B l k) (wrd l k) := rfl
theorem stS_sm {A B : Nat} (ha : A < 18446744073709551616) (hb : B < 18446744073709551616) (l : List UInt8) : ∀ k, Sm (stS A B l k)
  | 0 => startS_sm ha hb
  | k + 1 => takeS_sm (stS_sm ha hb l k) (wrd_lt l k)
/-- SipHash-2-4. -/
def sumS (A B : Nat) (l : List UInt8) : Nat := endS (stS A B l (l.length / 8 + 1))
theorem sumS_lt {A B : Nat} (ha : A < 18446744073709551616) (hb : B < 18446744073709551616) (l : List UInt8) : sumS A B l < 18446744073709551616 := endS_lt (stS_sm ha hb l _)

/-- The turns of a round, as the programs write them. -/
def Trn (n : Nat) : Prop := n = 13 ∨ n = 16 ∨ n = 17 ∨ n = 21 ∨ n = 32
theorem rl_bits (x n : Nat) (h : x < 18446744073709551616) : bits .or .u64 ((x * 2 ^ n % 18446744073709551616 : Nat) : Int) ((x / 2 ^ (64 - n) : Nat) : Int) = (rl x n : Int) :=
  u64_or_nat _ _ (Nat.mod_lt _ (by decide)) (Nat.lt_of_le_of_lt (Nat.div_le_self _ _) h)
end Go.Proofs.YthalnnhkeaanhaaDoor
