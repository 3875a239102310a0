/-
  Plain facts: what Text and Ints answer; the contract of the specification's Int at every index. Condition: at most a million bytes.
-/
import Derived.Test.YtlanbilcekepnaaWirH
namespace Go.Proofs.Ytlanbilcekepnaa
open Go.RowKit Go.Maps
set_option linter.unusedVariables false

set_option maxRecDepth 100000 in
set_option maxHeartbeats 1000000 in
theorem refInt_any (A : Option Addr) (l : List UInt8) (m c : Nat) (i : Int) (w : World) (N X : Int) (E : Nat) (hI : It l i = (N, X, E)) (hm : l.length = m) (hl : m ≤ 1000000) (h : BytR w A l) (lo : -9223372036854775808 ≤ i) (hi : i ≤ 9223372036854775807) :
    Calls Try.prog 20 #[.slice A m c, .int .i64 i] w fun e w' => e = .returned (.tuple #[.int .i64 N, .int .i64 X, .int .i64 (E : Int)]) ∧ w = w' := by
  by_cases h1 : i < 0
  · rw [It_out (Or.inl h1)] at hI
    simp only [Prod.mk.injEq] at hI
    obtain ⟨rfl, rfl, rfl⟩ := hI
    clear h hm
    go_enter Try.func20, Try.ntmps20
    go_wp2_with fail
    go_ret3
    exact ⟨rfl, rfl⟩
  by_cases h2 : (m : Int) < i
  · rw [It_out (Or.inr (by rw [hm]; exact h2))] at hI
    simp only [Prod.mk.injEq] at hI
    obtain ⟨rfl, rfl, rfl⟩ := hI
    clear h hm
    go_enter Try.func20, Try.ntmps20
    go_wp2_with fail
    go_ret3
    exact ⟨rfl, rfl⟩
  obtain ⟨k, rfl⟩ : ∃ k : Nat, i = k := ⟨i.toNat, by omega⟩
  by_cases hk : 0 < m
  · obtain ⟨b, o, rfl, _, _⟩ := h.at (by omega)
    exact refInt_in b o l m c k w N X E hI hm hl h (by omega)
  · obtain rfl : m = 0 := by omega
    obtain rfl : k = 0 := by omega
    have hd : dec (l.drop 0) = (0, 0, 4) := by
      rw [List.drop_eq_nil_of_le (by omega)]
      rfl
    rw [It_bad (by omega) hd (by decide)] at hI
    simp only [Prod.mk.injEq] at hI
    obtain ⟨rfl, rfl, rfl⟩ := hI
    clear h hm hd
    go_enter Try.func20, Try.ntmps20
    go_wp2_with fail
    go_loop [7] (fun i => i = .int .i64 0) (fun i => 0)
    case atStart => rfl
    case round =>
      subst hrel
      go_wp2_with fail
      go_ret3
      exact ⟨rfl, rfl⟩

/-- What length answers. -/
def Ln (l : List UInt8) (i : Int) : Int × Int × Nat := if (It l i).2.2 = 0 ∧ (It l i).1 < 0 then (0, 0, 3) else It l i
theorem Ln_err {l : List UInt8} {i : Int} {E : Nat} (h : It l i = (0, 0, E)) : Ln l i = (0, 0, E) := by
  unfold Ln
  rw [if_neg (by rw [h]; simp), h]
theorem Ln_neg {l : List UInt8} {i n x : Int} (h : It l i = (n, x, 0)) (hn : n < 0) : Ln l i = (0, 0, 3) := by
  unfold Ln
  rw [if_pos (by rw [h]; exact ⟨rfl, hn⟩)]
theorem Ln_ok {l : List UInt8} {i n x : Int} (h : It l i = (n, x, 0)) (hn : ¬ n < 0) : Ln l i = (n, x, 0) := by
  unfold Ln
  rw [if_neg (by rw [h]; exact fun hh => hn hh.2), h]
theorem Ln_cases (l : List UInt8) (i : Int) : (∃ E, Ln l i = (0, 0, E) ∧ 1 ≤ E ∧ E ≤ 4) ∨
    (∃ (k x n : Nat), i = k ∧ k < x ∧ x ≤ l.length ∧ n ≤ 9223372036854775807 ∧ (l.drop k).take (x - k) = enc n ∧ It l i = ((n : Int), (x : Int), 0) ∧ Ln l i = ((n : Int), (x : Int), 0)) := by
  rcases It_cases l i with ⟨E, h, h1, h2⟩ | ⟨k, x, n, rfl, h1, h2, h3, h4, h5, h6⟩
  · exact Or.inl ⟨E, Ln_err h, h1, h2⟩
  · by_cases hn : n < 0
    · exact Or.inl ⟨3, Ln_neg h6 hn, by omega, by omega⟩
    · obtain ⟨q, rfl⟩ : ∃ q : Nat, n = q := ⟨n.toNat, by omega⟩
      exact Or.inr ⟨k, x, q, rfl, h1, h2, by omega, h5, h6, Ln_ok h6 hn⟩

/-- What Text answers: the string's bytes. -/
def Tt (l : List UInt8) (i : Int) : List UInt8 × Int × Nat :=
  if (Ln l i).2.2 ≠ 0 then ([], 0, (Ln l i).2.2)
  else if (l.length : Int) - (Ln l i).2.1 < (Ln l i).1 then ([], 0, 4)
  else ((l.drop (Ln l i).2.1.toNat).take (Ln l i).1.toNat, (Ln l i).2.1 + (Ln l i).1, 0)
theorem Tt_err {l : List UInt8} {i : Int} {E : Nat} (h : Ln l i = (0, 0, E)) (hE : 1 ≤ E) : Tt l i = ([], 0, E) := by
  unfold Tt
  rw [h, if_pos (by simp only; omega)]
theorem Tt_short {l : List UInt8} {i : Int} {n x : Nat} (h : Ln l i = ((n : Int), (x : Int), 0)) (hn : (l.length : Int) - (x : Int) < (n : Int)) : Tt l i = ([], 0, 4) := by
  unfold Tt
  rw [h, if_neg (by simp), if_pos hn]
theorem Tt_ok {l : List UInt8} {i : Int} {n x : Nat} (h : Ln l i = ((n : Int), (x : Int), 0)) (hn : ¬ (l.length : Int) - (x : Int) < (n : Int)) : Tt l i = ((l.drop x).take n, (x : Int) + (n : Int), 0) := by
  unfold Tt
  rw [h, if_neg (by simp), if_neg hn]
  rfl

/-- What Ints answers. -/
def rd (l : List UInt8) : Nat → Int → List Int → List Int × Int × Nat
  | 0, x, acc => (acc, x, 0)
  | n + 1, x, acc => if (It l x).2.2 = 0 then rd l n (It l x).2.1 (acc ++ [(It l x).1]) else ([], 0, (It l x).2.2)
theorem rd_err {l : List UInt8} {n : Nat} {x : Int} {acc : List Int} {E : Nat} (h : It l x = (0, 0, E)) (hE : 1 ≤ E) : rd l (n + 1) x acc = ([], 0, E) := by
  rw [rd, h, if_neg (by simp only; omega)]
theorem rd_ok {l : List UInt8} {n : Nat} {x y : Int} {acc : List Int} {v : Int} (h : It l x = (v, y, 0)) : rd l (n + 1) x acc = rd l n y (acc ++ [v]) := by
  rw [rd, h, if_pos rfl]
def Ls (l : List UInt8) (i : Int) : List Int × Int × Nat :=
  if (Ln l i).2.2 ≠ 0 then ([], 0, (Ln l i).2.2) else rd l (Ln l i).1.toNat (Ln l i).2.1 []
theorem Ls_err {l : List UInt8} {i : Int} {E : Nat} (h : Ln l i = (0, 0, E)) (hE : 1 ≤ E) : Ls l i = ([], 0, E) := by
  unfold Ls
  rw [h, if_pos (by simp only; omega)]
theorem Ls_ok {l : List UInt8} {i : Int} {n x : Nat} (h : Ln l i = ((n : Int), (x : Int), 0)) : Ls l i = rd l n (x : Int) [] := by
  unfold Ls
  rw [h, if_neg (by simp)]
  rfl
end Go.Proofs.Ytlanbilcekepnaa
