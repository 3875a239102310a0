/-
  The contract of the specification's Int at every index. Condition: at most a million bytes.
-/
import Derived.Test.YthafaococbdhoaaWisH
namespace Go.Proofs.Ythafaococbdhoaa
open Go.RowKit Go.Maps
set_option linter.unusedVariables false

set_option maxRecDepth 100000 in
set_option maxHeartbeats 1000000 in
theorem refInt_any (A : Option Addr) (l : List UInt8) (m c : Nat) (i : Int) (w : World) (N X : Int) (E : Nat) (hI : It l i = (N, X, E)) (hm : l.length = m) (hl : m ≤ 1000000) (h : BytR w A l) (lo : -9223372036854775808 ≤ i) (hi : i ≤ 9223372036854775807) :
    Calls Try.prog 29 #[.slice A m c, .int .i64 i] w fun e w' => e = .returned (.tuple #[.int .i64 N, .int .i64 X, .int .i64 (E : Int)]) ∧ w = w' := by
  by_cases h1 : i < 0
  · rw [It_out (Or.inl h1)] at hI
    simp only [Prod.mk.injEq] at hI
    obtain ⟨rfl, rfl, rfl⟩ := hI
    clear h hm
    go_enter Try.func29, Try.ntmps29
    go_wp2_with fail
    go_ret3
    exact ⟨rfl, rfl⟩
  by_cases h2 : (m : Int) < i
  · rw [It_out (Or.inr (by rw [hm]; exact h2))] at hI
    simp only [Prod.mk.injEq] at hI
    obtain ⟨rfl, rfl, rfl⟩ := hI
    clear h hm
    go_enter Try.func29, Try.ntmps29
    go_wp2_with fail
    go_ret3
    exact ⟨rfl, rfl⟩
  obtain ⟨k, rfl⟩ : ∃ k : Nat, i = k := ⟨i.toNat, by omega⟩
  by_cases hk : 0 < m
  · obtain ⟨b, o, rfl, _, _⟩ := h.at (by omega)
    exact refInt_in b o l m c k w N X E hI hm hl h (by omega)
  · obtain rfl : m = 0 := by omega
    obtain rfl : k = 0 := by omega
    have hd : dec (l.drop 0) = (0, 0, 4) := by
      rw [List.drop_eq_nil_of_le (by omega)]
      rfl
    rw [It_bad (by omega) hd (by decide)] at hI
    simp only [Prod.mk.injEq] at hI
    obtain ⟨rfl, rfl, rfl⟩ := hI
    clear h hm hd
    go_enter Try.func29, Try.ntmps29
    go_wp2_with fail
    go_loop [7] (fun i => i = .int .i64 0) (fun i => 0)
    case atStart => rfl
    case round =>
      subst hrel
      go_wp2_with fail
      go_ret3
      exact ⟨rfl, rfl⟩

end Go.Proofs.Ythafaococbdhoaa
