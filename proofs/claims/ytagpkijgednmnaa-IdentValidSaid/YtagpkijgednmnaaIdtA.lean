/-
  The contracts of letter, digit and Valid, of the package and of its specification. No condition.
-/
import Derived.Test.YtagpkijgednmnaaIdtPlain
import Derived.Deep.QuietTactic
import Derived.BigQuiet
import Derived.Outline
namespace Go.Proofs.Ytagpkijgednmnaa
open Go.RowKit
set_option linter.unusedVariables false

theorem below_drewN' (w : World) (n : Nat) : Below w.heap.size w (w.drewN n) := ⟨rfl, rfl, rfl, Nat.le_refl _, fun _ _ => rfl⟩
theorem letter_any (c : Nat) (w : World) (hc : c < 256) :
    Calls Try.prog 23 #[.int .u8 (c : Int)] w fun e w' => e = .returned (.bool (lowB c)) ∧ w = w' := by
  by_cases h1 : 97 ≤ c
  · by_cases h2 : c ≤ 122
    · rw [show lowB c = true from decide_eq_true ⟨h1, h2⟩]
      have z1 : (97 : Int) ≤ (c : Int) := by omega
      have z2 : (c : Int) ≤ 122 := by omega
      go_enter Try.func23, Try.ntmps23
      go_wp2_with fail
      go_ret
      exact ⟨rfl, rfl⟩
    · rw [show lowB c = false from decide_eq_false (by omega)]
      have z1 : (97 : Int) ≤ (c : Int) := by omega
      have z2 : ¬ (c : Int) ≤ 122 := by omega
      go_enter Try.func23, Try.ntmps23
      go_wp2_with fail
      go_ret
      exact ⟨rfl, rfl⟩
  · rw [show lowB c = false from decide_eq_false (by omega)]
    have z1 : ¬ (97 : Int) ≤ (c : Int) := by omega
    go_enter Try.func23, Try.ntmps23
    go_wp2_with fail
    go_ret
    exact ⟨rfl, rfl⟩
theorem digit_any (c : Nat) (w : World) (hc : c < 256) :
    Calls Try.prog 24 #[.int .u8 (c : Int)] w fun e w' => e = .returned (.bool (digB c)) ∧ w = w' := by
  by_cases h1 : 48 ≤ c
  · by_cases h2 : c ≤ 57
    · rw [show digB c = true from decide_eq_true ⟨h1, h2⟩]
      have z1 : (48 : Int) ≤ (c : Int) := by omega
      have z2 : (c : Int) ≤ 57 := by omega
      go_enter Try.func24, Try.ntmps24
      go_wp2_with fail
      go_ret
      exact ⟨rfl, rfl⟩
    · rw [show digB c = false from decide_eq_false (by omega)]
      have z1 : (48 : Int) ≤ (c : Int) := by omega
      have z2 : ¬ (c : Int) ≤ 57 := by omega
      go_enter Try.func24, Try.ntmps24
      go_wp2_with fail
      go_ret
      exact ⟨rfl, rfl⟩
  · rw [show digB c = false from decide_eq_false (by omega)]
    have z1 : ¬ (48 : Int) ≤ (c : Int) := by omega
    go_enter Try.func24, Try.ntmps24
    go_wp2_with fail
    go_ret
    exact ⟨rfl, rfl⟩
end Go.Proofs.Ytagpkijgednmnaa
