/-
  Plain facts of damage: a frame of which one byte of the content or of the checksum is changed is not opened. No program is named here. Condition: at most 65536 bytes.
-/
import Derived.Test.YthafaococbdhoaaCrcR
namespace Go.Proofs.Ythafaococbdhoaa
open Go.RowKit
set_option linter.unusedVariables false

theorem Op_bad {D T : List UInt8} (hD : D.length ≤ 65536) (hT : T.length = 4) (hne : tail (cs D) ≠ T) : Op (enc D.length ++ (D ++ T)) 0 = ([], 0, 13) := by
  have h := It_enc (n := (D.length : Int)) (by omega) (by omega) [] (D ++ T)
  rw [List.nil_append, List.length_nil] at h
  obtain ⟨x, hx⟩ : ∃ x, (enc (D.length : Int)).length = x := ⟨_, rfl⟩
  rw [hx, show (((0 : Nat) : Int) + (x : Int)) = (x : Int) by omega] at h
  have d1 : (enc (D.length : Int) ++ (D ++ T)).drop x = D ++ T := by rw [List.drop_left' hx]
  have d2 : ((enc (D.length : Int) ++ (D ++ T)).drop x).take D.length = D := by rw [d1, List.take_left' rfl]
  have d3 : ((enc (D.length : Int) ++ (D ++ T)).drop (x + D.length)).take 4 = T := by
    rw [← List.drop_drop, d1, List.drop_left' rfl, List.take_of_length_le (by omega)]
  have hl : (enc (D.length : Int) ++ (D ++ T)).length = x + D.length + 4 := by
    simp only [List.length_append]
    omega
  exact Op_sum h hD (by omega) (by rw [d2, d3]; exact hne)
theorem set_split (l : List UInt8) (i : Nat) (y : UInt8) (h : i < l.length) : l = l.take i ++ l.getD i 0 :: l.drop (i + 1) ∧ l.set i y = l.take i ++ y :: l.drop (i + 1) := by
  refine ⟨?_, List.set_eq_take_append_cons_drop.trans (if_pos h)⟩
  rw [← dropB_cons l i h, List.take_append_drop]
theorem cs_set {C : List UInt8} {i : Nat} {y : UInt8} (h : i < C.length) (hy : y ≠ C.getD i 0) : cs (C.set i y) ≠ cs C := fun e => by
  obtain ⟨h1, h2⟩ := set_split C i y h
  rw [h2] at e
  have e2 : cs (C.take i ++ y :: C.drop (i + 1)) = cs (C.take i ++ C.getD i 0 :: C.drop (i + 1)) := by rw [← h1]; exact e
  exact hy (cs_byte _ _ e2)
theorem fr_set {C : List UInt8} (hC : C.length ≤ 65536) {i : Nat} (h1 : (enc (C.length : Int)).length ≤ i) (h2 : i < (fr C).length) {y : UInt8} (hy : y ≠ (fr C).getD i 0) : Op ((fr C).set i y) 0 = ([], 0, 13) := by
  rw [fr_len] at h2
  obtain ⟨x, hx⟩ : ∃ x, (enc (C.length : Int)).length = x := ⟨_, rfl⟩
  rw [hx] at h1 h2
  have e0 : (fr C).set i y = enc C.length ++ ((C ++ tail (cs C)).set (i - x) y) := by
    unfold fr
    rw [List.set_append, if_neg (by omega), hx]
  have g0 : (fr C).getD i 0 = (C ++ tail (cs C)).getD (i - x) 0 := by
    unfold fr
    simp only [List.getD]
    rw [List.getElem?_append_right (by omega), hx]
  rw [g0] at hy
  rw [e0, List.set_append]
  by_cases hi : i - x < C.length
  · rw [if_pos hi]
    have g1 : (C ++ tail (cs C)).getD (i - x) 0 = C.getD (i - x) 0 := by
      simp only [List.getD]
      rw [List.getElem?_append_left hi]
    rw [g1] at hy
    have hne := cs_set hi hy
    have hl : (C.set (i - x) y).length = C.length := List.length_set
    rw [show (enc (C.length : Int)) = enc ((C.set (i - x) y).length : Int) by rw [hl]]
    exact Op_bad (by rw [hl]; exact hC) (tail_len _) fun e => hne (tail_inj (cs_lt _) (cs_lt _) e)
  · rw [if_neg hi]
    have hj : i - x - C.length < (tail (cs C)).length := by rw [tail_len]; omega
    have g1 : (C ++ tail (cs C)).getD (i - x) 0 = (tail (cs C)).getD (i - x - C.length) 0 := by
      simp only [List.getD]
      rw [List.getElem?_append_right (by omega)]
    rw [g1] at hy
    refine Op_bad hC (by rw [List.length_set, tail_len]) fun e => hy ?_
    have := congrArg (fun l => l.getD (i - x - C.length) 0) e
    simp only [List.getD, List.getElem?_set_self hj] at this ⊢
    exact this.symm
theorem xor_ne {a b : UInt8} (h : b.toNat ≠ 0) : a ^^^ b ≠ a := fun e => by
  have := congrArg UInt8.toNat e
  rw [UInt8.toNat_xor] at this
  have h2 : a.toNat ^^^ b.toNat = a.toNat ^^^ 0 := by rw [this, Nat.xor_zero]
  exact h (xor_left_can h2)
end Go.Proofs.Ythafaococbdhoaa
