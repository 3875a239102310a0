/-
  The contract of the specification's Parse. Condition: strings of at most 100 bytes.
-/
import Derived.Test.YtkiedopknoekpaaDoorClkX
namespace Go.Proofs.YtkiedopknoekpaaDoor
open Go.RowKit
set_option linter.unusedVariables false

theorem momB_nat (t : Nat) (ht : t ≤ 4294943999) : momB (t : Int) = true := by
  have : (0 : Int) ≤ t ∧ (t : Int) ≤ 4294943999 := by omega
  simp [momB, this]
theorem ext_data (l : List UInt8) (a b : Nat) : ((strOf l).extract a b).data.toList = (l.drop a).take (b - a) := by
  rw [Lib.extract_data, strOf_data]
theorem mom_drop (t : Nat) : momT t = Lib.decDigits (t / 86400) ++ (32 :: dgs (t % 86400 / 3600) 2 ++ (58 :: dgs (t % 86400 % 3600 / 60) 2 ++ (58 :: dgs (t % 60) 2))) := by
  unfold momT restT
  simp
theorem dropA (A B : List UInt8) (n k : Nat) (h : A.length = n) : (A ++ B).drop (n + k) = B.drop k := by
  rw [List.drop_append, List.drop_eq_nil_of_le (by omega), h]
  simp
theorem parts_of (t n : Nat) (ht : t ≤ 4294943999) (hn : (Lib.decDigits (t / 86400)).length = n) :
    digS ((strOf (momT t)).extract 0 n).data.toList = (t / 86400 : Nat) ∧ digS ((strOf (momT t)).extract (n + 1) (n + 3)).data.toList = (t % 86400 / 3600 : Nat) ∧
    digS ((strOf (momT t)).extract (n + 4) (n + 6)).data.toList = (t % 86400 % 3600 / 60 : Nat) ∧ digS ((strOf (momT t)).extract (n + 7) (n + 9)).data.toList = (t % 60 : Nat) := by
  rw [ext_data, ext_data, ext_data, ext_data, mom_drop, dropA _ _ n 1 hn, dropA _ _ n 4 hn, dropA _ _ n 7 hn, List.drop_zero, Nat.sub_zero]
  refine ⟨?_, ?_, ?_, ?_⟩
  · rw [← hn, List.take_left, decDigits_dgs]
    exact digS_dgs _ _ (Lib.lt_pow_nDigits _)
  · rw [show n + 3 - (n + 1) = 2 by omega]
    exact digS_dgs (t % 86400 / 3600) 2 (by omega)
  · rw [show n + 6 - (n + 4) = 2 by omega]
    exact digS_dgs (t % 86400 % 3600 / 60) 2 (by omega)
  · rw [show n + 9 - (n + 7) = 2 by omega]
    exact digS_dgs (t % 60) 2 (by omega)

set_option maxRecDepth 100000 in
set_option maxHeartbeats 1000000 in
theorem refParse_any (s : ByteArray) (R : Int × Int) (w : World) (hs : s.size ≤ 100) (hR : Pars s R) :
    Calls Tryd.prog 33 #[.string s] w fun e w' => e = .returned (.tuple #[.int .i64 R.1, .int .i64 R.2]) ∧ Below w.heap.size w w' := by
  by_cases hn : 10 ≤ s.size ∧ s.size ≤ 14
  · obtain ⟨n, hn9⟩ : ∃ n, s.size = n + 9 := ⟨s.size - 9, by omega⟩
    refine refParse_walk s n R.1 R.2 w hn9 (by omega) (by omega) ?_
    rcases hR with ⟨t, ht, rfl, rfl⟩ | ⟨hno, rfl⟩
    · have hl := mom_len t
      rw [strOf_size] at hn9
      obtain ⟨e0, e1, e2, e3⟩ := parts_of t n ht (by omega)
      rw [e0, e1, e2, e3]
      have hsum : ((t / 86400 : Nat) : Int) * 86400 + ((t % 86400 / 3600 : Nat) : Int) * 3600 + ((t % 86400 % 3600 / 60 : Nat) : Int) * 60 + ((t % 60 : Nat) : Int) = t := by omega
      refine ⟨fun _ => ?_, fun h => absurd ⟨by omega, by omega, by omega, by omega, by omega, by omega, by omega, by omega⟩ h⟩
      rw [hsum]
      exact ⟨strOf (momT t), 0, by simp [textS, momB_nat t ht], Or.inl ⟨rfl, rfl, rfl⟩⟩
    · refine ⟨fun _ => ⟨(textS _).1, (textS _).2, rfl, Or.inr ⟨?_, rfl⟩⟩, fun _ => rfl⟩
      generalize digS (s.extract 0 n).data.toList * 86400 + digS (s.extract (n + 1) (n + 3)).data.toList * 3600 + digS (s.extract (n + 4) (n + 6)).data.toList * 60 + digS (s.extract (n + 7) (n + 9)).data.toList = x
      cases hm : momB x
      · exact Or.inl (by simp [textS, hm])
      · refine Or.inr ?_
        have hb := momB_true hm
        rw [toList_eq, decide_eq_false_iff_not]
        intro he
        refine hno x.toNat (by omega) ?_
        rw [← str_ext he]
        simp [textS, hm]
  · have hRR : R = (0, 3) := by
      rcases hR with ⟨t, ht, rfl, rfl⟩ | ⟨hno, h⟩
      · exfalso
        rw [strOf_size, mom_len] at hn
        have := day_len (t / 86400) (by omega)
        omega
      · exact h
    subst hRR
    generalize hq : s.size = q at hn
    by_cases c1 : (q : Int) - 9 < 1
    · have c1' : (s.size : Int) - 9 < 1 := by omega
      have c3 : 0 ≤ (s.size : Int) := by omega
      clear hq
      go_enter Tryd.func33, Tryd.ntmps33
      go_wp2_with fail
      go_ret2
      exact ⟨rfl, Below.refl _ _⟩
    · have c1' : 5 < (s.size : Int) - 9 := by omega
      have c2 : ¬ (s.size : Int) - 9 < 1 := by omega
      have c3 : (s.size : Int) ≤ 100 := by omega
      clear hq
      go_enter Tryd.func33, Tryd.ntmps33
      go_wp2_with fail
      go_ret2
      exact ⟨rfl, Below.refl _ _⟩
end Go.Proofs.YtkiedopknoekpaaDoor
