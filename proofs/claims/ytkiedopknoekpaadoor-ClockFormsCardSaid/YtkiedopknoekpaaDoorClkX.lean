/-
  The contracts of the specification's digits and Parse. Condition: strings of at most 100 bytes.
-/
import Derived.Test.YtkiedopknoekpaaDoorClkW
import Derived.IntWalk
import Derived.Deep.DeepCutAuto
namespace Go.Proofs.YtkiedopknoekpaaDoor
open Go.RowKit
set_option linter.unusedVariables false

theorem digO_split : ∀ (l m : List UInt8) (a : Option Nat), digO a (l ++ m) = digO (digO a l) m
  | [], m, a => by cases a <;> rfl
  | c :: l, m, none => by rw [List.cons_append, digO, digO, digO_none]
  | c :: l, m, some n => by
    rw [List.cons_append, digO, digO]
    split
    · rw [digO_none]
    · exact digO_split l m _
theorem takeB_snoc (s : ByteArray) (k : Nat) (h : k < s.size) : s.data.toList.take (k + 1) = s.data.toList.take k ++ [s[k]] := by
  rw [List.take_succ_eq_append_getElem (by simpa using h)]; rfl
theorem digS_bad (s : ByteArray) (k : Nat) (h : k < s.size) (hb : s[k].toNat < 48 ∨ 57 < s[k].toNat) : digS s.data.toList = -1 := by
  have e : s.data.toList = s.data.toList.take k ++ (s[k] :: s.data.toList.drop (k + 1)) := by
    have h2 : k < s.data.toList.length := by simpa using h
    have := List.take_append_drop k s.data.toList
    rw [List.drop_eq_getElem_cons h2] at this
    exact this.symm
  unfold digS
  rw [e, digO_split]
  cases digO (some 0) (s.data.toList.take k) with
  | none => rw [digO_none]
  | some m => rw [digO, if_pos hb]

set_option maxRecDepth 100000 in
set_option maxHeartbeats 1000000 in
theorem digits_any (s : ByteArray) (w : World) (hs : s.size ≤ 5) :
    Calls Tryd.prog 49 #[.string s] w fun e w' => e = .returned (.int .i64 (digS s.data.toList)) ∧ w' = w := by
  go_enter Tryd.func49, Tryd.ntmps49
  go_wp2
  go_loop [3, 4] (fun vn vi => ∃ (k m : Nat), vi = .int .i64 (k : Int) ∧ vn = .int .i64 (m : Int) ∧ k ≤ s.size ∧ m ≤ 99999 ∧ Hid (digO (some 0) (s.data.toList.take k) = some m)) (fun _ vi => s.size - (intOf vi).toNat)
  case atStart => exact ⟨0, 0, rfl, rfl, by omega, by omega, rfl⟩
  case round =>
    obtain ⟨k, m, rfl, rfl, hk, hm, hd⟩ := hrel
    by_cases hlt : k < s.size
    · have zk : (k : Int) < (s.size : Int) := by omega
      have hbad := digS_bad s k hlt
      have hsn := takeB_snoc s k hlt
      have hnx : ¬ (s[k].toNat < 48 ∨ 57 < s[k].toNat) → digO (some 0) (s.data.toList.take (k + 1)) = some (m * 10 + (s[k].toNat - 48)) := fun h => by
        rw [hsn, digO_split, hd.out, digO, if_neg h, digO]
      have hnb : ¬ (s[k].toNat < 48 ∨ 57 < s[k].toNat) → m * 10 + (s[k].toNat - 48) ≤ 99999 := fun h => by
        have := digO_bd _ _ _ (hnx h)
        have hp : 10 ^ (s.data.toList.take (k + 1)).length ≤ 10 ^ 5 := Nat.pow_le_pow_right (by decide) (by
          rw [List.length_take]
          have : s.data.toList.length = s.size := by simp
          omega)
        omega
      have HBAD := Lib.hid hbad
      have HNX := Lib.hid hnx
      have HNB := Lib.hid hnb
      clear hbad hsn hnx hnb
      by_cases h48 : (s[k].toNat : Int) < 48
      · have HX := Lib.hid (HBAD.out (Or.inl (by omega)))
        go_wp2
        go_ret
        exact ⟨ret_int HX.out.symm, rfl⟩
      · by_cases h57 : 57 < (s[k].toNat : Int)
        · have HX := Lib.hid (HBAD.out (Or.inr (by omega)))
          go_wp2
          go_ret
          exact ⟨ret_int HX.out.symm, rfl⟩
        · have HX := Lib.hid (HNX.out (by omega))
          have hb := HNB.out (by omega)
          clear HNB HNX HBAD
          go_wp2
          go_round
          case rel => exact ⟨k + 1, m * 10 + (s[k].toNat - 48), by go_num, val_int' (by omega), by omega, by omega, HX⟩
          case measure => simp only [intOf]; omega
    · have zk : ¬ (k : Int) < (s.size : Int) := by omega
      have he : digS s.data.toList = m := by
        unfold digS
        have h := hd.out
        rw [List.take_of_length_le (by simp; omega)] at h
        rw [h]
      have HE := Lib.hid he
      clear he
      go_wp2
      go_ret
      exact ⟨ret_int HE.out.symm, rfl⟩

/-- What is left of Parse when the four numbers are known. -/
def Ends (s : ByteArray) (d h m c : Int) (R : Int × Int) : Prop :=
  (0 ≤ d ∧ d ≤ 49709 ∧ 0 ≤ h ∧ h ≤ 23 ∧ 0 ≤ m ∧ m ≤ 59 ∧ 0 ≤ c ∧ c ≤ 59 → ∃ T E, textS (d * 86400 + h * 3600 + m * 60 + c) = (T, E) ∧ ((E = 0 ∧ T = s ∧ R = (d * 86400 + h * 3600 + m * 60 + c, 0)) ∨ ((E ≠ 0 ∨ (T.toList == s.toList) = false) ∧ R = (0, 3)))) ∧
  (¬ (0 ≤ d ∧ d ≤ 49709 ∧ 0 ≤ h ∧ h ≤ 23 ∧ 0 ≤ m ∧ m ≤ 59 ∧ 0 ≤ c ∧ c ≤ 59) → R = (0, 3))
theorem Ends.bad {s : ByteArray} {d h m c R1 R2 : Int} (e : Ends s d h m c (R1, R2)) (hb : ¬ (0 ≤ d ∧ d ≤ 49709 ∧ 0 ≤ h ∧ h ≤ 23 ∧ 0 ≤ m ∧ m ≤ 59 ∧ 0 ≤ c ∧ c ≤ 59)) : R1 = 0 ∧ R2 = 3 := by
  have h := e.2 hb
  injection h with h1 h2
  exact ⟨h1, h2⟩

set_option maxRecDepth 100000 in
set_option maxHeartbeats 4000000 in
theorem refParse_walk (s : ByteArray) (n : Nat) (R1 R2 : Int) (w : World) (hs : s.size = n + 9) (h1 : 1 ≤ n) (h5 : n ≤ 5)
    (G : Ends s (digS (s.extract 0 n).data.toList) (digS (s.extract (n + 1) (n + 3)).data.toList) (digS (s.extract (n + 4) (n + 6)).data.toList) (digS (s.extract (n + 7) (n + 9)).data.toList) (R1, R2)) :
    Calls Tryd.prog 33 #[.string s] w fun e w' => e = .returned (.tuple #[.int .i64 R1, .int .i64 R2]) ∧ Below w.heap.size w w' := by
  have l0 : (s.extract 0 n).size ≤ 5 := by rw [ByteArray.size_extract]; omega
  have l1 : (s.extract (n + 1) (n + 3)).size ≤ 5 := by rw [ByteArray.size_extract]; omega
  have l2 : (s.extract (n + 4) (n + 6)).size ≤ 5 := by rw [ByteArray.size_extract]; omega
  have l3 : (s.extract (n + 7) (n + 9)).size ≤ 5 := by rw [ByteArray.size_extract]; omega
  have b0 := digS_bd (s.extract 0 n).data.toList (by rw [← Lib.size_eq]; exact l0)
  have b1 := digS_bd (s.extract (n + 1) (n + 3)).data.toList (by rw [← Lib.size_eq]; exact l1)
  have b2 := digS_bd (s.extract (n + 4) (n + 6)).data.toList (by rw [← Lib.size_eq]; exact l2)
  have b3 := digS_bd (s.extract (n + 7) (n + 9)).data.toList (by rw [← Lib.size_eq]; exact l3)
  obtain ⟨d, hd⟩ : ∃ d, digS (s.extract 0 n).data.toList = d := ⟨_, rfl⟩
  obtain ⟨h, hh⟩ : ∃ d, digS (s.extract (n + 1) (n + 3)).data.toList = d := ⟨_, rfl⟩
  obtain ⟨m, hm⟩ : ∃ d, digS (s.extract (n + 4) (n + 6)).data.toList = d := ⟨_, rfl⟩
  obtain ⟨c, hc⟩ : ∃ d, digS (s.extract (n + 7) (n + 9)).data.toList = d := ⟨_, rfl⟩
  rw [hd] at G b0
  rw [hh] at G b1
  rw [hm] at G b2
  rw [hc] at G b3
  have HG := Lib.hid G
  have E0 := Lib.hid hd
  have E1 := Lib.hid hh
  have E2 := Lib.hid hm
  have E3 := Lib.hid hc
  have z0 : ((s.size : Int) - 9) = (n : Int) := by omega
  have HS := Lib.hid hs
  rw [← hs] at l3 E3
  clear G hd hh hm hc hs
  go_enter Tryd.func33, Tryd.ntmps33
  go_upto_region 4 with (fail)
  go_cut [5, 6, 7, 8] (fun a b x y wx => a = .int .i64 d ∧ b = .int .i64 h ∧ x = .int .i64 m ∧ y = .int .i64 c ∧ Below w.heap.size w wx)
  case first =>
    have y1 : IntKind.i64.wrap ((n : Int) + 1) = (n : Int) + 1 := IntWalk.i64_in _ (by omega)
    have y3 : IntKind.i64.wrap ((n : Int) + 3) = (n : Int) + 3 := IntWalk.i64_in _ (by omega)
    have y4 : IntKind.i64.wrap ((n : Int) + 4) = (n : Int) + 4 := IntWalk.i64_in _ (by omega)
    have y6 : IntKind.i64.wrap ((n : Int) + 6) = (n : Int) + 6 := IntWalk.i64_in _ (by omega)
    have y7 : IntKind.i64.wrap ((n : Int) + 7) = (n : Int) + 7 := IntWalk.i64_in _ (by omega)
    have t1 : ((n : Int) + 1).toNat = n + 1 := by omega
    have t3 : ((n : Int) + 3).toNat = n + 3 := by omega
    have t4 : ((n : Int) + 4).toNat = n + 4 := by omega
    have t6 : ((n : Int) + 6).toNat = n + 6 := by omega
    have t7 : ((n : Int) + 7).toNat = n + 7 := by omega
    have p1 : (0 : Int) ≤ (n : Int) + 1 := by omega
    have p4 : (0 : Int) ≤ (n : Int) + 4 := by omega
    have p7 : (0 : Int) ≤ (n : Int) + 7 := by omega
    have q0 : (n : Int) ≤ (s.size : Int) := by have := HS.out; omega
    have q3 : (n : Int) + 3 ≤ (s.size : Int) := by have := HS.out; omega
    have q6 : (n : Int) + 6 ≤ (s.size : Int) := by have := HS.out; omega
    have q7 : (n : Int) + 7 ≤ (s.size : Int) := by have := HS.out; omega
    have o1 : (n : Int) + 1 ≤ (n : Int) + 3 := by omega
    have o4 : (n : Int) + 4 ≤ (n : Int) + 6 := by omega
    go_quiet ((go_at_call 49; exact Calls.quiet_of_same (digits_any _ _ (by with_reducible assumption))))
    go_wp2_with fail
    go_meet
    exact ⟨val_int' E0.out, val_int' E1.out, val_int' E2.out, val_int' E3.out, below_drewN' _ _⟩
  case rest =>
    obtain ⟨rfl, rfl, rfl, rfl, hB⟩ := hcut
    clear E0 E1 E2 E3 l0 l1 l2 l3 z0 HS h1 h5
    by_cases g0 : d < 0
    · obtain ⟨rfl, rfl⟩ := HG.out.bad (by omega)
      clear HG
      go_wp2_with fail
      go_ret2
      exact ⟨rfl, hB⟩
    by_cases g1 : 49709 < d
    · obtain ⟨rfl, rfl⟩ := HG.out.bad (by omega)
      clear HG
      go_wp2_with fail
      go_ret2
      exact ⟨rfl, hB⟩
    by_cases g2 : h < 0
    · obtain ⟨rfl, rfl⟩ := HG.out.bad (by omega)
      clear HG
      go_wp2_with fail
      go_ret2
      exact ⟨rfl, hB⟩
    by_cases g3 : 23 < h
    · obtain ⟨rfl, rfl⟩ := HG.out.bad (by omega)
      clear HG
      go_wp2_with fail
      go_ret2
      exact ⟨rfl, hB⟩
    by_cases g4 : m < 0
    · obtain ⟨rfl, rfl⟩ := HG.out.bad (by omega)
      clear HG
      go_wp2_with fail
      go_ret2
      exact ⟨rfl, hB⟩
    by_cases g5 : 59 < m
    · obtain ⟨rfl, rfl⟩ := HG.out.bad (by omega)
      clear HG
      go_wp2_with fail
      go_ret2
      exact ⟨rfl, hB⟩
    by_cases g6 : c < 0
    · obtain ⟨rfl, rfl⟩ := HG.out.bad (by omega)
      clear HG
      go_wp2_with fail
      go_ret2
      exact ⟨rfl, hB⟩
    by_cases g7 : 59 < c
    · obtain ⟨rfl, rfl⟩ := HG.out.bad (by omega)
      clear HG
      go_wp2_with fail
      go_ret2
      exact ⟨rfl, hB⟩
    obtain ⟨Tt, E, hte, hcase⟩ := HG.out.1 (by omega)
    have hx := fun w => refText_any (d * 86400 + h * 3600 + m * 60 + c) w (by omega) (by omega)
    simp only [hte] at hx
    have HX := Lib.hid hx
    clear hx hte HG
    rcases hcase with ⟨rfl, rfl, hR⟩ | ⟨hE, hR⟩
    · have hR1 : R1 = d * 86400 + h * 3600 + m * 60 + c := by injection hR
      have hR2 : R2 = 0 := by injection hR
      subst hR1 hR2
      have hss : (Tt.toList == Tt.toList) = true := by simp
      clear hR
      go_wp2_with fail
      refine (HX.out _).mono ?_
      rintro e w5 ⟨rfl, hb5⟩
      go_wp2_with fail
      go_ret2
      exact ⟨rfl, Below.step hB hb5⟩
    · have hR1 : R1 = 0 := by injection hR
      have hR2 : R2 = 3 := by injection hR
      subst hR1 hR2
      clear hR
      by_cases hE0 : E = 0
      · subst hE0
        have hss : (Tt.toList == s.toList) = false := by
          rcases hE with h | h
          · exact absurd rfl h
          · exact h
        clear hE
        go_wp2_with fail
        refine (HX.out _).mono ?_
        rintro e w5 ⟨rfl, hb5⟩
        go_wp2_with fail
        go_ret2
        exact ⟨rfl, Below.step hB hb5⟩
      · have hEb : (E == 0) = false := beq_eq_false_iff_ne.2 hE0
        clear hE
        go_wp2_with fail
        refine (HX.out _).mono ?_
        rintro e w5 ⟨rfl, hb5⟩
        go_wp2_with fail
        go_ret2
        exact ⟨rfl, Below.step hB hb5⟩

end Go.Proofs.YtkiedopknoekpaaDoor
