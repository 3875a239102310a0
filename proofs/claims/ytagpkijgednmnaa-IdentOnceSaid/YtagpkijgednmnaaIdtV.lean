/-
  The contracts of Valid, of the package and of its specification. Condition: a string of at most 2^63 - 1 bytes.
-/
import Derived.Test.YtagpkijgednmnaaIdtA
import Derived.Deep.DeepCutAuto
import Derived.Lib.QuietBelow
namespace Go.Proofs.Ytagpkijgednmnaa
open Go.RowKit
set_option linter.unusedVariables false

set_option maxRecDepth 100000 in
set_option maxHeartbeats 2000000 in
theorem valid_any (s : ByteArray) (w : World) (hs : s.size ≤ 9223372036854775807) :
    Calls Try.prog 11 #[.string s] w fun e w' => e = .returned (.bool (Vd s)) ∧ w = w' := by
  obtain ⟨n, hn⟩ : ∃ n, s.size = n := ⟨_, rfl⟩
  by_cases z0 : s.size = 0
  · rw [Vd_short (Or.inl z0)]
    have z1 : (s.size : Int) = 0 := by omega
    go_enter Try.func11, Try.ntmps11
    go_wp2_with fail
    go_ret
    exact ⟨rfl, rfl⟩
  by_cases z32 : 32 < s.size
  · rw [Vd_short (Or.inr z32)]
    have z1 : ¬ (s.size : Int) = 0 := by omega
    have z2 : (32 : Int) < (s.size : Int) := by omega
    clear hn hs
    go_enter Try.func11, Try.ntmps11
    go_wp2_with fail
    go_ret
    exact ⟨rfl, rfl⟩
  have z1 : ¬ (s.size : Int) = 0 := by omega
  have z2 : ¬ (32 : Int) < (s.size : Int) := by omega
  have z1b : ((s.size : Int) == 0) = false := beq_eq_false_iff_ne.2 z1
  clear hn n hs
  go_enter Try.func11, Try.ntmps11
  go_wp2_with fail
  go_loop [14] (fun i => ∃ k : Nat, k ≤ s.size ∧ i = .int .i64 (k : Int) ∧ Hid (Upto s k)) (fun i => s.size - (intOf i).toNat)
  case atStart => exact ⟨0, by omega, rfl, Upto.zero s⟩
  case round =>
    obtain ⟨k, hk, rfl, hu⟩ := hrel
    by_cases hlt : k < s.size
    · have hltz : (k : Int) < (s.size : Int) := by omega
      have HBAD := Lib.hid (Vd_bad (s := s) k hlt)
      have HGOOD := Lib.hid (hu.out.step)
      have hb := bt_eq s k hlt
      rw [hb] at HBAD HGOOD
      obtain ⟨c, hc⟩ : ∃ c, s[k].toNat = c := ⟨_, rfl⟩
      have hcl : c < 256 := by rw [← hc]; exact s[k].toNat_lt
      rw [hc] at HBAD HGOOD
      have HC := Lib.hid hc
      clear hb hc
      by_cases hL : lowB c = true
      · have HX := Lib.hid (HGOOD.out (chB_low hL))
        go_wp2_with (first
          | (go_at_call 23; rw [HC.out]; refine (letter_any c _ hcl).mono ?_; rw [hL]; rintro e w' ⟨rfl, rfl⟩)
          | fail)
        go_round
        case rel => exact ⟨k + 1, by omega, by go_num, HX⟩
        case measure => simp only [intOf]; omega
      · have hL : lowB c = false := by simpa using hL
        by_cases hD : digB c = true
        · have HX := Lib.hid (HGOOD.out (chB_dig hD))
          go_wp2_with (first
            | (go_at_call 23; rw [HC.out]; refine (letter_any c _ hcl).mono ?_; rw [hL]; rintro e w' ⟨rfl, rfl⟩)
            | (go_at_call 24; rw [HC.out]; refine (digit_any c _ hcl).mono ?_; rw [hD]; rintro e w' ⟨rfl, rfl⟩)
            | fail)
          go_round
          case rel => exact ⟨k + 1, by omega, by go_num, HX⟩
          case measure => simp only [intOf]; omega
        · have hD : digB c = false := by simpa using hD
          by_cases h45 : c = 45
          · have HX := Lib.hid (HGOOD.out (chB_hyp h45))
            have z45 : (s[k].toNat : Int) = 45 := by rw [HC.out, h45]; rfl
            have L45 : Hid (∀ w, Calls Try.prog 23 #[.int .u8 45] w fun e w' => e = .returned (.bool false) ∧ w = w') := Lib.hid (fun w => letter_any 45 w (by omega))
            have D45 : Hid (∀ w, Calls Try.prog 24 #[.int .u8 45] w fun e w' => e = .returned (.bool false) ∧ w = w') := Lib.hid (fun w => digit_any 45 w (by omega))
            go_wp2_with (first
              | (go_at_call 23; refine (L45.out _).mono ?_; rintro e w' ⟨rfl, rfl⟩)
              | (go_at_call 24; refine (D45.out _).mono ?_; rintro e w' ⟨rfl, rfl⟩)
              | fail)
            go_round
            case rel => exact ⟨k + 1, by omega, by go_num, HX⟩
            case measure => simp only [intOf]; omega
          · have HX := Lib.hid (HBAD.out (chB_no hL hD h45))
            have z45 : ¬ (s[k].toNat : Int) = 45 := by rw [HC.out]; omega
            have z45b : ((s[k].toNat : Int) == 45) = false := beq_eq_false_iff_ne.2 z45
            go_wp2_with (first
              | (go_at_call 23; rw [HC.out]; refine (letter_any c _ hcl).mono ?_; rw [hL]; rintro e w' ⟨rfl, rfl⟩)
              | (go_at_call 24; rw [HC.out]; refine (digit_any c _ hcl).mono ?_; rw [hD]; rintro e w' ⟨rfl, rfl⟩)
              | fail)
            go_ret
            exact ⟨ret_bool HX.out.symm, rfl⟩
    · have hnlt : ¬ (k : Int) < (s.size : Int) := by omega
      obtain rfl : k = s.size := by omega
      obtain ⟨n, hn⟩ : ∃ n, s.size = n + 1 := ⟨s.size - 1, by omega⟩
      have h0 : 0 < s.size := by omega
      have hl : n < s.size := by omega
      have b0 := bt_eq s 0 h0
      have b1 := bt_eq s n hl
      have zn : (s.size : Int) - 1 = (n : Int) := by omega
      have zl : (n : Int) < (s.size : Int) := by omega
      have z0l : (0 : Int) < (s.size : Int) := by omega
      have hN : s.size - 1 = n := by omega
      have HF := Lib.hid (Vd_first (s := s))
      have HL := Lib.hid (Vd_last (s := s))
      have HY := Lib.hid (Vd_yes (s := s) (by omega) (by omega) hu.out)
      rw [hN] at HL HY
      rw [b0] at HF HY
      rw [b1] at HL HY
      obtain ⟨c, hc⟩ : ∃ c, s[0].toNat = c := ⟨_, rfl⟩
      have hcl : c < 256 := by rw [← hc]; exact s[0].toNat_lt
      rw [hc] at HF HY
      have HC := Lib.hid hc
      clear hc b0 b1 hu hk hlt hN
      by_cases hL0 : lowB c = true
      · by_cases h45 : s[n].toNat = 45
        · have HX := Lib.hid (HL.out h45)
          have z45 : (s[n].toNat : Int) = 45 := by rw [h45]; rfl
          clear HF HY
          go_wp2_with (first
            | (go_at_call 23; rw [HC.out]; refine (letter_any c _ hcl).mono ?_; rw [hL0]; rintro e w' ⟨rfl, rfl⟩)
            | fail)
          go_ret
          exact ⟨ret_bool HX.out.symm, rfl⟩
        · have HX := Lib.hid (HY.out hL0 h45)
          have z45 : ¬ (s[n].toNat : Int) = 45 := by omega
          clear HF HL HY
          go_wp2_with (first
            | (go_at_call 23; rw [HC.out]; refine (letter_any c _ hcl).mono ?_; rw [hL0]; rintro e w' ⟨rfl, rfl⟩)
            | fail)
          go_ret
          exact ⟨ret_bool (by rw [HX.out]; simp [z45]), rfl⟩
      · have hL0 : lowB c = false := by simpa using hL0
        have HX := Lib.hid (HF.out hL0)
        clear HF HL HY
        go_wp2_with (first
          | (go_at_call 23; rw [HC.out]; refine (letter_any c _ hcl).mono ?_; rw [hL0]; rintro e w' ⟨rfl, rfl⟩)
          | fail)
        go_ret
        exact ⟨ret_bool HX.out.symm, rfl⟩

attribute [local irreducible] wpQuiet
/-- Behind k bytes of the specification's loop. -/
def UptoR (s : ByteArray) (k : Nat) : Prop := ∀ j, j < k → chB (bt s j) = true ∧ (j = 0 → lowB (bt s 0) = true)
theorem UptoR.zero (s : ByteArray) : UptoR s 0 := fun j hj => absurd hj (Nat.not_lt_zero j)
theorem UptoR.step {s : ByteArray} {k : Nat} (h : UptoR s k) (hc : chB (bt s k) = true) (h0 : k = 0 → lowB (bt s k) = true) : UptoR s (k + 1) := fun j hj => by
  rcases Nat.lt_or_ge j k with h1 | h1
  · exact h j h1
  · obtain rfl : j = k := by omega
    exact ⟨hc, fun e => by subst e; exact h0 rfl⟩
theorem Vd_bad0 {s : ByteArray} (k : Nat) (hk : k < s.size) (h : lowB (bt s k) = false) (h0 : k = 0) : Vd s = false := by subst h0; exact Vd_first h

set_option maxRecDepth 100000 in
set_option maxHeartbeats 4000000 in
theorem refValid_any (s : ByteArray) (w : World) (hs : s.size ≤ 9223372036854775807) :
    Calls Try.prog 12 #[.string s] w fun e w' => e = .returned (.bool (Vd s)) ∧ Below w.heap.size w w' := by
  by_cases z0 : s.size = 0
  · rw [Vd_short (Or.inl z0)]
    have z1 : (s.size : Int) < 1 := by omega
    go_enter Try.func12, Try.ntmps12
    go_wp2_with fail
    go_ret
    exact ⟨rfl, Below.refl _ _⟩
  by_cases z32 : 32 < s.size
  · rw [Vd_short (Or.inr z32)]
    have z1 : ¬ (s.size : Int) < 1 := by omega
    have z2 : (32 : Int) < (s.size : Int) := by omega
    clear hs
    go_enter Try.func12, Try.ntmps12
    go_wp2_with fail
    go_ret
    exact ⟨rfl, Below.refl _ _⟩
  have z1 : ¬ (s.size : Int) < 1 := by omega
  have z2 : ¬ (32 : Int) < (s.size : Int) := by omega
  clear hs
  go_enter Try.func12, Try.ntmps12
  go_wp2_with fail
  go_loopw [3, 4, 5] (fun i _ _ wr => ∃ k : Nat, k ≤ s.size ∧ i = .int .i64 (k : Int) ∧ Hid (UptoR s k) ∧ Below w.heap.size w wr) (fun i _ _ _ => s.size - (intOf i).toNat)
  case atStart => exact ⟨0, by omega, rfl, UptoR.zero s, Below.refl _ _⟩
  case round =>
    obtain ⟨k, hk, rfl, hu, hB⟩ := hrel
    by_cases hlt : k < s.size
    · have hltz : (k : Int) < (s.size : Int) := by omega
      have HBAD := Lib.hid (Vd_bad (s := s) k hlt)
      have HBAD0 := Lib.hid (Vd_bad0 (s := s) k hlt)
      have HGOOD := Lib.hid (hu.out.step)
      have hb := bt_eq s k hlt
      rw [hb] at HBAD HBAD0 HGOOD
      obtain ⟨c, hc⟩ : ∃ c, s[k] = c := ⟨_, rfl⟩
      have hcl : c.toNat < 256 := c.toNat_lt
      rw [hc] at HBAD HBAD0 HGOOD
      clear hb
      have G : ∀ nq, Below w.heap.size w (wr.drewN nq) := fun nq => hB.trans ((below_drewN' wr nq).mono hB.size)
      have HG := Lib.hid G
      clear G
      have hz0 : k = 0 ∨ ((k : Int) == 0) = false := by
        rcases Nat.eq_zero_or_pos k with h | h
        · exact Or.inl h
        · exact Or.inr (beq_eq_false_iff_ne.2 (by omega))
      rcases (show (c.toNat < 48) ∨ (48 ≤ c.toNat ∧ c.toNat ≤ 57) ∨ (57 < c.toNat ∧ c.toNat < 97) ∨ (97 ≤ c.toNat ∧ c.toNat ≤ 122) ∨ (122 < c.toNat) by omega) with hr | hr | hr | hr | hr
      · have i1 : decide ((97 : Int) ≤ (c.toNat : Int)) = false := decide_eq_false (by omega)
        have i2 : decide ((48 : Int) ≤ (c.toNat : Int)) = false := decide_eq_false (by omega)
        have hL : lowB c.toNat = false := decide_eq_false (by omega)
        have hD : digB c.toNat = false := decide_eq_false (by omega)
        rcases hz0 with h0 | h0
        · have HX := Lib.hid (HBAD0.out hL h0)
          subst h0
          clear HGOOD HBAD HBAD0 hL hD hr hu hcl
          go_wp2_with fail
          go_quiet (fail)
          go_wp2_with fail
          go_ret
          exact ⟨ret_bool HX.out.symm, HG.out _⟩
        · by_cases h45 : c.toNat = 45
          · have HX := Lib.hid (HGOOD.out (chB_hyp h45) (fun e => by subst e; exact absurd h0 (by decide)))
            have j1 : (c.toNat : Int) = 45 := by omega
            clear HGOOD HBAD HBAD0 hL hD hr hu hcl
            go_wp2_with fail
            go_quiet (fail)
            go_wp2_with fail
            go_roundw
            case rel => exact ⟨k + 1, by omega, by go_num, HX, HG.out _⟩
            case measure => simp only [intOf]; omega
          · have HX := Lib.hid (HBAD.out (chB_no hL hD h45))
            have j1 : ¬ (c.toNat : Int) = 45 := by omega
            clear HGOOD HBAD HBAD0 hL hD hr hu hcl
            go_wp2_with fail
            go_quiet (fail)
            go_wp2_with fail
            go_ret
            exact ⟨ret_bool HX.out.symm, HG.out _⟩
      · have i1 : decide ((97 : Int) ≤ (c.toNat : Int)) = false := decide_eq_false (by omega)
        have i2 : (48 : Int) ≤ (c.toNat : Int) := by omega
        have i3 : (c.toNat : Int) ≤ 57 := by omega
        have hL : lowB c.toNat = false := decide_eq_false (by omega)
        have hD : digB c.toNat = true := decide_eq_true (by omega)
        rcases hz0 with h0 | h0
        · have HX := Lib.hid (HBAD0.out hL h0)
          subst h0
          clear HGOOD HBAD HBAD0 hL hD hr hu hcl
          go_wp2_with fail
          go_quiet (fail)
          go_wp2_with fail
          go_ret
          exact ⟨ret_bool HX.out.symm, HG.out _⟩
        · have HX := Lib.hid (HGOOD.out (chB_dig hD) (fun e => by subst e; exact absurd h0 (by decide)))
          clear HGOOD HBAD HBAD0 hL hD hr hu hcl
          go_wp2_with fail
          go_quiet (fail)
          go_wp2_with fail
          go_roundw
          case rel => exact ⟨k + 1, by omega, by go_num, HX, HG.out _⟩
          case measure => simp only [intOf]; omega
      · have i1 : decide ((97 : Int) ≤ (c.toNat : Int)) = false := decide_eq_false (by omega)
        have i2 : (48 : Int) ≤ (c.toNat : Int) := by omega
        have i3 : decide ((c.toNat : Int) ≤ 57) = false := decide_eq_false (by omega)
        have hL : lowB c.toNat = false := decide_eq_false (by omega)
        have hD : digB c.toNat = false := decide_eq_false (by omega)
        rcases hz0 with h0 | h0
        · have HX := Lib.hid (HBAD0.out hL h0)
          subst h0
          clear HGOOD HBAD HBAD0 hL hD hr hu hcl
          go_wp2_with fail
          go_quiet (fail)
          go_wp2_with fail
          go_ret
          exact ⟨ret_bool HX.out.symm, HG.out _⟩
        · have HX := Lib.hid (HBAD.out (chB_no hL hD (by omega)))
          have j1 : ¬ (c.toNat : Int) = 45 := by omega
          clear HGOOD HBAD HBAD0 hL hD hr hu hcl
          go_wp2_with fail
          go_quiet (fail)
          go_wp2_with fail
          go_ret
          exact ⟨ret_bool HX.out.symm, HG.out _⟩
      · have i1 : (97 : Int) ≤ (c.toNat : Int) := by omega
        have i4 : (c.toNat : Int) ≤ 122 := by omega
        have i2 : (48 : Int) ≤ (c.toNat : Int) := by omega
        have i3 : decide ((c.toNat : Int) ≤ 57) = false := decide_eq_false (by omega)
        have hL : lowB c.toNat = true := decide_eq_true (by omega)
        have hD : digB c.toNat = false := decide_eq_false (by omega)
        have HX := Lib.hid (HGOOD.out (chB_low hL) (fun _ => hL))
        clear HGOOD HBAD HBAD0 hz0 hL hD hr hu hcl
        go_wp2_with fail
        go_quiet (fail)
        go_wp2_with fail
        go_roundw
        case rel => exact ⟨k + 1, by omega, by go_num, HX, HG.out _⟩
        case measure => simp only [intOf]; omega
      · have i1 : (97 : Int) ≤ (c.toNat : Int) := by omega
        have i4 : decide ((c.toNat : Int) ≤ 122) = false := decide_eq_false (by omega)
        have i2 : (48 : Int) ≤ (c.toNat : Int) := by omega
        have i3 : decide ((c.toNat : Int) ≤ 57) = false := decide_eq_false (by omega)
        have hL : lowB c.toNat = false := decide_eq_false (by omega)
        have hD : digB c.toNat = false := decide_eq_false (by omega)
        rcases hz0 with h0 | h0
        · have HX := Lib.hid (HBAD0.out hL h0)
          subst h0
          clear HGOOD HBAD HBAD0 hL hD hr hu hcl
          go_wp2_with fail
          go_quiet (fail)
          go_wp2_with fail
          go_ret
          exact ⟨ret_bool HX.out.symm, HG.out _⟩
        · have HX := Lib.hid (HBAD.out (chB_no hL hD (by omega)))
          have j1 : ¬ (c.toNat : Int) = 45 := by omega
          clear HGOOD HBAD HBAD0 hL hD hr hu hcl
          go_wp2_with fail
          go_quiet (fail)
          go_wp2_with fail
          go_ret
          exact ⟨ret_bool HX.out.symm, HG.out _⟩
    · have hnlt : ¬ (k : Int) < (s.size : Int) := by omega
      obtain rfl : k = s.size := by omega
      obtain ⟨n, hn⟩ : ∃ n, s.size = n + 1 := ⟨s.size - 1, by omega⟩
      have h0 : 0 < s.size := by omega
      have hl : n < s.size := by omega
      have b1 := bt_eq s n hl
      have zn : (s.size : Int) - 1 = (n : Int) := by omega
      have zl : (n : Int) < (s.size : Int) := by omega
      have hN : s.size - 1 = n := by omega
      have HL := Lib.hid (Vd_last (s := s))
      have HY := Lib.hid (Vd_yes (s := s) (by omega) (by omega) (fun j hj => (hu.out j hj).1) ((hu.out 0 h0).2 rfl))
      rw [hN, b1] at HL HY
      clear b1 hu hk hlt hN
      by_cases h45 : s[n].toNat = 45
      · have HX := Lib.hid (HL.out h45)
        have z45 : (s[n].toNat : Int) = 45 := by rw [h45]; rfl
        clear HL HY
        go_wp2_with fail
        go_ret
        exact ⟨ret_bool (by rw [HX.out]), hB⟩
      · have HX := Lib.hid (HY.out h45)
        have z45 : ¬ (s[n].toNat : Int) = 45 := by omega
        clear HL HY
        go_wp2_with fail
        go_ret
        exact ⟨ret_bool (by rw [HX.out]; simp [z45]), hB⟩
end Go.Proofs.Ytagpkijgednmnaa
