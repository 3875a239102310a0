/-
  The contract of the specification's Int. Condition: at most a million bytes.
-/
import Derived.Test.YthafaococbdhoaaWisG
namespace Go.Proofs.Ythafaococbdhoaa
open Go.RowKit Go.Maps
set_option linter.unusedVariables false

theorem val_drop_le : ∀ (S : List UInt8) (t : Nat), val (S.drop t) ≤ val S
  | [], t => by simp
  | c :: r, 0 => by simp
  | c :: r, t + 1 => by
    have := val_drop_le r t
    rw [List.drop_succ_cons, val_cons]
    omega
theorem val_drop {S : List UInt8} {t : Nat} (h : t < S.length) : val (S.drop t) = (S.getD t 0).toNat % 128 + 128 * val (S.drop (t + 1)) := by
  rw [dropB_cons S t h, val_cons]

set_option maxRecDepth 100000 in
set_option maxHeartbeats 2000000 in
theorem refInt_in (b o : Nat) (l : List UInt8) (m c k : Nat) (w : World) (N X : Int) (E : Nat) (hI : It l (k : Int) = (N, X, E)) (hm : l.length = m) (hl : m ≤ 1000000) (h : BytR w (some ⟨b, o, none⟩) l) (hk : k ≤ m) :
    Calls Try.prog 29 #[.slice (some ⟨b, o, none⟩) m c, .int .i64 (k : Int)] w fun e w' => e = .returned (.tuple #[.int .i64 N, .int .i64 X, .int .i64 (E : Int)]) ∧ w = w' := by
  obtain ⟨s, hs⟩ : ∃ s, l.drop k = s := ⟨_, rfl⟩
  have hsl : s.length = m - k := by rw [← hs, List.length_drop, hm]
  have HC : Hid (∀ j, j < m - k → w.cell? ⟨b, o + (k + j), none⟩ = some (.int .u8 ((s.getD j 0).toNat : Int))) := Lib.hid fun j hj => by
    obtain ⟨b', o', e, _, hc⟩ := h.at (by omega)
    injection e with e
    injection e with e1 e2 e3
    subst e1 e2
    have := hc (k + j) (by omega)
    rw [← getD_drop, hs] at this
    exact this
  have HBAD : Hid (∀ E', dec s = (0, 0, E') → E' ≠ 0 → N = 0 ∧ X = 0 ∧ E = E') := Lib.hid fun E' hd hE => by
    rw [← hs] at hd
    have := It_bad (by omega) hd hE
    rw [this] at hI
    simp only [Prod.mk.injEq] at hI
    exact ⟨hI.1.symm, hI.2.1.symm, hI.2.2.symm⟩
  have HGOOD : Hid (∀ u n, dec s = (u, n, 0) → N = uz u ∧ X = (k : Int) + (n : Int) ∧ E = 0) := Lib.hid fun u n hd => by
    rw [← hs] at hd
    have := It_good (by omega) hd
    rw [this] at hI
    simp only [Prod.mk.injEq] at hI
    exact ⟨hI.1.symm, hI.2.1.symm, hI.2.2.symm⟩
  have HS := Lib.hid hsl
  have z1 : ¬ (k : Int) < 0 := by omega
  have z2 : ¬ (m : Int) < (k : Int) := by omega
  clear hs hsl h hI hm
  go_enter Try.func29, Try.ntmps29
  go_wp2_with fail
  go_loop [7] (fun i => ∃ j : Nat, j ≤ m - k ∧ j ≤ 10 ∧ i = .int .i64 (j : Int) ∧ Hid (j ≤ lead s)) (fun i => (m - k) - (intOf i).toNat)
  case atStart => exact ⟨0, by omega, by omega, rfl, Lib.hid (Nat.zero_le _)⟩
  case round =>
    obtain ⟨j, hj, hj10, rfl, hle⟩ := hrel
    have hle' := hle.out
    by_cases h10 : j = 10
    · subst h10
      obtain ⟨rfl, rfl, rfl⟩ := HBAD.out 3 (dec_ten hle') (by decide)
      clear hle' hle
      go_wp2_with fail
      go_ret3
      exact ⟨rfl, rfl⟩
    have h10z : (j : Int) < 10 := by omega
    have h10y : ¬ (j : Int) = 10 := by omega
    by_cases hlt : j < m - k
    · have c0 := HC.out j hlt
      obtain ⟨x, hx⟩ : ∃ x, (s.getD j 0).toNat = x := ⟨_, rfl⟩
      have hx8 : (s.getD j 0).toNat < 256 := (s.getD j 0).toNat_lt
      have hjs : j < s.length := by rw [HS.out]; exact hlt
      have hltz : (k : Int) + (j : Int) < (m : Int) := by omega
      have hney : ¬ (k : Int) + (j : Int) = (m : Int) := by omega
      rw [hx] at c0 hx8
      by_cases h128 : 128 ≤ x
      · have HL := Lib.hid (lead_step hle' (by omega))
        have hxz : (128 : Int) ≤ (x : Int) := by omega
        clear hx hjs hle' hle
        go_wp2_with fail
        go_round
        case rel => exact ⟨j + 1, by omega, by omega, by go_num, HL⟩
        case measure => simp only [intOf]; omega
      · have hle9 := lead_here hle' (by omega)
        have hxz : ¬ (128 : Int) ≤ (x : Int) := by omega
        by_cases hbad : (0 < j ∧ x = 0) ∨ (j = 9 ∧ 1 < x)
        · obtain ⟨rfl, rfl, rfl⟩ := HBAD.out 3 (dec_form hle9 (by omega) hjs (by rw [hx]; exact hbad)) (by decide)
          clear hx hjs hle' hle hle9
          rcases hbad with ⟨hj0, rfl⟩ | ⟨rfl, hx1⟩
          · have hj0z : (0 : Int) < (j : Int) := by omega
            go_wp2_with fail
            go_ret3
            exact ⟨rfl, rfl⟩
          · have hx1z : (1 : Int) < (x : Int) := by omega
            have hx0z : ¬ x = 0 := by omega
            go_wp2_with fail
            go_ret3
            exact ⟨rfl, rfl⟩
        · have hd := dec_ok hle9 (by omega) hjs (by rw [hx]; exact hbad)
          have hbd := val_bd (s := s) (by omega) (by omega) (fun h => by rw [hle9, hx]; omega)
          rw [hle9] at hbd
          obtain ⟨hN, hX, hE⟩ := HGOOD.out _ _ hd
          have HN := Lib.hid hN
          have HX : Hid ((k : Int) + (j : Int) + 1 = X) := Lib.hid (by omega)
          have HE : Hid ((0 : Int) = (E : Int)) := Lib.hid (by omega)
          have HBD := Lib.hid hbd
          have HSL : Hid ((s.take (j + 1)).length = j + 1) := Lib.hid (by rw [List.length_take]; omega)
          have HG : Hid (∀ t, t ≤ j → ((s.take (j + 1)).getD t 0).toNat = (s.getD t 0).toNat) := Lib.hid fun t ht => by
            simp [List.getD, show t < j + 1 by omega]
          have hb1 : ¬ (0 < j ∧ x = 0) := fun h => hbad (Or.inl h)
          have hb2 : ¬ (j = 9 ∧ 1 < x) := fun h => hbad (Or.inr h)
          clear hx hjs hle' hle hle9 hd hN hX hE hbad hbd
          have hways : ((j : Int) = 9 ∧ w.cell? ⟨b, o + (k + 9), none⟩ = some (.int .u8 (x : Int)) ∧ (x : Int) ≤ 1 ∧ ¬ x = 0 ∧ 0 < j ∧ ((x : Int) == 0) = false) ∨ (¬ (j : Int) = 9 ∧ ¬ 0 < j) ∨ (¬ (j : Int) = 9 ∧ 0 < j ∧ ¬ x = 0) := by
            by_cases h9 : j = 9
            · subst h9
              exact Or.inl ⟨rfl, c0, by omega, by omega, by decide, by rw [beq_eq_false_iff_ne]; omega⟩
            · rcases Nat.eq_zero_or_pos j with h0 | h0
              · exact Or.inr (Or.inl ⟨by omega, by omega⟩)
              · exact Or.inr (Or.inr ⟨by omega, h0, fun h => hb1 ⟨h0, h⟩⟩)
          clear hb1 hb2
          rcases hways with ⟨q1, q2, q3, q4, q5, q6⟩ | ⟨q1, q2⟩ | ⟨q1, q2, q3⟩
          all_goals
            go_wp2_with fail
            go_loop [9, 10] (fun z i => ∃ q : Int, -1 ≤ q ∧ q ≤ (j : Int) ∧ i = .int .i64 q ∧ ∃ u : Nat, z = .int .u64 (u : Int) ∧ Hid (u = val ((s.take (j + 1)).drop (q + 1).toNat))) (fun _ i => (intOf i + 1).toNat)
            case atStart => exact ⟨(j : Int), by omega, by omega, val_int' (by omega), 0, rfl, Lib.hid (by
              rw [List.drop_eq_nil_of_le (by rw [HSL.out]; omega)]; rfl)⟩
            case round =>
              obtain ⟨q, hq1, hq2, rfl, u, rfl, hu⟩ := hrel
              by_cases hq : 0 ≤ q
              · obtain ⟨r, rfl⟩ : ∃ r : Nat, q = r := ⟨q.toNat, by omega⟩
                have hrj : r ≤ j := by omega
                have c1 := HC.out r (by omega)
                have hg := HG.out r hrj
                have hu2 := hu.out
                have hv := val_drop (S := s.take (j + 1)) (t := r) (by rw [HSL.out]; omega)
                have hle2 := val_drop_le (s.take (j + 1)) r
                have hbd3 := HBD.out
                rw [show ((r : Int) + 1).toNat = r + 1 by omega] at hu2
                rw [hg, ← hu2] at hv
                obtain ⟨y, hy⟩ : ∃ y, (s.getD r 0).toNat = y := ⟨_, rfl⟩
                have hy8 : (s.getD r 0).toNat < 256 := (s.getD r 0).toNat_lt
                rw [hy] at c1 hy8 hv
                have b1 : 128 * (u : Int) < 18446744073709551616 := by omega
                have b2 : 128 * (u : Int) + (y : Int) % 128 < 18446744073709551616 := by omega
                have HV : Hid (128 * (u : Int) + (y : Int) % 128 = ((val ((s.take (j + 1)).drop r) : Nat) : Int)) := Lib.hid (by omega)
                clear hg hu2 hv hle2 hbd3 hy hu
                go_wp2_with fail
                go_round
                case rel => exact ⟨(r : Int) - 1, by omega, by omega, by go_num, _, val_int' HV.out, Lib.hid (by rw [show ((r : Int) - 1 + 1).toNat = r by omega])⟩
                case measure => simp only [intOf]; omega
              · have hu2 := hu.out
                rw [show (q + 1).toNat = 0 by omega, List.drop_zero] at hu2
                have HN2 : Hid (uz u = N) := Lib.hid (by rw [hu2]; exact HN.out.symm)
                have hub : u < 18446744073709551616 := by rw [hu2]; exact HBD.out
                clear hu hu2
                go_wp2_with fail
                refine (number_any u _ hub).mono ?_
                rintro e w1 ⟨rfl, rfl⟩
                go_wp2_with fail
                go_ret3
                have hX := HX.out
                exact ⟨ret3 HN2.out (by omega) HE.out, rfl⟩
    · have hle9 := lead_end hle' (show s.length ≤ j by rw [HS.out]; omega)
      obtain ⟨rfl, rfl, rfl⟩ := HBAD.out 4 (dec_short hle9 (by omega) (by rw [HS.out]; omega)) (by decide)
      have hltz : ¬ (k : Int) + (j : Int) < (m : Int) := by omega
      have hez : (k : Int) + (j : Int) = (m : Int) := by omega
      clear hle' hle hle9
      go_wp2_with fail
      go_ret3
      exact ⟨rfl, rfl⟩
end Go.Proofs.Ythafaococbdhoaa
