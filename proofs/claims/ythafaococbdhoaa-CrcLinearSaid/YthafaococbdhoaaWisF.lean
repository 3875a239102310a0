/-
  The contract of Int. Condition: at most 2^63 - 1 bytes.
-/
import Derived.Test.YthafaococbdhoaaWisE
namespace Go.Proofs.Ythafaococbdhoaa
open Go.RowKit Go.Maps
set_option linter.unusedVariables false

theorem pow7 (j : Nat) : 128 ^ j = 2 ^ (7 * j) := by rw [Nat.pow_mul]
theorem or64 (a y j : Nat) (ha : a < 128 ^ j) (h4 : a < 18446744073709551616) (hy : y * 128 ^ j < 18446744073709551616) : bits .or .u64 (a : Int) ((y * 128 ^ j : Nat) : Int) = ((a + 128 ^ j * y : Nat) : Int) := by
  have h1 : y * 128 ^ j = 2 ^ (7 * j) * y := by rw [pow7, Nat.mul_comm]
  have h2 := Nat.two_pow_add_eq_or_of_lt (i := 7 * j) (b := a) (by rw [← pow7]; exact ha) y
  rw [u64_or_nat a _ h4 hy, Nat.or_comm, h1, ← h2, ← pow7, Nat.add_comm]
theorem pow_le_nine {j : Nat} (h : j ≤ 9) : 128 ^ j ≤ 9223372036854775808 :=
  Nat.le_trans (Nat.pow_le_pow_right (by decide) h) (by decide)
/-- The next group. -/
theorem or_group {s : List UInt8} {j u x : Nat} (hj : j < 9) (hs : j < s.length) (hu : u = val (s.take j)) (hx : (s.getD j 0).toNat = x) :
    bits .or .u64 (u : Int) (IntKind.u64.wrap ((x : Int) % 128 * 2 ^ (7 * j))) = ((val (s.take (j + 1)) : Nat) : Int) := by
  have hlt := val_take_lt s j
  have hp := pow_le_nine (show j ≤ 9 by omega)
  have hp8 : 128 ^ j ≤ 72057594037927936 := Nat.le_trans (Nat.pow_le_pow_right (by decide) (show j ≤ 8 by omega)) (by decide)
  have hm : x % 128 * 128 ^ j < 18446744073709551616 := by
    have := Nat.mul_le_mul (show x % 128 ≤ 127 by omega) hp8
    omega
  have e1 : (x : Int) % 128 * 2 ^ (7 * j) = ((x % 128 * 128 ^ j : Nat) : Int) := by
    rw [pow7]
    push_cast
    rfl
  have e2 : IntKind.u64.wrap ((x : Int) % 128 * 2 ^ (7 * j)) = ((x % 128 * 128 ^ j : Nat) : Int) := by
    rw [IntKind.wrap_u64, e1]
    generalize x % 128 * 128 ^ j = q at hm
    omega
  rw [e2, hu, or64 _ _ _ hlt (by omega) hm, val_take s j hs, hx]
theorem or_last {s : List UInt8} {u x : Nat} (hs : 9 < s.length) (hu : u = val (s.take 9)) (hx : (s.getD 9 0).toNat = x) (h1 : x ≤ 1) :
    bits .or .u64 (u : Int) ((x : Int) % 128 * 9223372036854775808) = ((val (s.take 10) : Nat) : Int) := by
  have hlt := val_take_lt s 9
  have hp := pow_le_nine (show 9 ≤ 9 by omega)
  have hm : x % 128 * 128 ^ 9 < 18446744073709551616 := by omega
  have e1 : (x : Int) % 128 * 9223372036854775808 = ((x % 128 * 128 ^ 9 : Nat) : Int) := by
    omega
  rw [e1, hu, or64 _ _ _ hlt (by omega) hm, val_take s 9 hs, hx]
theorem or_zero {s : List UInt8} {u : Nat} (hs : 0 < s.length) (hu : u = val (s.take 0)) (hx : (s.getD 0 0).toNat = 0) : bits .or .u64 (u : Int) 0 = ((val (s.take 1) : Nat) : Int) := by
  have h := or_group (j := 0) (u := u) (x := 0) (by decide) hs hu hx
  have e : IntKind.u64.wrap (((0 : Nat) : Int) % 128 * 2 ^ (7 * 0)) = 0 := by decide
  rw [e] at h
  exact h
theorem ret3 {k : IntKind} {a b c a' b' c' : Int} (h1 : a = a') (h2 : b = b') (h3 : c = c') : Ending.returned (.tuple #[.int k a, .int k b, .int k c]) = .returned (.tuple #[.int k a', .int k b', .int k c']) := by rw [h1, h2, h3]

set_option maxRecDepth 100000 in
set_option maxHeartbeats 1000000 in
theorem int_in (b o : Nat) (l : List UInt8) (m c k : Nat) (w : World) (N X : Int) (E : Nat) (hI : It l (k : Int) = (N, X, E)) (hm : l.length = m) (hl : m ≤ 1000000) (hc : m ≤ c) (h : BytR w (some ⟨b, o, none⟩) l) (hk : k < m) :
    Calls Try.prog 34 #[.slice (some ⟨b, o, none⟩) m c, .int .i64 (k : Int)] w fun e w' => e = .returned (.tuple #[.int .i64 N, .int .i64 X, .int .i64 (E : Int)]) ∧ w = w' := by
  obtain ⟨s, hs⟩ : ∃ s, l.drop k = s := ⟨_, rfl⟩
  have hsl : s.length = m - k := by rw [← hs, List.length_drop, hm]
  have HC : Hid (∀ j, j < m - k → w.cell? ⟨b, o + k + j, none⟩ = some (.int .u8 ((s.getD j 0).toNat : Int))) := Lib.hid fun j hj => by
    obtain ⟨b', o', e, _, hc⟩ := h.at (by omega)
    injection e with e
    injection e with e1 e2 e3
    subst e1 e2
    have := hc (k + j) (by omega)
    rw [← getD_drop, hs, ← Nat.add_assoc] at this
    exact this
  have HBAD : Hid (∀ E', dec s = (0, 0, E') → E' ≠ 0 → N = 0 ∧ X = 0 ∧ E = E') := Lib.hid fun E' hd hE => by
    rw [← hs] at hd
    have := It_bad (by omega) hd hE
    rw [this] at hI
    simp only [Prod.mk.injEq] at hI
    exact ⟨hI.1.symm, hI.2.1.symm, hI.2.2.symm⟩
  have HGOOD : Hid (∀ u n, dec s = (u, n, 0) → N = uz u ∧ X = (k : Int) + (n : Int) ∧ E = 0) := Lib.hid fun u n hd => by
    rw [← hs] at hd
    have := It_good (by omega) hd
    rw [this] at hI
    simp only [Prod.mk.injEq] at hI
    exact ⟨hI.1.symm, hI.2.1.symm, hI.2.2.symm⟩
  have HS := Lib.hid hsl
  have z1 : ¬ (k : Int) < 0 := by omega
  have z2 : ¬ (m : Int) < (k : Int) := by omega
  have z3 : ¬ c = k := by omega
  clear hs hsl h hI hm
  go_enter Try.func34, Try.ntmps34
  go_wp2_with fail
  go_loop [7, 22] (fun z i => ∃ j : Nat, j ≤ m - k ∧ j ≤ 9 ∧ i = .int .i64 (j : Int) ∧ ∃ u : Nat, z = .int .u64 (u : Int) ∧ Hid (u = val (s.take j)) ∧ Hid (j ≤ lead s)) (fun _ i => (m - k) - (intOf i).toNat)
  case atStart => exact ⟨0, by omega, by omega, rfl, 0, rfl, Lib.hid (by rw [List.take_zero]; rfl), Lib.hid (Nat.zero_le _)⟩
  case round =>
    obtain ⟨j, hj, hj9, rfl, u, rfl, hu, hle⟩ := hrel
    have hu' := hu.out
    have hle' := hle.out
    by_cases hlt : j < m - k
    · have c0 := HC.out j hlt
      obtain ⟨x, hx⟩ : ∃ x, (s.getD j 0).toNat = x := ⟨_, rfl⟩
      have hx8 : (s.getD j 0).toNat < 256 := (s.getD j 0).toNat_lt
      have hjs : j < s.length := by rw [HS.out]; exact hlt
      rw [hx] at c0 hx8
      by_cases h9 : j = 9
      · subst h9
        have hltz : (9 : Int) < ((m - k : Nat) : Int) := by omega
        by_cases hx1 : 1 < x
        · have hd : dec s = (0, 0, 3) := by
            by_cases h128 : 128 ≤ x
            · exact dec_ten (lead_step hle' (by omega))
            · exact dec_form (lead_here hle' (by omega)) (by decide) hjs (Or.inr ⟨rfl, by omega⟩)
          obtain ⟨rfl, rfl, rfl⟩ := HBAD.out 3 hd (by decide)
          have hx1z : (1 : Int) < (x : Int) := by omega
          clear hd hx hjs hu' hle' hu hle
          go_wp2_with fail
          go_ret3
          exact ⟨rfl, rfl⟩
        · have hle9 := lead_here hle' (by omega)
          have hx1z : ¬ (1 : Int) < (x : Int) := by omega
          have hx2z : ¬ (128 : Int) ≤ (x : Int) := by omega
          by_cases hx0 : x = 0
          · subst hx0
            obtain ⟨rfl, rfl, rfl⟩ := HBAD.out 3 (dec_form hle9 (by decide) hjs (Or.inl ⟨by decide, hx⟩)) (by decide)
            clear hx hjs hu' hle' hu hle hle9
            go_wp2_with fail
            go_ret3
            exact ⟨rfl, rfl⟩
          · have HV := Lib.hid (or_last hjs hu' hx (by omega))
            have hd := dec_ok hle9 (by decide) hjs (by omega)
            have hbd := val_bd (s := s) (by omega) (by omega) (fun _ => by rw [hle9]; omega)
            rw [hle9] at hbd
            obtain ⟨hN, hX, hE⟩ := HGOOD.out _ _ hd
            obtain ⟨V, hV⟩ : ∃ V, val (s.take 10) = V := ⟨_, rfl⟩
            have hbd2 : V < 18446744073709551616 := by rw [← hV]; exact hbd
            have hN' : N = uz V := by rw [← hV]; exact hN
            rw [hV] at HV
            have HN := Lib.hid hN'
            have HX : Hid ((k : Int) + 9 + 1 = X) := Lib.hid (by omega)
            have HE : Hid ((0 : Int) = (E : Int)) := Lib.hid (by omega)
            have hx0z : ¬ (x : Int) = 0 := by omega
            clear hx hjs hu' hle' hu hle hle9 hd hbd hV hN hX hE hN'
            go_wp2_with fail
            rw [HV.out]
            refine (unzigzag_any V _ hbd2).mono ?_
            rintro e w1 ⟨rfl, rfl⟩
            go_wp2_with fail
            go_ret3
            exact ⟨ret3 HN.out.symm HX.out HE.out, rfl⟩
      · have h9z : ¬ (j : Int) = 9 := by omega
        have hltz : (j : Int) < ((m - k : Nat) : Int) := by omega
        by_cases h128 : 128 ≤ x
        · have HV := Lib.hid (or_group (show j < 9 by omega) hjs hu' hx)
          have HL := Lib.hid (lead_step hle' (by omega))
          have hxz : (128 : Int) ≤ (x : Int) := by omega
          clear hx hjs hu' hle' hu hle
          go_wp2_with fail
          go_round
          case rel => exact ⟨j + 1, by omega, by omega, by go_num, _, val_int' HV.out, Lib.hid rfl, HL⟩
          case measure => simp only [intOf]; omega
        · have hle9 := lead_here hle' (by omega)
          have hxz : ¬ (128 : Int) ≤ (x : Int) := by omega
          by_cases hbad : 0 < j ∧ x = 0
          · obtain ⟨hj0, rfl⟩ := hbad
            obtain ⟨rfl, rfl, rfl⟩ := HBAD.out 3 (dec_form hle9 (by omega) hjs (Or.inl ⟨hj0, hx⟩)) (by decide)
            clear hx hjs hu' hle' hu hle hle9
            go_wp2_with fail
            go_ret3
            exact ⟨rfl, rfl⟩
          · have hd := dec_ok hle9 (by omega) hjs (by omega)
            have hbd := val_bd (s := s) (by omega) (by omega) (fun h => by omega)
            rw [hle9] at hbd
            have HV := Lib.hid (or_group (show j < 9 by omega) hjs hu' hx)
            obtain ⟨hN, hX, hE⟩ := HGOOD.out _ _ hd
            have HV0 : Hid (x = 0 → j = 0 → bits .or .u64 (u : Int) 0 = ((val (s.take (j + 1)) : Nat) : Int)) := Lib.hid (fun h h0 => by
              subst h0
              exact or_zero hjs hu' (by rw [hx]; exact h))
            obtain ⟨V, hV⟩ : ∃ V, val (s.take (j + 1)) = V := ⟨_, rfl⟩
            rw [hV] at hbd hN HV HV0
            have HN := Lib.hid hN
            have HX : Hid ((k : Int) + (j : Int) + 1 = X) := Lib.hid (by omega)
            have HE : Hid ((0 : Int) = (E : Int)) := Lib.hid (by omega)
            by_cases hx0 : x = 0
            · have hj0 : j = 0 := by omega
              have HV1 := Lib.hid (HV0.out hx0 hj0)
              subst hx0
              have hj0z : ¬ 0 < j := by omega
              clear hx hjs hu' hle' hu hle hle9 hd hV hN hX hE HV0 HV hbad hj0
              go_wp2_with fail
              rw [HV1.out]
              refine (unzigzag_any V _ hbd).mono ?_
              rintro e w1 ⟨rfl, rfl⟩
              go_wp2_with fail
              go_ret3
              exact ⟨ret3 HN.out.symm HX.out HE.out, rfl⟩
            · have hx0z : ¬ (x : Int) = 0 := by omega
              clear hx hjs hu' hle' hu hle hle9 hd hV hN hX hE HV0 hbad
              go_wp2_with fail
              rw [HV.out]
              refine (unzigzag_any V _ hbd).mono ?_
              rintro e w1 ⟨rfl, rfl⟩
              go_wp2_with fail
              go_ret3
              exact ⟨ret3 HN.out.symm HX.out HE.out, rfl⟩
    · have hle9 := lead_end hle' (show s.length ≤ j by rw [HS.out]; omega)
      obtain ⟨rfl, rfl, rfl⟩ := HBAD.out 4 (dec_short hle9 (by omega) (by rw [HS.out]; omega)) (by decide)
      have hltz : ¬ (j : Int) < ((m - k : Nat) : Int) := by omega
      clear hu' hle' hu hle hle9
      go_wp2_with fail
      go_ret3
      exact ⟨rfl, rfl⟩
end Go.Proofs.Ythafaococbdhoaa
