/-
  The contracts of math/bits.Div64, of package num's divide and of MulDiv. No condition but the divisor's.
-/
import Derived.Test.YtjgajcabecklcaaDoorNumB
import Derived.Test.YtjgajcabecklcaaDoorShelf
import Derived.Laws.Bits64b
import Derived.Lib.ItoaNum
import Derived.Deep.CutBlock
import Derived.Deep.DeepCutAuto
namespace Go.Proofs.YtjgajcabecklcaaDoor
open Go.RowKit
set_option linter.unusedVariables false

set_option maxRecDepth 100000 in
set_option maxHeartbeats 1000000 in
theorem div64_small (lo y : Nat) (w : World) (hl : lo < 18446744073709551616) (hy0 : 0 < y) (hy : y < 18446744073709551616) :
    Calls Tryd.prog 47 #[.int .u64 ((0 : Nat) : Int), .int .u64 lo, .int .u64 y] w fun e w' => e = .returned (.tuple #[.int .u64 ((lo / y : Nat) : Int), .int .u64 ((lo % y : Nat) : Int)]) ∧ ∃ n, w' = w.drewN n := by
  have hz : ((y : Int) == 0) = false := beq_eq_false_iff_ne.2 (by omega)
  have h1 : ¬ (y : Int) ≤ 0 := by omega
  have hy1 : (1 : Int) ≤ y := by omega
  obtain ⟨q, hq⟩ : ∃ q, lo / y = q := ⟨_, rfl⟩
  obtain ⟨r, hr⟩ : ∃ r, lo % y = r := ⟨_, rfl⟩
  have ql : q ≤ lo := hq ▸ Nat.div_le_self _ _
  have rl : r < y := hr ▸ Nat.mod_lt _ (by omega)
  have zq : (lo : Int) / (y : Int) = (q : Int) := by rw [← hq]; exact (Int.natCast_ediv lo y).symm
  have zr : (lo : Int) % (y : Int) = (r : Int) := by rw [← hr]; exact (Int.natCast_emod lo y).symm
  rw [hq, hr]
  clear hq hr
  go_enter Tryd.func47, Tryd.ntmps47
  go_wp2_with fail
  go_region
  go_wp2
  go_ret2
  exact ⟨by rw [← zr]; rfl, 1, rfl⟩

theorem bitLen_shift (y : Nat) (h0 : 0 < y) (h : y < 18446744073709551616) : ∃ s : Nat, (64 - (Lib.bitLen y : Int)) = s ∧ s ≤ 63 ∧ 9223372036854775808 ≤ y * 2 ^ s ∧ y * 2 ^ s < 18446744073709551616 := by
  obtain ⟨a, b, c⟩ := Lib.bitLenAux_bounds 64 y h (by omega)
  have hL : Lib.bitLen y ≤ 64 := Lib.bitLen_le y 64 (Nat.le_refl _) h
  change 1 ≤ Lib.bitLen y at a
  change 2 ^ (Lib.bitLen y - 1) ≤ y at b
  change y < 2 ^ Lib.bitLen y at c
  obtain ⟨L, hLd⟩ : ∃ L, Lib.bitLen y = L := ⟨_, rfl⟩
  rw [hLd] at a b c hL ⊢
  refine ⟨64 - L, by omega, by omega, ?_, ?_⟩
  · have e : 2 ^ (L - 1) * 2 ^ (64 - L) = 9223372036854775808 := by rw [← Nat.pow_add, show L - 1 + (64 - L) = 63 by omega]
    rw [← e]
    exact Nat.mul_le_mul_right _ b
  · have e : 2 ^ L * 2 ^ (64 - L) = 18446744073709551616 := by rw [← Nat.pow_add, show L + (64 - L) = 64 by omega]
    rw [← e]
    exact Nat.mul_lt_mul_of_pos_right c (Nat.two_pow_pos _)

theorem and_low (a : Nat) (h : a < 18446744073709551616) : bits .and .u64 (a : Int) 4294967295 = ((a % 4294967296 : Nat) : Int) := by
  have h1 := bits_and_u64_nat a 4294967295 h (by omega)
  rw [show a &&& 4294967295 = a % 4294967296 from Nat.and_two_pow_sub_one_eq_mod a 32] at h1
  exact h1

theorem rest_wrap (u v P R : Nat) (h : u * 4294967296 + v = P + R) (hR : R < 18446744073709551616) :
    IntKind.u64.wrap (IntKind.u64.wrap (IntKind.u64.wrap ((u : Int) * 4294967296) + (v : Int)) - IntKind.u64.wrap (P : Int)) = (R : Int) := by
  simp only [IntKind.wrap_u64]
  omega

theorem cast_lt (B r v m : Nat) (h : r * B + v < m) : (B : Int) * (r : Int) + (v : Int) < (m : Int) := by
  rw [← Int.natCast_mul, ← Int.natCast_add, Nat.mul_comm]
  exact Int.ofNat_lt.2 h
theorem cast_lt' (B r v m : Nat) (h : (B : Int) * (r : Int) + (v : Int) < (m : Int)) : r * B + v < m := by
  rw [← Int.natCast_mul, ← Int.natCast_add, Nat.mul_comm] at h
  exact Int.ofNat_lt.1 h

set_option maxRecDepth 100000 in
set_option maxHeartbeats 4000000 in
theorem div64_big (hi lo y : Nat) (w : World) (h1 : 1 ≤ hi) (h2 : hi < y) (hl : lo < 18446744073709551616) (hy : y < 18446744073709551616) :
    Calls Tryd.prog 47 #[.int .u64 hi, .int .u64 lo, .int .u64 y] w fun e w' => e = .returned (.tuple #[.int .u64 (((hi * 18446744073709551616 + lo) / y : Nat) : Int), .int .u64 (((hi * 18446744073709551616 + lo) % y : Nat) : Int)]) ∧ w = w' := by
  have hz : ((y : Int) == 0) = false := beq_eq_false_iff_ne.2 (by omega)
  have hz2 : ((hi : Int) == 0) = false := beq_eq_false_iff_ne.2 (by omega)
  have h3 : ¬ (y : Int) ≤ hi := by omega
  obtain ⟨s, hs, hsl, hY1, hY2⟩ := bitLen_shift y (by omega) hy
  have hfin := div64_end hi lo y s (by omega) (by omega)
  have hult := shifted_lt hi lo y s (by omega) h2 hl
  have hllt := low_lt lo s (by omega) hl
  have hor := high_or hi (lo / 2 ^ (64 - s)) s hllt
  have zt : IntKind.u64.wrap ((lo : Int) * 2 ^ s) = ((lo * 2 ^ s % 18446744073709551616 : Nat) : Int) := by
    rw [IntKind.wrap_u64, show (lo : Int) * 2 ^ s = ((lo * 2 ^ s : Nat) : Int) by rw [Int.natCast_mul, Int.natCast_pow]; rfl]
    omega
  have htl : lo * 2 ^ s % 18446744073709551616 < 18446744073709551616 := Nat.mod_lt _ (by omega)
  have zY : (y : Int) * 2 ^ s = ((y * 2 ^ s : Nat) : Int) := by rw [Int.natCast_mul, Int.natCast_pow]; rfl
  have zH : (hi : Int) * 2 ^ s = ((hi * 2 ^ s : Nat) : Int) := by rw [Int.natCast_mul, Int.natCast_pow]; rfl
  have zL : (lo : Int) / 2 ^ (64 - s) = ((lo / 2 ^ (64 - s) : Nat) : Int) := by rw [Int.natCast_ediv, Int.natCast_pow]; rfl
  dsimp only at hfin
  obtain ⟨Q0, hQ0⟩ : ∃ n, (hi * 18446744073709551616 + lo) / y = n := ⟨_, rfl⟩
  obtain ⟨R0, hR0⟩ : ∃ n, (hi * 18446744073709551616 + lo) % y = n := ⟨_, rfl⟩
  rw [hQ0, hR0] at hfin ⊢
  clear hQ0 hR0
  obtain ⟨Y, hYd⟩ : ∃ n, y * 2 ^ s = n := ⟨_, rfl⟩
  rw [hYd] at hfin hult hY1 hY2 zY
  obtain ⟨H, hHd⟩ : ∃ n, hi * 2 ^ s = n := ⟨_, rfl⟩
  rw [hHd] at hfin hult zH hor
  obtain ⟨l, hld⟩ : ∃ n, lo / 2 ^ (64 - s) = n := ⟨_, rfl⟩
  rw [hld] at hfin hult zL hor hllt
  obtain ⟨t, htd⟩ : ∃ n, lo * 2 ^ s % 18446744073709551616 = n := ⟨_, rfl⟩
  rw [htd] at hfin htl zt
  clear hYd hHd hld htd hllt
  have zor : bits .or .u64 (H : Int) (l : Int) = ((H + l : Nat) : Int) := by rw [bits_or_u64_nat H l (by omega) (by omega), hor]
  clear hor
  obtain ⟨u, hud⟩ : ∃ n, H + l = n := ⟨_, rfl⟩
  have hHl : H ≤ u := by omega
  have hll : l ≤ u := by omega
  rw [hud] at hfin hult zor
  clear hud
  have zb : bits .and .u64 (Y : Int) 4294967295 = ((Y % 4294967296 : Nat) : Int) := and_low Y hY2
  have zc : bits .and .u64 (t : Int) 4294967295 = ((t % 4294967296 : Nat) : Int) := and_low t htl
  have D1 := Divs.mk' Y u (t / 4294967296) hY1 hY2 hult (by omega)
  obtain ⟨Q1, hQ1⟩ : ∃ n, (u * 4294967296 + t / 4294967296) / Y = n := ⟨_, rfl⟩
  have hrest1 := D1.rest
  have hlo1 := D1.lo
  have hsm1 := D1.small
  rw [hQ1] at hfin D1 hrest1 hlo1 hsm1
  clear hQ1
  obtain ⟨R1, hR1⟩ : ∃ n, (u * 4294967296 + t / 4294967296) % Y = n := ⟨_, rfl⟩
  rw [hR1] at hfin hrest1
  clear hR1
  have D2 := Divs.mk' Y R1 (t % 4294967296) hY1 hY2 hrest1.2 (by omega)
  obtain ⟨Q2, hQ2⟩ : ∃ n, (R1 * 4294967296 + t % 4294967296) / Y = n := ⟨_, rfl⟩
  have hrest2 := D2.rest
  have hlo2 := D2.lo
  have hsm2 := D2.small
  rw [hQ2] at hfin D2 hrest2 hlo2 hsm2
  clear hQ2
  obtain ⟨R2, hR2⟩ : ∃ n, (R1 * 4294967296 + t % 4294967296) % Y = n := ⟨_, rfl⟩
  rw [hR2] at hfin hrest2
  clear hR2
  obtain ⟨yn1, hyn1⟩ : ∃ n, Y / 4294967296 = n := ⟨_, rfl⟩
  have z1 : (Y : Int) / 4294967296 = (yn1 : Int) := by omega
  obtain ⟨yn0, hyn0⟩ : ∃ n, Y % 4294967296 = n := ⟨_, rfl⟩
  rw [hyn1, hyn0] at D1 D2
  rw [hyn0] at zb
  have hy1a : 2147483648 ≤ yn1 := by omega
  have hy1b : yn1 < 4294967296 := by omega
  have hy0b : yn0 < 4294967296 := by omega
  clear hyn1 hyn0
  obtain ⟨v1, hv1⟩ : ∃ n, t / 4294967296 = n := ⟨_, rfl⟩
  have z2 : (t : Int) / 4294967296 = (v1 : Int) := by omega
  obtain ⟨v0, hv0⟩ : ∃ n, t % 4294967296 = n := ⟨_, rfl⟩
  rw [hv1] at D1 hrest1 hlo1
  rw [hv0] at D2 hrest2 hlo2 zc
  have hv1b : v1 < 4294967296 := by omega
  have hv0b : v0 < 4294967296 := by omega
  clear hv1 hv0
  have s1 := D1.start
  have s2 := D2.start
  obtain ⟨qa, hqa⟩ : ∃ n, u / yn1 = n := ⟨_, rfl⟩
  obtain ⟨qb, hqb⟩ : ∃ n, R1 / yn1 = n := ⟨_, rfl⟩
  have zqa : (u : Int) / (yn1 : Int) = (qa : Int) := by rw [← hqa]; exact (Int.natCast_ediv u yn1).symm
  have zqb : (R1 : Int) / (yn1 : Int) = (qb : Int) := by rw [← hqb]; exact (Int.natCast_ediv R1 yn1).symm
  rw [hqa] at s1
  rw [hqb] at s2
  clear hqa hqb
  obtain ⟨pa, hpa⟩ : ∃ n, qa * yn1 = n := ⟨_, rfl⟩
  obtain ⟨pb, hpb⟩ : ∃ n, qb * yn1 = n := ⟨_, rfl⟩
  have zpa : (qa : Int) * (yn1 : Int) = (pa : Int) := by rw [← hpa]; exact (Int.natCast_mul qa yn1).symm
  have zpb : (qb : Int) * (yn1 : Int) = (pb : Int) := by rw [← hpb]; exact (Int.natCast_mul qb yn1).symm
  have hpal : pa ≤ u := by have := s1.eq; omega
  have hpbl : pb ≤ R1 := by have := s2.eq; omega
  rw [hpa] at s1
  rw [hpb] at s2
  clear hpa hpb
  have S1 := Lib.hid s1
  have S2 := Lib.hid s2
  have hqal := s1.le
  have hqbl := s2.le
  have FIN := Lib.hid hfin
  have E1 := Lib.hid D1
  have E2 := Lib.hid D2
  clear s1 s2 hfin D1 D2
  have hR1b : R1 < Y := hrest1.2
  have hR2b : R2 < Y := hrest2.2
  obtain ⟨P1, hP1⟩ : ∃ n, Q1 * Y = n := ⟨_, rfl⟩
  obtain ⟨P2, hP2⟩ : ∃ n, Q2 * Y = n := ⟨_, rfl⟩
  have zP1 : (Q1 : Int) * (Y : Int) = (P1 : Int) := by rw [← hP1]; exact (Int.natCast_mul Q1 Y).symm
  have zP2 : (Q2 : Int) * (Y : Int) = (P2 : Int) := by rw [← hP2]; exact (Int.natCast_mul Q2 Y).symm
  rw [hP1] at hrest1 hlo1
  rw [hP2] at hrest2 hlo2
  have zw1 := rest_wrap u v1 P1 R1 (by omega) (by omega)
  have zw2 := rest_wrap R1 v0 P2 R2 (by omega) (by omega)
  clear hP1 hP2 hrest1 hrest2 hlo1 hlo2
  go_enter Tryd.func47, Tryd.ntmps47
  go_upto_block 0 with (go_at_call 63; refine (Tryd.bits_LeadingZeros64 _ _ (by omega) (by omega)).mono ?_; rintro e w' ⟨rfl, rfl⟩; rw [Int.toNat_natCast, hs])
  go_cut [15, 16] (fun sq sr wx => sq = .int .u64 (Q1 : Int) ∧ wx = w')
  case first =>
    go_wp2_with fail
    go_loop [15, 16] (fun sq sr => ∃ q r : Nat, sq = .int .u64 (q : Int) ∧ sr = .int .u64 (r : Int) ∧ Guess yn1 yn0 u v1 Q1 q r) (fun sq _ => (intOf sq).toNat)
    case atStart => exact ⟨qa, u - pa, rfl, val_int (by omega), S1.out⟩
    case round =>
      obtain ⟨q, r, rfl, rfl, g⟩ := hrel
      have hq5 := g.le
      have hr5 := g.rl
      have G := Lib.hid g
      clear g
      by_cases hA : 4294967296 ≤ q
      · have hp := G.out.pos E1.out (Or.inl hA)
        have hAz : (4294967296 : Int) ≤ (q : Int) := by omega
        by_cases hB : r + yn1 < 4294967296
        · have n := Lib.hid (G.out.next E1.out (Or.inl hA) hB)
          have hBz : ¬ (4294967296 : Int) ≤ (r : Int) + (yn1 : Int) := by omega
          clear hB hA
          go_wp2
          go_round
          case rel => exact ⟨q - 1, r + yn1, val_int (by omega), val_int (by omega), n.out⟩
          case measure => simp only [intOf]; omega
        · have n := Lib.hid (G.out.stop E1.out (Or.inl hA) (by omega))
          have hBz : (4294967296 : Int) ≤ (r : Int) + (yn1 : Int) := by omega
          clear hB hA
          go_wp2_with fail
          go_meet
          exact ⟨val_int (by have := n.out; omega), rfl⟩
      · have hAz : ¬ (4294967296 : Int) ≤ (q : Int) := by omega
        obtain ⟨m, hm⟩ : ∃ m, q * yn0 = m := ⟨_, rfl⟩
        have zm : (q : Int) * (yn0 : Int) = (m : Int) := by rw [← hm]; exact (Int.natCast_mul q yn0).symm
        have hml : m ≤ 4294967295 * 4294967295 := hm ▸ Nat.mul_le_mul (by omega) (by omega)
        by_cases hC : r * 4294967296 + v1 < q * yn0
        · have hp := G.out.pos E1.out (Or.inr hC)
          have hCz : 4294967296 * (r : Int) + (v1 : Int) < (m : Int) := cast_lt _ _ _ _ (hm ▸ hC)
          by_cases hB : r + yn1 < 4294967296
          · have n := Lib.hid (G.out.next E1.out (Or.inr hC) hB)
            have hBz : ¬ (4294967296 : Int) ≤ (r : Int) + (yn1 : Int) := by omega
            clear hB hA hC hm
            go_wp2
            go_round
            case rel => exact ⟨q - 1, r + yn1, val_int (by omega), val_int (by omega), n.out⟩
            case measure => simp only [intOf]; omega
          · have n := Lib.hid (G.out.stop E1.out (Or.inr hC) (by omega))
            have hBz : (4294967296 : Int) ≤ (r : Int) + (yn1 : Int) := by omega
            clear hB hA hC hm
            go_wp2_with fail
            go_meet
            exact ⟨val_int (by have := n.out; omega), rfl⟩
        · have n := Lib.hid (G.out.done E1.out hA hC)
          have hCz : ¬ 4294967296 * (r : Int) + (v1 : Int) < (m : Int) := fun h => hC (hm ▸ cast_lt' _ _ _ _ h)
          clear hA hC hm
          go_wp2_with fail
          go_meet
          exact ⟨val_int (by have := n.out; omega), rfl⟩
  case rest =>
    obtain ⟨rfl, rfl⟩ := hcut
    go_upto_block 2 with fail
    go_cut [16, 18] (fun sr sq wx => sq = .int .u64 (Q2 : Int) ∧ wx = wc)
    case first =>
      go_wp2_with fail
      go_loop [16, 18] (fun sr sq => ∃ q r : Nat, sq = .int .u64 (q : Int) ∧ sr = .int .u64 (r : Int) ∧ Guess yn1 yn0 R1 v0 Q2 q r) (fun _ sq => (intOf sq).toNat)
      case atStart => exact ⟨qb, R1 - pb, rfl, val_int (by omega), S2.out⟩
      case round =>
        obtain ⟨q, r, rfl, rfl, g⟩ := hrel
        have hq5 := g.le
        have hr5 := g.rl
        have G := Lib.hid g
        clear g
        by_cases hA : 4294967296 ≤ q
        · have hp := G.out.pos E2.out (Or.inl hA)
          have hAz : (4294967296 : Int) ≤ (q : Int) := by omega
          by_cases hB : r + yn1 < 4294967296
          · have n := Lib.hid (G.out.next E2.out (Or.inl hA) hB)
            have hBz : ¬ (4294967296 : Int) ≤ (r : Int) + (yn1 : Int) := by omega
            clear hB hA
            go_wp2
            go_round
            case rel => exact ⟨q - 1, r + yn1, val_int (by omega), val_int (by omega), n.out⟩
            case measure => simp only [intOf]; omega
          · have n := Lib.hid (G.out.stop E2.out (Or.inl hA) (by omega))
            have hBz : (4294967296 : Int) ≤ (r : Int) + (yn1 : Int) := by omega
            clear hB hA
            go_wp2_with fail
            go_meet
            exact ⟨val_int (by have := n.out; omega), rfl⟩
        · have hAz : ¬ (4294967296 : Int) ≤ (q : Int) := by omega
          obtain ⟨m, hm⟩ : ∃ m, q * yn0 = m := ⟨_, rfl⟩
          have zm : (q : Int) * (yn0 : Int) = (m : Int) := by rw [← hm]; exact (Int.natCast_mul q yn0).symm
          have hml : m ≤ 4294967295 * 4294967295 := hm ▸ Nat.mul_le_mul (by omega) (by omega)
          by_cases hC : r * 4294967296 + v0 < q * yn0
          · have hp := G.out.pos E2.out (Or.inr hC)
            have hCz : 4294967296 * (r : Int) + (v0 : Int) < (m : Int) := cast_lt _ _ _ _ (hm ▸ hC)
            by_cases hB : r + yn1 < 4294967296
            · have n := Lib.hid (G.out.next E2.out (Or.inr hC) hB)
              have hBz : ¬ (4294967296 : Int) ≤ (r : Int) + (yn1 : Int) := by omega
              clear hB hA hC hm
              go_wp2
              go_round
              case rel => exact ⟨q - 1, r + yn1, val_int (by omega), val_int (by omega), n.out⟩
              case measure => simp only [intOf]; omega
            · have n := Lib.hid (G.out.stop E2.out (Or.inr hC) (by omega))
              have hBz : (4294967296 : Int) ≤ (r : Int) + (yn1 : Int) := by omega
              clear hB hA hC hm
              go_wp2_with fail
              go_meet
              exact ⟨val_int (by have := n.out; omega), rfl⟩
          · have n := Lib.hid (G.out.done E2.out hA hC)
            have hCz : ¬ 4294967296 * (r : Int) + (v0 : Int) < (m : Int) := fun h => hC (hm ▸ cast_lt' _ _ _ _ h)
            clear hA hC hm
            go_wp2_with fail
            go_meet
            exact ⟨val_int (by have := n.out; omega), rfl⟩
    case rest =>
      obtain ⟨rfl, rfl⟩ := hcut
      have zf : (R2 : Int) / 2 ^ s = (R0 : Int) := by rw [← FIN.out.2, Int.natCast_ediv, Int.natCast_pow]; rfl
      have zg : (Q1 : Int) * 4294967296 + (Q2 : Int) = (Q0 : Int) := by have := FIN.out.1; omega
      go_wp2
      go_ret2
      exact ⟨rfl, rfl⟩

/-- math/bits.Div64 where it does not panic. -/
theorem div64_any (hi lo y : Nat) (w : World) (h2 : hi < y) (hl : lo < 18446744073709551616) (hy : y < 18446744073709551616) :
    Calls Tryd.prog 47 #[.int .u64 hi, .int .u64 lo, .int .u64 y] w fun e w' => e = .returned (.tuple #[.int .u64 (((hi * 18446744073709551616 + lo) / y : Nat) : Int), .int .u64 (((hi * 18446744073709551616 + lo) % y : Nat) : Int)]) ∧ ∃ n, w' = w.drewN n := by
  by_cases h : 1 ≤ hi
  · exact (div64_big hi lo y w h h2 hl hy).mono fun _ _ ⟨he, hw⟩ => ⟨he, 0, hw ▸ rfl⟩
  · obtain rfl : hi = 0 := by omega
    rw [Nat.zero_mul, Nat.zero_add]
    exact div64_small lo y w hl (by omega) hy
end Go.Proofs.YtjgajcabecklcaaDoor
