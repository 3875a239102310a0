/-
  P8.2, P8.4 to P8.6: RoadFastest: for every network of at most 60 edges, or of so many that they are refused and at most 600 (else the chapter's examples alone), and any three nodes asked for, travel times satisfy the triangle inequality and are attained by ways; and the chapter's examples hold. Conditions: none but the row's own.
-/
import Derived.Test.YthomklpaafnjhaaRdY
namespace Go.Proofs.Ythomklpaafnjhaa.roadFastest
open Go.ChangeShapes Go.WideShapes Go.ChangeAt Go.RowKit
set_option linter.unusedVariables false

theorem tmA_nil {n v : Int} {l : List Ed} {D : Nat → Option Nat} (h : ¬ tmE n l v = 0) : tmA n l v D = [] := if_neg h
theorem wyA_nil {n u v : Int} {l : List Ed} {D : Nat → Option Nat} (h : ¬ wyE n l u v D = 0) : wyA n l u v D = [] := if_neg h
theorem wyE_ok {n u v : Int} {l : List Ed} {D : Nat → Option Nat} (h : wyE n l u v D = 0) : tmE n l u = 0 ∧ nodeB n v = true := by
  unfold wyE at h
  unfold tmE
  by_cases h0 : ck n l = 0
  · rw [if_pos h0] at h ⊢
    by_cases h1 : nodeB n u = true ∧ nodeB n v = true
    · rw [if_pos h1.1]; exact ⟨rfl, h1.2⟩
    · rw [if_neg h1] at h; exact absurd h (by decide)
  · rw [if_neg h0] at h; exact absurd h h0
attribute [local irreducible] wpQuiet
set_option maxRecDepth 100000 in
set_option maxHeartbeats 16000000 in
theorem walk (w : World) (n0 : Int) (A0 : Option Addr) (l0 : List Ed) (c0 : Nat) (hi0 : EdR w A0 l0) (hl0 : l0.length ≤ 9223372036854775807) (nlo0 : -9223372036854775808 ≤ n0) (nhi0 : n0 ≤ 9223372036854775807) (x1 y1 z1 : Int) :
    Calls Try.prog 6 #[.agg #[.int .i64 n0, .slice A0 l0.length c0], .agg #[.int .i64 x1, .int .i64 y1, .int .i64 z1]] w fun e w' => e = .returned (.bool true) ∧ Below w.heap.size w w' := by
  obtain ⟨m, hm⟩ : ∃ n, l0.length = n := ⟨_, rfl⟩
  rw [hm] at hl0 ⊢
  obtain ⟨D, hD⟩ := Ds.exist (arcs l0) x1.toNat
  obtain ⟨E, hE⟩ := Ds.exist (arcs l0) y1.toNat
  obtain ⟨R, hR⟩ := Ds.exist (rev (arcs l0)) z1.toNat
  have HIN := Lib.hid hi0
  have HTX := Lib.hid (fun W (hA : EdR W A0 l0) => times_any n0 x1 A0 m c0 l0 D W hm hA hD)
  have HTY := Lib.hid (fun W (hA : EdR W A0 l0) => times_any n0 y1 A0 m c0 l0 E W hm hA hE)
  have HWY := Lib.hid (fun W (hA : EdR W A0 l0) => way_any n0 x1 z1 A0 m c0 l0 R W hm hA hR)
  have h1s : (w.alloc (.cells #[.int .i64 n0, .slice A0 m c0] 24)).heap.size = w.heap.size + 1 := by simp
  have HBX := Lib.hid ((BoxR.made w n0 A0 m c0 24).below (below_alloc _ (.cells #[.int .i64 x1, .int .i64 y1, .int .i64 z1] 41)))
  have HB1 := Lib.hid ((below_alloc w (.cells #[.int .i64 n0, .slice A0 m c0] 24)).alloc (by omega) (.cells #[.int .i64 x1, .int .i64 y1, .int .i64 z1] 41))
  have HTR := Lib.hid (TriR.made (w.alloc (.cells #[.int .i64 n0, .slice A0 m c0] 24)) x1 y1 z1 41)
  rw [h1s] at HTR
  have HFW := Lib.hid (fun W => few_any n0 A0 m c0 W)
  have HM := Lib.hid hm
  have HDD := Lib.hid (And.intro hD (And.intro hE hR))
  clear hD hE hR hm hi0 h1s
  go_enter Try.func6, Try.ntmps6
  go_wp2_with fail
  obtain ⟨w1, hw1⟩ : ∃ x, (w.alloc (.cells #[.int .i64 n0, .slice A0 m c0] 24)).alloc (.cells #[.int .i64 x1, .int .i64 y1, .int .i64 z1] 41) = x := ⟨_, rfl⟩
  rw [hw1] at HBX HB1 HTR ⊢
  clear hw1
  obtain ⟨q0, q1, q2⟩ := HTR.out
  simp only at q0 q1 q2
  go_quiet (fail)
  clear q0 q1 q2 HTR
  have HB2 := Lib.hid (Below.drewN HB1.out nq)
  have HX2 := Lib.hid (HBX.out.below (Below.drewN (Below.refl _ w1) nq))
  generalize w1.drewN nq = w2 at HB2 HX2 ⊢
  have HA2 := Lib.hid (HIN.out.below HB2.out)
  obtain ⟨x0, x1'⟩ := HX2.out
  clear HBX HB1 HIN
  cases hf : fewB m with
  | false =>
    rw [hf] at HFW
    clear hf
    go_wp2_with fail
    refine (HFW.out _).mono ?_
    rintro e w3 ⟨rfl, hB3⟩
    have HB3 := Lib.hid (Below.step HB2.out hB3)
    clear hB3
    go_wp2_with fail
    refine (awake_any _).mono ?_
    rintro e w4 ⟨rfl, hB4⟩
    have HB4 := Lib.hid (Below.step HB3.out hB4)
    clear hB4
    go_wp2_with fail
    go_ret
    exact ⟨rfl, HB4.out⟩
  | true =>
    rw [hf] at HFW
    clear hf
    go_wp2_with fail
    refine (HFW.out _).mono ?_
    rintro e w3 ⟨rfl, hB3⟩
    have HB3 := Lib.hid (Below.step HB2.out hB3)
    have HX3 := Lib.hid (HX2.out.below hB3)
    have HA3 := Lib.hid (HA2.out.below hB3)
    clear hB3 HB2 HX2 HA2 x0 x1'
    obtain ⟨x0, x1'⟩ := HX3.out
    go_wp2_with fail
    refine (HTX.out _ HA3.out).mono ?_
    rintro e w4 ⟨BX, dX, kX, rfl, hkX, hIX, hB4, _⟩
    have HB4 := Lib.hid (Below.step HB3.out hB4)
    have HX4 := Lib.hid (HX3.out.below hB4)
    have HA4 := Lib.hid (HA3.out.below hB4)
    have HKX := Lib.hid hkX
    have HIX := Lib.hid hIX
    clear hkX hIX hB4 HB3 HX3 HA3 x0 x1'
    obtain ⟨x0, x1'⟩ := HX4.out
    go_wp2_with fail
    refine (HTY.out _ HA4.out).mono ?_
    rintro e w5 ⟨BY, dY, kY, rfl, hkY, hIY, hB5, _⟩
    have HB5 := Lib.hid (Below.step HB4.out hB5)
    have HX5 := Lib.hid (HX4.out.below hB5)
    have HA5 := Lib.hid (HA4.out.below hB5)
    have HIX := Lib.hid (HIX.out.below hB5)
    have HKY := Lib.hid hkY
    have HIY := Lib.hid hIY
    clear hkY hIY hB5 HB4 HX4 HA4 x0 x1'
    obtain ⟨x0, x1'⟩ := HX5.out
    go_wp2_with fail
    refine (HWY.out _ HA5.out).mono ?_
    rintro e w6 ⟨BW, dW, kW, rfl, hkW, hIW, hB6, _⟩
    have HB6 := Lib.hid (Below.step HB5.out hB6)
    have HX6 := Lib.hid (HX5.out.below hB6)
    have HA6 := Lib.hid (HA5.out.below hB6)
    have HIX := Lib.hid (HIX.out.below hB6)
    have HIY := Lib.hid (HIY.out.below hB6)
    have HKW := Lib.hid hkW
    have HIW := Lib.hid hIW
    clear hkW hIW hB6 HB5 HX5 HA5 x0 x1' HTX HTY HWY HFW
    have HND := Lib.hid (fun W => refNode_any n0 z1 A0 m c0 W)
    by_cases hX : tmE n0 l0 x1 = 0
    · by_cases hY : tmE n0 l0 y1 = 0
      · cases hn : nodeB n0 z1 with
        | false =>
          have hW : ¬ wyE n0 l0 x1 z1 R = 0 := fun h => by have := (wyE_ok h).2; rw [hn] at this; cases this
          obtain rfl : 0 = kW := by rw [← HKW.out, wyA_nil hW]; rfl
          obtain ⟨TW, hTW⟩ : ∃ z, wyE n0 l0 x1 z1 R = z := ⟨_, rfl⟩
          rw [hTW] at hW ⊢
          have fTW1 : (TW == 0) = false := by simp [hW]
          have fTW2 : (TW != 0) = true := by simp [hW]
          clear hTW
          rw [hX, hY]
          rw [hn] at HND
          clear hX hY
          clear HIX HIY HIW HKX HKW HKY HDD HM
          obtain ⟨x0, x1'⟩ := HX6.out
          go_wp2_with fail
          refine (HND.out _).mono ?_
          rintro e w8 ⟨rfl, hB8⟩
          have HB6 := Lib.hid (Below.step HB6.out hB8)
          have HX6 := Lib.hid (HX6.out.below hB8)
          clear hB8 x0 x1'
          obtain ⟨x0, x1'⟩ := HX6.out
          go_wp2_with fail
          refine (awake_any _).mono ?_
          rintro e w9 ⟨rfl, hB9⟩
          have HB9 := Lib.hid (Below.step HB6.out hB9)
          clear hB9
          go_wp2_with fail
          go_ret
          exact ⟨rfl, HB9.out⟩
        | true =>
          obtain ⟨hck, hna⟩ : ck n0 l0 = 0 ∧ nodeB n0 x1 = true := by
            unfold tmE at hX
            by_cases h0 : ck n0 l0 = 0
            · rw [if_pos h0] at hX
              by_cases h1 : nodeB n0 x1 = true
              · exact ⟨h0, h1⟩
              · rw [if_neg h1] at hX; exact absurd hX (by decide)
            · rw [if_neg h0] at hX; exact absurd hX h0
          have hnb : nodeB n0 y1 = true := by
            unfold tmE at hY
            rw [if_pos hck] at hY
            by_cases h1 : nodeB n0 y1 = true
            · exact h1
            · rw [if_neg h1] at hY; exact absurd hY (by decide)
          obtain ⟨N, rfl, h1, h64, hm5, hO⟩ := ck_ok hck
          obtain ⟨a, rfl⟩ : ∃ z : Nat, x1 = (z : Int) := ⟨x1.toNat, by have := nodeB_true.1 hna; omega⟩
          obtain ⟨b, rfl⟩ : ∃ z : Nat, y1 = (z : Int) := ⟨y1.toNat, by have := nodeB_true.1 hnb; omega⟩
          obtain ⟨c, rfl⟩ : ∃ z : Nat, z1 = (z : Int) := ⟨z1.toNat, by have := nodeB_true.1 hn; omega⟩
          have ha : a < N := by have := nodeB_true.1 hna; omega
          have hb : b < N := by have := nodeB_true.1 hnb; omega
          have hc : c < N := by have := nodeB_true.1 hn; omega
          have hTA : tmA (N : Int) l0 (a : Int) D = tmL N D := by unfold tmA; rw [if_pos hX, Int.toNat_natCast]
          have hTB : tmA (N : Int) l0 (b : Int) E = tmL N E := by unfold tmA; rw [if_pos hY, Int.toNat_natCast]
          rw [hTA] at HIX HKX
          rw [hTB] at HIY HKY
          obtain rfl : N = kX := by rw [← HKX.out, tmL_length]
          obtain rfl : N = kY := by rw [← HKY.out, tmL_length]
          have HO := Lib.hid hO
          have HDs : Hid (Ds (arcs l0) a D ∧ Ds (arcs l0) b E ∧ Ds (rev (arcs l0)) c R) := HDD
          have HRD : Hid (R a = D c) := Lib.hid (ds_both HDs.out.1 HDs.out.2.2)
          have HBDD : Hid (∀ u p, D u = some p → 0 ≤ xS p ∧ xS p ≤ 64000) := Lib.hid (fun u p e => by
            have h3 := HDs.out.1 u
            rw [e] at h3
            obtain ⟨s, k, _, rfl, h4, h5⟩ := h3.form hO.net ha
            rw [ln_S (by omega)]
            omega)
          have HBEE : Hid (∀ u p, E u = some p → 0 ≤ xS p ∧ xS p ≤ 64000) := Lib.hid (fun u p e => by
            have h3 := HDs.out.2.1 u
            rw [e] at h3
            obtain ⟨s, k, _, rfl, h4, h5⟩ := h3.form hO.net hb
            rw [ln_S (by omega)]
            omega)
          have HDA : Hid (D a = some 0) := Lib.hid (ds_self HDs.out.1)
          obtain ⟨bX, oX, rfl, hbX, cXa⟩ := HIX.out.at (k := a) (by rw [tmL_length]; exact ha)
          obtain ⟨_, _, e9, _, cXb⟩ := HIX.out.at (k := b) (by rw [tmL_length]; exact hb)
          cases e9
          obtain ⟨_, _, e9, _, cXc⟩ := HIX.out.at (k := c) (by rw [tmL_length]; exact hc)
          cases e9
          obtain ⟨bY, oY, rfl, hbY, cYc⟩ := HIY.out.at (k := c) (by rw [tmL_length]; exact hc)
          rw [tmL_get _ _ _ ha, HDA.out] at cXa
          rw [tmL_get _ _ _ hb] at cXb
          rw [tmL_get _ _ _ hc] at cXc cYc
          have cXa' : w6.cell? ⟨bX, oX + a, none⟩ = some (.int .i64 0) := by rw [cXa]; show some (Value.int .i64 (xS 0)) = _; rw [x_zero.1]
          obtain ⟨W, hWW⟩ : ∃ z, wyE (N : Int) l0 (a : Int) (c : Int) R = z := ⟨_, rfl⟩
          have HWW := Lib.hid hWW
          have HW15 : Hid (D c = none → W = 15 ∧ wyA (N : Int) l0 (a : Int) (c : Int) R = []) := Lib.hid (fun e => by
            have e2 : wyE (N : Int) l0 (a : Int) (c : Int) R = 15 := by
              unfold wyE
              rw [if_pos hck, if_pos ⟨hna, hn⟩, Int.toNat_natCast, HRD.out, if_pos e]
            exact ⟨hWW.symm.trans e2, if_neg (by rw [e2]; decide)⟩)
          have HW0 : Hid (∀ r, D c = some r → W = 0 ∧ wyA (N : Int) l0 (a : Int) (c : Int) R = pth R l0 (r % 1048576) a) := Lib.hid (fun r e => by
            have e2 : wyE (N : Int) l0 (a : Int) (c : Int) R = 0 := by
              unfold wyE
              rw [if_pos hck, if_pos ⟨hna, hn⟩, Int.toNat_natCast, HRD.out, e]
              rfl
            refine ⟨hWW.symm.trans e2, ?_⟩
            unfold wyA
            rw [if_pos e2, Int.toNat_natCast, HRD.out, e]
            rfl)
          rw [hX, hY, hWW]
          rw [hn] at HND
          have haz : (a : Int) < (N : Int) := by omega
          have hbz : (b : Int) < (N : Int) := by omega
          have hcz : (c : Int) < (N : Int) := by omega
          obtain ⟨xb, hxb⟩ : ∃ z, lS (D b) = z := ⟨_, rfl⟩
          obtain ⟨xc, hxc⟩ : ∃ z, lS (D c) = z := ⟨_, rfl⟩
          obtain ⟨yc, hyc⟩ : ∃ z, lS (E c) = z := ⟨_, rfl⟩
          rw [hxb] at cXb
          rw [hxc] at cXc
          rw [hyc] at cYc
          have HXB := Lib.hid hxb
          have HXC := Lib.hid hxc
          have HYC := Lib.hid hyc
          clear hxb hxc hyc hX hY hn hna hnb hck hO hTA hTB hWW cXa HKX HKY
          obtain ⟨x0, x1'⟩ := HX6.out
          go_wp2_with fail
          refine (HND.out _).mono ?_
          rintro e w7 ⟨rfl, hB7⟩
          have HB7 := Lib.hid (Below.step HB6.out hB7)
          have HX7 := Lib.hid (HX6.out.below hB7)
          have HIX := Lib.hid (HIX.out.below hB7)
          have HIY := Lib.hid (HIY.out.below hB7)
          have HIW := Lib.hid (HIW.out.below hB7)
          have HA7 := Lib.hid (HA6.out.below hB7)
          rw [← hB7.cell (p := ⟨bX, oX + a, none⟩) hbX] at cXa'
          rw [← hB7.cell (p := ⟨bX, oX + b, none⟩) hbX] at cXb
          rw [← hB7.cell (p := ⟨bX, oX + c, none⟩) hbX] at cXc
          rw [← hB7.cell (p := ⟨bY, oY + c, none⟩) hbY] at cYc
          have hbX := Nat.lt_of_lt_of_le hbX hB7.size
          have hbY := Nat.lt_of_lt_of_le hbY hB7.size
          clear hB7 x0 x1' HX6 HB6 HA6
          obtain ⟨x0, x1'⟩ := HX7.out
          go_wp2_with fail
          by_cases hb0 : 0 ≤ xb
          · obtain ⟨p, hp⟩ : ∃ p, D b = some p := by
              cases hd : D b with
              | none => rw [← HXB.out, hd] at hb0; exact absurd hb0 (by decide)
              | some p => exact ⟨p, rfl⟩
            have hxp : xb = xS p := by rw [← HXB.out, hp]; rfl
            have hpb := HBDD.out _ _ hp
            have t1 : decide (0 ≤ xb) = true := by simp [hb0]
            by_cases hy0 : 0 ≤ yc
            · obtain ⟨q, hq⟩ : ∃ q, E c = some q := by
                cases hd : E c with
                | none => rw [← HYC.out, hd] at hy0; exact absurd hy0 (by decide)
                | some q => exact ⟨q, rfl⟩
              have hyq : yc = xS q := by rw [← HYC.out, hq]; rfl
              have hqb := HBEE.out _ _ hq
              obtain ⟨r, hr, hle⟩ := ds_tri HO.out h64 ha hb HDs.out.1 HDs.out.2.1 hp hq
              have hxr : xc = xS r := by rw [← HXC.out, hr]; rfl
              have hrb := HBDD.out _ _ hr
              rw [← hxp, ← hyq, ← hxr] at hle
              rw [← hxp] at hpb
              rw [← hyq] at hqb
              rw [← hxr] at hrb
              have t2 : decide (0 ≤ yc) = true := by simp [hy0]
              have t3 : decide (xc < 0) = false := by simp; omega
              have t4 : decide (xb + yc < xc) = false := by simp; omega
              obtain ⟨hpb0, hpb1⟩ := hpb
              obtain ⟨hqb0, hqb1⟩ := hqb
              clear hp hq hr hxp hyq hxr hrb
              go_quiet (fail)
              go_wp2_with fail
              obtain ⟨w8, hw8⟩ : ∃ y, w7.drewN nq = y := ⟨_, rfl⟩
              have hB78 : Below w7.heap.size w7 w8 := hw8 ▸ Below.drewN (Below.refl _ w7) nq
              have HB8 := Lib.hid (Below.step HB7.out hB78)
              have HX8 := Lib.hid (HX7.out.below hB78)
              have HIX8 := Lib.hid (HIX.out.below hB78)
              have HIW8 := Lib.hid (HIW.out.below hB78)
              have HA8 := Lib.hid (HA7.out.below hB78)
              rw [hw8]
              clear hw8 hB78 cXa' cXb cXc cYc hbX hbY x0 x1' HX7 HB7 HA7 HND HIX HIY HIW
              go_loopw [14] (fun v14 wr => ∃ i : Nat, i ≤ m ∧ v14 = .int .i64 (i : Int) ∧ Hid (Below w8.heap.size w8 wr)) (fun v14 _ => m - (intOf v14).toNat)
              case atStart => exact ⟨0, by omega, rfl, Lib.hid (Below.refl _ _)⟩
              case round =>
                obtain ⟨i, hi, rfl, HBW⟩ := hrel
                obtain ⟨x0, x1'⟩ := HX8.out.below HBW.out
                by_cases hlt : i < m
                · have hiz : (i : Int) < (m : Int) := by omega
                  have hil : i < l0.length := by rw [HM.out]; exact hlt
                  obtain ⟨bE, oE, rfl, hbE, e0, e1, e2⟩ := (HA8.out.below HBW.out).at hil
                  have hst := fun p => ds_step HO.out h64 ha HDs.out.1 hil (p := p)
                  obtain ⟨u0, u1, u2, u3, u4, u5⟩ := HO.out i hil
                  obtain ⟨⟨ef, et, es⟩, hy⟩ : ∃ y, l0.getD i ed0 = y := ⟨_, rfl⟩
                  rw [hy] at e0 e1 e2 u0 u1 u2 u3 u4 u5 hst
                  simp only at e0 e1 e2 u0 u1 u2 u3 u4 u5 hst
                  obtain ⟨qf, rfl⟩ : ∃ z : Nat, ef = (z : Int) := ⟨ef.toNat, by omega⟩
                  obtain ⟨qt, rfl⟩ : ∃ z : Nat, et = (z : Int) := ⟨et.toNat, by omega⟩
                  rw [Int.toNat_natCast, Int.toNat_natCast] at hst
                  have hqf : qf < N := by omega
                  have hqt : qt < N := by omega
                  have hIr := HIX8.out.below HBW.out
                  obtain ⟨_, _, e9, _, cf⟩ := hIr.at (k := qf) (by rw [tmL_length]; exact hqf)
                  cases e9
                  obtain ⟨_, _, e9, hbXr, ct⟩ := hIr.at (k := qt) (by rw [tmL_length]; exact hqt)
                  cases e9
                  rw [tmL_get _ _ _ hqf] at cf
                  rw [tmL_get _ _ _ hqt] at ct
                  have hB9 := below_alloc wr (.cells #[.int .i64 (qf : Int), .int .i64 (qt : Int), .int .i64 es] 43)
                  obtain ⟨d0, d1, d2⟩ := TriR.made wr (qf : Int) (qt : Int) es 43
                  simp only at d0 d1 d2
                  rw [← hB9.cell (p := ⟨bX, oX + qf, none⟩) hbXr] at cf
                  rw [← hB9.cell (p := ⟨bX, oX + qt, none⟩) hbXr] at ct
                  have HB9 := Lib.hid hB9
                  clear hil hy hIr hB9
                  cases hDf : D qf with
                  | none =>
                    have hz : lS none = -1 := rfl
                    rw [hDf, hz] at cf
                    obtain ⟨zt, hzt⟩ : ∃ z, lS (D qt) = z := ⟨_, rfl⟩
                    rw [hzt] at ct
                    clear hst hDf hzt
                    go_wp2_with fail
                    go_quiet (fail)
                    go_wp2_with fail
                    go_roundw
                    case rel => exact ⟨i + 1, by omega, by go_num, Lib.hid (Below.drewN (Below.step HBW.out HB9.out) _)⟩
                    case measure => simp only [intOf]; omega
                  | some p =>
                    obtain ⟨r, hr, hle⟩ := hst p hDf
                    have hzf : lS (some p) = xS p := rfl
                    have hzr : lS (some r) = xS r := rfl
                    rw [hDf, hzf] at cf
                    rw [hr, hzr] at ct
                    obtain ⟨p0, p1⟩ := HBDD.out _ _ hDf
                    obtain ⟨r0, r1⟩ := HBDD.out _ _ hr
                    generalize xS p = zf at cf hle p0 p1
                    generalize xS r = zt at ct hle r0 r1
                    have t1 : decide (0 ≤ zf) = true := by simp [p0]
                    have t2 : decide (zt < 0) = false := by simp; omega
                    have t3 : decide (zf + es < zt) = false := by simp; omega
                    clear hst hDf hr hzf hzr
                    go_wp2_with fail
                    go_quiet (fail)
                    go_wp2_with fail
                    go_roundw
                    case rel => exact ⟨i + 1, by omega, by go_num, Lib.hid (Below.drewN (Below.step HBW.out HB9.out) _)⟩
                    case measure => simp only [intOf]; omega
                · obtain rfl : i = m := by omega
                  have hnlt : ¬ (i : Int) < (i : Int) := by omega
                  have HBF := Lib.hid (Below.step HB8.out HBW.out)
                  obtain ⟨_, _, e9, hbXr, cXc⟩ := (HIX8.out.below HBW.out).at (k := c) (by rw [tmL_length]; exact hc)
                  cases e9
                  rw [tmL_get _ _ _ hc] at cXc
                  cases hDc : D c with
                  | none =>
                    obtain ⟨rfl, hwn⟩ := HW15.out hDc
                    have hz : lS none = -1 := rfl
                    rw [hDc, hz] at cXc
                    obtain rfl : 0 = kW := by rw [← HKW.out, hwn]; rfl
                    clear hwn hDc HIX8 HIW8 HW0 HW15
                    go_wp2_with fail
                    refine (awake_any _).mono ?_
                    rintro e w11 ⟨rfl, hB11⟩
                    have HB11 := Lib.hid (Below.step HBF.out hB11)
                    clear hB11
                    go_wp2_with fail
                    go_ret
                    exact ⟨rfl, HB11.out⟩
                  | some r =>
                    obtain ⟨rfl, hwn⟩ := HW0.out r hDc
                    obtain ⟨p0, p1⟩ := HBDD.out _ _ hDc
                    have hzr : lS (some r) = xS r := rfl
                    rw [hDc, hzr] at cXc
                    have HIWr := Lib.hid (HIW8.out.below HBW.out)
                    rw [hwn] at HIWr HKW
                    have hRa : R a = some r := HRD.out.trans hDc
                    have HPW : Hid (wkR l0 (a : Int) (pth R l0 (r % 1048576) a) = (xS r, (c : Int), true)) := Lib.hid (by
                      unfold wkR
                      rw [pth_walk HO.out h64 hc HDs.out.2.2 (r % 1048576) a r 0 hRa rfl]
                      simp)
                    have hkW : kW ≤ 1000 := by
                      rw [← HKW.out, pth_len HO.out h64 hc HDs.out.2.2 _ a r hRa rfl]
                      have h3 := HDs.out.2.2 a
                      rw [hRa] at h3
                      obtain ⟨s, k, _, e, h4, h5⟩ := h3.form HO.out.net.rev hc
                      rw [e, (ln_parts (by omega)).2]
                      omega
                    have HWK := Lib.hid (fun W (hE : EdR W A0 l0) (hI : IntR W BW (pth R l0 (r % 1048576) a)) => refWalk_any N (a : Int) A0 BW i c0 kW dW l0 (pth R l0 (r % 1048576) a) W HM.out (by rw [← HM.out]; exact hm5) HO.out hE HKW.out hkW hI)
                    rw [HPW.out] at HWK
                    have HAr := Lib.hid (HA8.out.below HBW.out)
                    generalize xS r = z at cXc p0 p1 HWK
                    have t5 : decide (z < 0) = false := by simp; omega
                    clear hwn hDc hRa hkW HIX8 HIW8 HW0 HW15 HPW hzr
                    go_wp2_with fail
                    refine (HWK.out _ HAr.out HIWr.out).mono ?_
                    rintro e w10 ⟨rfl, hB10⟩
                    rw [← hB10.cell (p := ⟨bX, oX + c, none⟩) hbXr] at cXc
                    have HB10 := Lib.hid (Below.step HBF.out hB10)
                    clear hB10
                    go_wp2_with fail
                    refine (awake_any _).mono ?_
                    rintro e w11 ⟨rfl, hB11⟩
                    have HB11 := Lib.hid (Below.step HB10.out hB11)
                    clear hB11
                    go_wp2_with fail
                    go_ret
                    exact ⟨rfl, HB11.out⟩
            · have t2 : decide (0 ≤ yc) = false := by simp [hy0]
              clear hp hxp hpb
              go_quiet (fail)
              go_wp2_with fail
              obtain ⟨w8, hw8⟩ : ∃ y, w7.drewN nq = y := ⟨_, rfl⟩
              have hB78 : Below w7.heap.size w7 w8 := hw8 ▸ Below.drewN (Below.refl _ w7) nq
              have HB8 := Lib.hid (Below.step HB7.out hB78)
              have HX8 := Lib.hid (HX7.out.below hB78)
              have HIX8 := Lib.hid (HIX.out.below hB78)
              have HIW8 := Lib.hid (HIW.out.below hB78)
              have HA8 := Lib.hid (HA7.out.below hB78)
              rw [hw8]
              clear hw8 hB78 cXa' cXb cXc cYc hbX hbY x0 x1' HX7 HB7 HA7 HND HIX HIY HIW
              go_loopw [14] (fun v14 wr => ∃ i : Nat, i ≤ m ∧ v14 = .int .i64 (i : Int) ∧ Hid (Below w8.heap.size w8 wr)) (fun v14 _ => m - (intOf v14).toNat)
              case atStart => exact ⟨0, by omega, rfl, Lib.hid (Below.refl _ _)⟩
              case round =>
                obtain ⟨i, hi, rfl, HBW⟩ := hrel
                obtain ⟨x0, x1'⟩ := HX8.out.below HBW.out
                by_cases hlt : i < m
                · have hiz : (i : Int) < (m : Int) := by omega
                  have hil : i < l0.length := by rw [HM.out]; exact hlt
                  obtain ⟨bE, oE, rfl, hbE, e0, e1, e2⟩ := (HA8.out.below HBW.out).at hil
                  have hst := fun p => ds_step HO.out h64 ha HDs.out.1 hil (p := p)
                  obtain ⟨u0, u1, u2, u3, u4, u5⟩ := HO.out i hil
                  obtain ⟨⟨ef, et, es⟩, hy⟩ : ∃ y, l0.getD i ed0 = y := ⟨_, rfl⟩
                  rw [hy] at e0 e1 e2 u0 u1 u2 u3 u4 u5 hst
                  simp only at e0 e1 e2 u0 u1 u2 u3 u4 u5 hst
                  obtain ⟨qf, rfl⟩ : ∃ z : Nat, ef = (z : Int) := ⟨ef.toNat, by omega⟩
                  obtain ⟨qt, rfl⟩ : ∃ z : Nat, et = (z : Int) := ⟨et.toNat, by omega⟩
                  rw [Int.toNat_natCast, Int.toNat_natCast] at hst
                  have hqf : qf < N := by omega
                  have hqt : qt < N := by omega
                  have hIr := HIX8.out.below HBW.out
                  obtain ⟨_, _, e9, _, cf⟩ := hIr.at (k := qf) (by rw [tmL_length]; exact hqf)
                  cases e9
                  obtain ⟨_, _, e9, hbXr, ct⟩ := hIr.at (k := qt) (by rw [tmL_length]; exact hqt)
                  cases e9
                  rw [tmL_get _ _ _ hqf] at cf
                  rw [tmL_get _ _ _ hqt] at ct
                  have hB9 := below_alloc wr (.cells #[.int .i64 (qf : Int), .int .i64 (qt : Int), .int .i64 es] 43)
                  obtain ⟨d0, d1, d2⟩ := TriR.made wr (qf : Int) (qt : Int) es 43
                  simp only at d0 d1 d2
                  rw [← hB9.cell (p := ⟨bX, oX + qf, none⟩) hbXr] at cf
                  rw [← hB9.cell (p := ⟨bX, oX + qt, none⟩) hbXr] at ct
                  have HB9 := Lib.hid hB9
                  clear hil hy hIr hB9
                  cases hDf : D qf with
                  | none =>
                    have hz : lS none = -1 := rfl
                    rw [hDf, hz] at cf
                    obtain ⟨zt, hzt⟩ : ∃ z, lS (D qt) = z := ⟨_, rfl⟩
                    rw [hzt] at ct
                    clear hst hDf hzt
                    go_wp2_with fail
                    go_quiet (fail)
                    go_wp2_with fail
                    go_roundw
                    case rel => exact ⟨i + 1, by omega, by go_num, Lib.hid (Below.drewN (Below.step HBW.out HB9.out) _)⟩
                    case measure => simp only [intOf]; omega
                  | some p =>
                    obtain ⟨r, hr, hle⟩ := hst p hDf
                    have hzf : lS (some p) = xS p := rfl
                    have hzr : lS (some r) = xS r := rfl
                    rw [hDf, hzf] at cf
                    rw [hr, hzr] at ct
                    obtain ⟨p0, p1⟩ := HBDD.out _ _ hDf
                    obtain ⟨r0, r1⟩ := HBDD.out _ _ hr
                    generalize xS p = zf at cf hle p0 p1
                    generalize xS r = zt at ct hle r0 r1
                    have t1 : decide (0 ≤ zf) = true := by simp [p0]
                    have t2 : decide (zt < 0) = false := by simp; omega
                    have t3 : decide (zf + es < zt) = false := by simp; omega
                    clear hst hDf hr hzf hzr
                    go_wp2_with fail
                    go_quiet (fail)
                    go_wp2_with fail
                    go_roundw
                    case rel => exact ⟨i + 1, by omega, by go_num, Lib.hid (Below.drewN (Below.step HBW.out HB9.out) _)⟩
                    case measure => simp only [intOf]; omega
                · obtain rfl : i = m := by omega
                  have hnlt : ¬ (i : Int) < (i : Int) := by omega
                  have HBF := Lib.hid (Below.step HB8.out HBW.out)
                  obtain ⟨_, _, e9, hbXr, cXc⟩ := (HIX8.out.below HBW.out).at (k := c) (by rw [tmL_length]; exact hc)
                  cases e9
                  rw [tmL_get _ _ _ hc] at cXc
                  cases hDc : D c with
                  | none =>
                    obtain ⟨rfl, hwn⟩ := HW15.out hDc
                    have hz : lS none = -1 := rfl
                    rw [hDc, hz] at cXc
                    obtain rfl : 0 = kW := by rw [← HKW.out, hwn]; rfl
                    clear hwn hDc HIX8 HIW8 HW0 HW15
                    go_wp2_with fail
                    refine (awake_any _).mono ?_
                    rintro e w11 ⟨rfl, hB11⟩
                    have HB11 := Lib.hid (Below.step HBF.out hB11)
                    clear hB11
                    go_wp2_with fail
                    go_ret
                    exact ⟨rfl, HB11.out⟩
                  | some r =>
                    obtain ⟨rfl, hwn⟩ := HW0.out r hDc
                    obtain ⟨p0, p1⟩ := HBDD.out _ _ hDc
                    have hzr : lS (some r) = xS r := rfl
                    rw [hDc, hzr] at cXc
                    have HIWr := Lib.hid (HIW8.out.below HBW.out)
                    rw [hwn] at HIWr HKW
                    have hRa : R a = some r := HRD.out.trans hDc
                    have HPW : Hid (wkR l0 (a : Int) (pth R l0 (r % 1048576) a) = (xS r, (c : Int), true)) := Lib.hid (by
                      unfold wkR
                      rw [pth_walk HO.out h64 hc HDs.out.2.2 (r % 1048576) a r 0 hRa rfl]
                      simp)
                    have hkW : kW ≤ 1000 := by
                      rw [← HKW.out, pth_len HO.out h64 hc HDs.out.2.2 _ a r hRa rfl]
                      have h3 := HDs.out.2.2 a
                      rw [hRa] at h3
                      obtain ⟨s, k, _, e, h4, h5⟩ := h3.form HO.out.net.rev hc
                      rw [e, (ln_parts (by omega)).2]
                      omega
                    have HWK := Lib.hid (fun W (hE : EdR W A0 l0) (hI : IntR W BW (pth R l0 (r % 1048576) a)) => refWalk_any N (a : Int) A0 BW i c0 kW dW l0 (pth R l0 (r % 1048576) a) W HM.out (by rw [← HM.out]; exact hm5) HO.out hE HKW.out hkW hI)
                    rw [HPW.out] at HWK
                    have HAr := Lib.hid (HA8.out.below HBW.out)
                    generalize xS r = z at cXc p0 p1 HWK
                    have t5 : decide (z < 0) = false := by simp; omega
                    clear hwn hDc hRa hkW HIX8 HIW8 HW0 HW15 HPW hzr
                    go_wp2_with fail
                    refine (HWK.out _ HAr.out HIWr.out).mono ?_
                    rintro e w10 ⟨rfl, hB10⟩
                    rw [← hB10.cell (p := ⟨bX, oX + c, none⟩) hbXr] at cXc
                    have HB10 := Lib.hid (Below.step HBF.out hB10)
                    clear hB10
                    go_wp2_with fail
                    refine (awake_any _).mono ?_
                    rintro e w11 ⟨rfl, hB11⟩
                    have HB11 := Lib.hid (Below.step HB10.out hB11)
                    clear hB11
                    go_wp2_with fail
                    go_ret
                    exact ⟨rfl, HB11.out⟩
          · have t1 : decide (0 ≤ xb) = false := by simp [hb0]
            go_quiet (fail)
            go_wp2_with fail
            obtain ⟨w8, hw8⟩ : ∃ y, w7.drewN nq = y := ⟨_, rfl⟩
            have hB78 : Below w7.heap.size w7 w8 := hw8 ▸ Below.drewN (Below.refl _ w7) nq
            have HB8 := Lib.hid (Below.step HB7.out hB78)
            have HX8 := Lib.hid (HX7.out.below hB78)
            have HIX8 := Lib.hid (HIX.out.below hB78)
            have HIW8 := Lib.hid (HIW.out.below hB78)
            have HA8 := Lib.hid (HA7.out.below hB78)
            rw [hw8]
            clear hw8 hB78 cXa' cXb cXc cYc hbX hbY x0 x1' HX7 HB7 HA7 HND HIX HIY HIW
            go_loopw [14] (fun v14 wr => ∃ i : Nat, i ≤ m ∧ v14 = .int .i64 (i : Int) ∧ Hid (Below w8.heap.size w8 wr)) (fun v14 _ => m - (intOf v14).toNat)
            case atStart => exact ⟨0, by omega, rfl, Lib.hid (Below.refl _ _)⟩
            case round =>
              obtain ⟨i, hi, rfl, HBW⟩ := hrel
              obtain ⟨x0, x1'⟩ := HX8.out.below HBW.out
              by_cases hlt : i < m
              · have hiz : (i : Int) < (m : Int) := by omega
                have hil : i < l0.length := by rw [HM.out]; exact hlt
                obtain ⟨bE, oE, rfl, hbE, e0, e1, e2⟩ := (HA8.out.below HBW.out).at hil
                have hst := fun p => ds_step HO.out h64 ha HDs.out.1 hil (p := p)
                obtain ⟨u0, u1, u2, u3, u4, u5⟩ := HO.out i hil
                obtain ⟨⟨ef, et, es⟩, hy⟩ : ∃ y, l0.getD i ed0 = y := ⟨_, rfl⟩
                rw [hy] at e0 e1 e2 u0 u1 u2 u3 u4 u5 hst
                simp only at e0 e1 e2 u0 u1 u2 u3 u4 u5 hst
                obtain ⟨qf, rfl⟩ : ∃ z : Nat, ef = (z : Int) := ⟨ef.toNat, by omega⟩
                obtain ⟨qt, rfl⟩ : ∃ z : Nat, et = (z : Int) := ⟨et.toNat, by omega⟩
                rw [Int.toNat_natCast, Int.toNat_natCast] at hst
                have hqf : qf < N := by omega
                have hqt : qt < N := by omega
                have hIr := HIX8.out.below HBW.out
                obtain ⟨_, _, e9, _, cf⟩ := hIr.at (k := qf) (by rw [tmL_length]; exact hqf)
                cases e9
                obtain ⟨_, _, e9, hbXr, ct⟩ := hIr.at (k := qt) (by rw [tmL_length]; exact hqt)
                cases e9
                rw [tmL_get _ _ _ hqf] at cf
                rw [tmL_get _ _ _ hqt] at ct
                have hB9 := below_alloc wr (.cells #[.int .i64 (qf : Int), .int .i64 (qt : Int), .int .i64 es] 43)
                obtain ⟨d0, d1, d2⟩ := TriR.made wr (qf : Int) (qt : Int) es 43
                simp only at d0 d1 d2
                rw [← hB9.cell (p := ⟨bX, oX + qf, none⟩) hbXr] at cf
                rw [← hB9.cell (p := ⟨bX, oX + qt, none⟩) hbXr] at ct
                have HB9 := Lib.hid hB9
                clear hil hy hIr hB9
                cases hDf : D qf with
                | none =>
                  have hz : lS none = -1 := rfl
                  rw [hDf, hz] at cf
                  obtain ⟨zt, hzt⟩ : ∃ z, lS (D qt) = z := ⟨_, rfl⟩
                  rw [hzt] at ct
                  clear hst hDf hzt
                  go_wp2_with fail
                  go_quiet (fail)
                  go_wp2_with fail
                  go_roundw
                  case rel => exact ⟨i + 1, by omega, by go_num, Lib.hid (Below.drewN (Below.step HBW.out HB9.out) _)⟩
                  case measure => simp only [intOf]; omega
                | some p =>
                  obtain ⟨r, hr, hle⟩ := hst p hDf
                  have hzf : lS (some p) = xS p := rfl
                  have hzr : lS (some r) = xS r := rfl
                  rw [hDf, hzf] at cf
                  rw [hr, hzr] at ct
                  obtain ⟨p0, p1⟩ := HBDD.out _ _ hDf
                  obtain ⟨r0, r1⟩ := HBDD.out _ _ hr
                  generalize xS p = zf at cf hle p0 p1
                  generalize xS r = zt at ct hle r0 r1
                  have t1 : decide (0 ≤ zf) = true := by simp [p0]
                  have t2 : decide (zt < 0) = false := by simp; omega
                  have t3 : decide (zf + es < zt) = false := by simp; omega
                  clear hst hDf hr hzf hzr
                  go_wp2_with fail
                  go_quiet (fail)
                  go_wp2_with fail
                  go_roundw
                  case rel => exact ⟨i + 1, by omega, by go_num, Lib.hid (Below.drewN (Below.step HBW.out HB9.out) _)⟩
                  case measure => simp only [intOf]; omega
              · obtain rfl : i = m := by omega
                have hnlt : ¬ (i : Int) < (i : Int) := by omega
                have HBF := Lib.hid (Below.step HB8.out HBW.out)
                obtain ⟨_, _, e9, hbXr, cXc⟩ := (HIX8.out.below HBW.out).at (k := c) (by rw [tmL_length]; exact hc)
                cases e9
                rw [tmL_get _ _ _ hc] at cXc
                cases hDc : D c with
                | none =>
                  obtain ⟨rfl, hwn⟩ := HW15.out hDc
                  have hz : lS none = -1 := rfl
                  rw [hDc, hz] at cXc
                  obtain rfl : 0 = kW := by rw [← HKW.out, hwn]; rfl
                  clear hwn hDc HIX8 HIW8 HW0 HW15
                  go_wp2_with fail
                  refine (awake_any _).mono ?_
                  rintro e w11 ⟨rfl, hB11⟩
                  have HB11 := Lib.hid (Below.step HBF.out hB11)
                  clear hB11
                  go_wp2_with fail
                  go_ret
                  exact ⟨rfl, HB11.out⟩
                | some r =>
                  obtain ⟨rfl, hwn⟩ := HW0.out r hDc
                  obtain ⟨p0, p1⟩ := HBDD.out _ _ hDc
                  have hzr : lS (some r) = xS r := rfl
                  rw [hDc, hzr] at cXc
                  have HIWr := Lib.hid (HIW8.out.below HBW.out)
                  rw [hwn] at HIWr HKW
                  have hRa : R a = some r := HRD.out.trans hDc
                  have HPW : Hid (wkR l0 (a : Int) (pth R l0 (r % 1048576) a) = (xS r, (c : Int), true)) := Lib.hid (by
                    unfold wkR
                    rw [pth_walk HO.out h64 hc HDs.out.2.2 (r % 1048576) a r 0 hRa rfl]
                    simp)
                  have hkW : kW ≤ 1000 := by
                    rw [← HKW.out, pth_len HO.out h64 hc HDs.out.2.2 _ a r hRa rfl]
                    have h3 := HDs.out.2.2 a
                    rw [hRa] at h3
                    obtain ⟨s, k, _, e, h4, h5⟩ := h3.form HO.out.net.rev hc
                    rw [e, (ln_parts (by omega)).2]
                    omega
                  have HWK := Lib.hid (fun W (hE : EdR W A0 l0) (hI : IntR W BW (pth R l0 (r % 1048576) a)) => refWalk_any N (a : Int) A0 BW i c0 kW dW l0 (pth R l0 (r % 1048576) a) W HM.out (by rw [← HM.out]; exact hm5) HO.out hE HKW.out hkW hI)
                  rw [HPW.out] at HWK
                  have HAr := Lib.hid (HA8.out.below HBW.out)
                  generalize xS r = z at cXc p0 p1 HWK
                  have t5 : decide (z < 0) = false := by simp; omega
                  clear hwn hDc hRa hkW HIX8 HIW8 HW0 HW15 HPW hzr
                  go_wp2_with fail
                  refine (HWK.out _ HAr.out HIWr.out).mono ?_
                  rintro e w10 ⟨rfl, hB10⟩
                  rw [← hB10.cell (p := ⟨bX, oX + c, none⟩) hbXr] at cXc
                  have HB10 := Lib.hid (Below.step HBF.out hB10)
                  clear hB10
                  go_wp2_with fail
                  refine (awake_any _).mono ?_
                  rintro e w11 ⟨rfl, hB11⟩
                  have HB11 := Lib.hid (Below.step HB10.out hB11)
                  clear hB11
                  go_wp2_with fail
                  go_ret
                  exact ⟨rfl, HB11.out⟩
      · by_cases hW : wyE n0 l0 x1 z1 R = 0
        · have hn := (wyE_ok hW).2
          obtain rfl : 0 = kY := by rw [← HKY.out, tmA_nil hY]; rfl
          obtain ⟨TY, hTY⟩ : ∃ z, tmE n0 l0 y1 = z := ⟨_, rfl⟩
          rw [hTY] at hY ⊢
          have fTY1 : (TY == 0) = false := by simp [hY]
          have fTY2 : (TY != 0) = true := by simp [hY]
          clear hTY
          rw [hX, hW]
          rw [hn] at HND
          clear hX hW
          clear HIX HIY HIW HKX HKW HKY HDD HM
          obtain ⟨x0, x1'⟩ := HX6.out
          go_wp2_with fail
          refine (HND.out _).mono ?_
          rintro e w8 ⟨rfl, hB8⟩
          have HB6 := Lib.hid (Below.step HB6.out hB8)
          have HX6 := Lib.hid (HX6.out.below hB8)
          clear hB8 x0 x1'
          obtain ⟨x0, x1'⟩ := HX6.out
          go_wp2_with fail
          refine (awake_any _).mono ?_
          rintro e w9 ⟨rfl, hB9⟩
          have HB9 := Lib.hid (Below.step HB6.out hB9)
          clear hB9
          go_wp2_with fail
          go_ret
          exact ⟨rfl, HB9.out⟩
        · obtain rfl : 0 = kY := by rw [← HKY.out, tmA_nil hY]; rfl
          obtain rfl : 0 = kW := by rw [← HKW.out, wyA_nil hW]; rfl
          obtain ⟨TY, hTY⟩ : ∃ z, tmE n0 l0 y1 = z := ⟨_, rfl⟩
          rw [hTY] at hY ⊢
          have fTY1 : (TY == 0) = false := by simp [hY]
          have fTY2 : (TY != 0) = true := by simp [hY]
          clear hTY
          obtain ⟨TW, hTW⟩ : ∃ z, wyE n0 l0 x1 z1 R = z := ⟨_, rfl⟩
          rw [hTW] at hW ⊢
          have fTW1 : (TW == 0) = false := by simp [hW]
          have fTW2 : (TW != 0) = true := by simp [hW]
          clear hTW
          rw [hX]
          clear hX
          clear HIX HIY HIW HKX HKW HKY HDD HM
          obtain ⟨x0, x1'⟩ := HX6.out
          go_wp2_with fail
          refine (awake_any _).mono ?_
          rintro e w9 ⟨rfl, hB9⟩
          have HB9 := Lib.hid (Below.step HB6.out hB9)
          clear hB9
          go_wp2_with fail
          go_ret
          exact ⟨rfl, HB9.out⟩
    · have hW : ¬ wyE n0 l0 x1 z1 R = 0 := fun h => hX (wyE_ok h).1
      obtain rfl : 0 = kX := by rw [← HKX.out, tmA_nil hX]; rfl
      obtain rfl : 0 = kW := by rw [← HKW.out, wyA_nil hW]; rfl
      obtain ⟨TX, hTX⟩ : ∃ z, tmE n0 l0 x1 = z := ⟨_, rfl⟩
      rw [hTX] at hX ⊢
      have fTX1 : (TX == 0) = false := by simp [hX]
      have fTX2 : (TX != 0) = true := by simp [hX]
      clear hTX
      obtain ⟨TW, hTW⟩ : ∃ z, wyE n0 l0 x1 z1 R = z := ⟨_, rfl⟩
      rw [hTW] at hW ⊢
      have fTW1 : (TW == 0) = false := by simp [hW]
      have fTW2 : (TW != 0) = true := by simp [hW]
      clear hTW
      by_cases hY : tmE n0 l0 y1 = 0
      · rw [hY]
        clear hY
        clear HIX HIY HIW HKX HKW HKY HDD HM
        obtain ⟨x0, x1'⟩ := HX6.out
        go_wp2_with fail
        refine (awake_any _).mono ?_
        rintro e w9 ⟨rfl, hB9⟩
        have HB9 := Lib.hid (Below.step HB6.out hB9)
        clear hB9
        go_wp2_with fail
        go_ret
        exact ⟨rfl, HB9.out⟩
      · obtain rfl : 0 = kY := by rw [← HKY.out, tmA_nil hY]; rfl
        obtain ⟨TY, hTY⟩ : ∃ z, tmE n0 l0 y1 = z := ⟨_, rfl⟩
        rw [hTY] at hY ⊢
        have fTY1 : (TY == 0) = false := by simp [hY]
        have fTY2 : (TY != 0) = true := by simp [hY]
        clear hTY
        clear HIX HIY HIW HKX HKW HKY HDD HM
        obtain ⟨x0, x1'⟩ := HX6.out
        go_wp2_with fail
        refine (awake_any _).mono ?_
        rintro e w9 ⟨rfl, hB9⟩
        have HB9 := Lib.hid (Below.step HB6.out hB9)
        clear hB9
        go_wp2_with fail
        go_ret
        exact ⟨rfl, HB9.out⟩

set_option maxRecDepth 100000 in
theorem lifted (os : Os) (started : os.Started) (H : Type) (enc : TypeId × Value → H) (F : Stop.Interp) :
    ReturnsInHanded {} Try.checked os 6 .any ((OpenSpec.ofChange Rows.roadFastestSpec).preRow enc Try.prog Try.f6 Rows.roadFastestRow.domain false Rows.roadFastestRow.laid) (((OpenSpec.ofChange Rows.roadFastestSpec).at F).post enc Try.prog Try.f6 false true false false) := by
  refine returnsInHanded_of_row (C := Try.checked) (s := OpenSpec.ofChange Rows.roadFastestSpec) own started (by kernel_rfl) Try.func6
    (ChangeSpec.witness_shaped (enc := enc) (C := Try.checked) (os := os) (X := fun w _ => laidMetH Try.prog Rows.roadFastestRow.laid w) false (World.laidAll Try.prog os Rows.roadFastestRow.laid) #[.agg #[.int .i64 0, .slice none 0 0], .agg #[.int .i64 0, .int .i64 0, .int .i64 0]] 8 (World.laidAll_os _ _ _)
      (World.shaped_of_ZipB (by kernel_rfl) (by kernel_rfl)) (by kernel_rfl) (by kernel_rfl) (by kernel_rfl)
      (by rw [MakeChecks.laidMetH_plain _ _ _ (by kernel_rfl)]; exact laidMet_laidAll _ (by kernel_rfl) (by kernel_rfl))) ?_
  intro W base args ds gs before hval0 hW _ _ hsz0 hL hsh _
  have hval : ∀ (j : Nat) t v, Try.f6.params[j]? = some t → args[j]? = some v → Value.okWide Try.prog W .any base t v := hval0
  have hW' := hW
  obtain ⟨p, q, hA0, hV, rfl, hfz, hnd⟩ := hW
  have hA : DataW.TrodAll enc Try.prog W 0 (fun _ => true) true Try.f6.params.toList args.toList ds p := hA0
  rw [Try.params6] at hA hval
  obtain ⟨v0, vs0, d0, ds0, p0, q0, hargs, rfl, rfl, h0, r0⟩ := trodAll_cons hA
  obtain ⟨v1, vs1, d1, ds1, p1, q1, rfl, rfl, rfl, h1, r1⟩ := trodAll_cons r0
  obtain ⟨rfl, rfl, rfl⟩ := trodAll_nil r1
  obtain rfl : args = #[v0, v1] := by cases args; simp_all
  obtain ⟨rfl, rfl⟩ := trodVars_none hV
  obtain ⟨n0, A0, l0, c0, rfl, hi0, hl0, nlo0, nhi0⟩ := road_open (hval 0 24 v0 rfl rfl) h0
  obtain ⟨x1, y1, z1, rfl⟩ := arr3_open (hval 1 41 v1 rfl rfl) h1
  clear hA0 hval0
  simp only [List.append_nil] at hW'
  have hlt0 : ∀ x ∈ p0, x.block < W.heap.size := fun x hx => by simpa using hW'.lt x (by simp [hx])
  have hargs0 : ∀ (W' : World), Below W.heap.size W W' → DataW.Trod enc Try.prog W' 0 (fun b => decide (b < W.heap.size)) true 24 (.agg #[.int .i64 n0, .slice A0 l0.length c0]) d0 p0 := fun W' hn => Below.trod laidOut (by kernel_rfl) (of_decide_eq_true (by kernel_rfl)) h0 hn hlt0
  have hlt1 : ∀ x ∈ p1, x.block < W.heap.size := fun x hx => by simpa using hW'.lt x (by simp [hx])
  have hargs1 : ∀ (W' : World), Below W.heap.size W W' → DataW.Trod enc Try.prog W' 0 (fun b => decide (b < W.heap.size)) true 41 (.agg #[.int .i64 x1, .int .i64 y1, .int .i64 z1]) d1 p1 := fun W' hn => Below.trod laidOut (by kernel_rfl) (of_decide_eq_true (by kernel_rfl)) h1 hn hlt1
  refine (walk W n0 A0 l0 c0 hi0 hl0 nlo0 nhi0 x1 y1 z1).mono fun e W' ⟨he, hb⟩ => ?_
  subst he
  exact ⟨_, rfl, _, _, _, [], p0 ++ (p1 ++ ([])), [], hW', trodAll_mk1 (shut_bool Try.underlying4 _), (trodAll_cons_mk (hargs0 W' hb) (trodAll_cons_mk (hargs1 W' hb) trodAll_mk0)), rfl, hb.frame _, fun h => by cases h⟩

theorem said : Rows.RoadFastestSaid :=
  OpenClaim.holds_of_cond 6 Try.f6 rfl rfl rfl rfl rfl rfl rfl ⟨rfl, rfl, rfl, rfl, rfl⟩ rfl rfl rfl rfl rfl (by kernel_rfl) Try.func6 (by kernel_rfl)
    (of_decide_eq_true (by kernel_rfl)) (by unfold Func.isWrapper; first | (rw [if_pos (by decide +kernel)]; kernel_rfl) | (rw [if_neg (by decide +kernel)]; exact ⟨rfl, rfl⟩))
    (fun os started H enc _ F => by rw [OpenClaim.pre_eq_preRow]; exact lifted os started H enc F)
#print axioms said
end Go.Proofs.Ythomklpaafnjhaa.roadFastest
