/-
  The contract of end. Condition: numbers below 2^64.
-/
import Derived.Test.YthalnnhkeaanhaaDoorMacB
namespace Go.Proofs.YthalnnhkeaanhaaDoor
open Go.RowKit Go.Maps
set_option linter.unusedVariables false

set_option maxRecDepth 100000 in
set_option maxHeartbeats 1000000 in
theorem end_any (b : Nat) (v : Nat → Nat) (w : World) (hs : Sm v) (h : StR w b 42 v) :
    Calls Tryd.prog 24 #[.pointer (some ⟨b, 0, none⟩)] w fun e w' => e = .returned (.int .u64 (endS v : Int)) ∧ Below b w w' := by
  have HR := Lib.hid (fun v w hs h => round_any b v w hs h)
  have H0 := Lib.hid h
  have S1 := Lib.hid (xorS_sm (m := 255) hs 2 (by decide))
  have SR := Lib.hid (fun k => rep_sm S1.out k)
  have hx1 := u64_xor_nat (v 2) 255 (hs 2) (by decide)
  have X1 : Hid (∀ w, StR w b 42 v → StR (w.setCell ⟨b, 2, none⟩ (.int .u64 ((v 2 ^^^ 255 : Nat) : Int))) b 42 (xorS v 2 255)) := Lib.hid (fun w h => h.set _ (by decide))
  obtain ⟨x, hx⟩ : ∃ x, v 2 ^^^ 255 = x := ⟨_, rfl⟩
  rw [hx] at hx1 X1
  have hx1 : bits .xor .u64 (v 2 : Int) 255 = (x : Int) := hx1
  have HT : Hid (endS v = fourS (rep (xorS v 2 255) 4)) := Lib.hid rfl
  generalize xorS v 2 255 = v1 at S1 SR X1 HT
  clear hx hs
  have c3 := h.cell (k := 2) (by decide)
  clear h
  go_enter Tryd.func24, Tryd.ntmps24
  go_wp2_with fail
  go_still_tail 7, (by kernel_rfl)
  change wpList _ _ _ _ _ w.drew
  have H2 : Hid (StR w.drew b 42 v) := H0
  have B2 : Below b w w.drew := (Below.refl b w).drew
  generalize w.drew = w2 at H2 B2 ⊢
  have c3 := H2.out.cell (k := 2) (by decide)
  have f3 := H2.out.frozen 2
  have H3 := Lib.hid (X1.out w2 H2.out)
  have B3 := B2.setCell (p := ⟨b, 2, none⟩) (Nat.le_refl _) (.int .u64 (x : Int))
  go_wp2_with fail
  generalize w2.setCell ⟨b, 2, none⟩ (.int .u64 (x : Int)) = w3 at H3 B3 ⊢
  clear c3 f3 H2 B2 hx1 X1 H0
  go_loopw [10] (fun i wr => ∃ k : Nat, k ≤ 4 ∧ i = .int .i64 (k : Int) ∧ Hid (StR wr b 42 (rep v1 k)) ∧ Below b w wr) (fun i _ => 4 - (intOf i).toNat)
  case atStart => exact ⟨0, by omega, rfl, H3, B3⟩
  case round =>
    obtain ⟨k, hk, rfl, hT, hB⟩ := hrel
    by_cases hlt : k < 4
    · have hltz : (k : Int) < 4 := by omega
      have HR2 := Lib.hid (HR.out (rep v1 k) wr (SR.out k) hT.out)
      go_wp2_with fail
      refine HR2.out.mono ?_
      rintro e w4 ⟨rfl, hT2, hB2⟩
      have HT2 : Hid (StR w4 b 42 (rep v1 (k + 1))) := hT2
      have hB3 := hB.trans hB2
      clear hT2 hB2 hT hB HR2
      go_wp2_with fail
      go_roundw
      case rel => exact ⟨k + 1, by omega, by go_num, HT2, hB3⟩
      case measure => simp only [intOf]; omega
    · obtain rfl : k = 4 := by omega
      have s := SR.out 4
      obtain ⟨u, hu⟩ : ∃ u, rep v1 4 = u := ⟨_, rfl⟩
      rw [hu] at hT HT s
      clear hu SR
      have HT : Hid (endS v = u 0 ^^^ u 1 ^^^ u 2 ^^^ u 3) := HT
      have c0 := hT.out.cell (k := 0) (by decide)
      have c1 := hT.out.cell (k := 1) (by decide)
      have c2 := hT.out.cell (k := 2) (by decide)
      have c3 := hT.out.cell (k := 3) (by decide)
      have s0 := s 0
      have s1 := s 1
      have s2 := s 2
      have s3 := s 3
      clear s hT
      generalize u 0 = u0 at HT c0 s0
      generalize u 1 = u1 at HT c1 s1
      generalize u 2 = u2 at HT c2 s2
      generalize u 3 = u3 at HT c3 s3
      have x1 := u64_xor_nat u0 u1 s0 s1
      have x2 := u64_xor_nat (u0 ^^^ u1) u2 (xor_lt64 s0 s1) s2
      have x3 := u64_xor_nat (u0 ^^^ u1 ^^^ u2) u3 (xor_lt64 (xor_lt64 s0 s1) s2) s3
      generalize u0 ^^^ u1 ^^^ u2 ^^^ u3 = y3 at x3 HT
      generalize u0 ^^^ u1 ^^^ u2 = y2 at x2 x3
      generalize u0 ^^^ u1 = y1 at x1 x2
      go_wp2_with fail
      go_still (by kernel_rfl)
      have hB2 : Below b w wr.drew := hB.drew
      change Exit.then _ _ _ _ wr.drew
      generalize wr.drew = w5 at hB2 ⊢
      go_wp2
      go_ret
      exact ⟨ret_int (by rw [HT.out]), hB2⟩
end Go.Proofs.YthalnnhkeaanhaaDoor
