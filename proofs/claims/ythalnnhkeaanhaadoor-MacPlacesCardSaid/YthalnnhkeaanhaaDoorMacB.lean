/-
  The contracts of take, end, newState and word. Condition: numbers below 2^64; newState: the variable start holds what the program's text lays.
-/
import Derived.Test.YthalnnhkeaanhaaDoorMacA
import Derived.Laws.NewDeep
namespace Go.Proofs.YthalnnhkeaanhaaDoor
open Go.RowKit Go.Maps
set_option linter.unusedVariables false

/-- So many rounds. -/
def rep (v : Nat → Nat) : Nat → Nat → Nat
  | 0 => v
  | k + 1 => roundS (rep v k)
theorem rep_sm {v : Nat → Nat} (h : Sm v) : ∀ k, Sm (rep v k)
  | 0 => h
  | k + 1 => roundS_sm (rep_sm h k)
theorem rep_succ (v : Nat → Nat) (k : Nat) : rep v (k + 1) = roundS (rep v k) := rfl

set_option maxRecDepth 100000 in
set_option maxHeartbeats 1000000 in
theorem take_any (b : Nat) (v : Nat → Nat) (m : Nat) (w : World) (hs : Sm v) (hm : m < 18446744073709551616) (h : StR w b 42 v) :
    Calls Tryd.prog 21 #[.pointer (some ⟨b, 0, none⟩), .int .u64 (m : Int)] w fun e w' => e = .returned (.tuple #[]) ∧ StR w' b 42 (takeS v m) ∧ Below b w w' := by
  have HR := Lib.hid (fun v w hs h => round_any b v w hs h)
  have H0 := Lib.hid h
  have S1 := Lib.hid (xorS_sm hs 3 hm)
  have SR := Lib.hid (fun k => rep_sm S1.out k)
  have hv3 := hs 3
  have hx1 := u64_xor_nat (v 3) m (hs 3) hm
  have X1 : Hid (∀ w, StR w b 42 v → StR (w.setCell ⟨b, 3, none⟩ (.int .u64 ((v 3 ^^^ m : Nat) : Int))) b 42 (xorS v 3 m)) := Lib.hid (fun w h => h.set _ (by decide))
  obtain ⟨x, hx⟩ : ∃ x, v 3 ^^^ m = x := ⟨_, rfl⟩
  rw [hx] at hx1 X1
  have X2 : Hid (∀ w u, StR w b 42 u → StR (w.setCell ⟨b, 0, none⟩ (.int .u64 ((u 0 ^^^ m : Nat) : Int))) b 42 (xorS u 0 m)) := Lib.hid (fun w u h => h.set _ (by decide))
  have HT : Hid (takeS v m = xorS (rep (xorS v 3 m) 2) 0 m) := Lib.hid rfl
  generalize xorS v 3 m = v1 at S1 SR X1 HT
  have HM := Lib.hid hm
  clear hx hm hs
  have c3 := h.cell (k := 3) (by decide)
  clear h
  go_enter Tryd.func21, Tryd.ntmps21
  go_wp2_with fail
  go_still_tail 8, (by kernel_rfl)
  change wpList _ _ _ _ _ w.drew
  have H2 : Hid (StR w.drew b 42 v) := H0
  have B2 : Below b w w.drew := (Below.refl b w).drew
  generalize w.drew = w2 at H2 B2 ⊢
  have c3 := H2.out.cell (k := 3) (by decide)
  have f3 := H2.out.frozen 3
  have H3 := Lib.hid (X1.out w2 H2.out)
  have B3 := B2.setCell (p := ⟨b, 3, none⟩) (Nat.le_refl _) (.int .u64 (x : Int))
  go_wp2_with fail
  generalize w2.setCell ⟨b, 3, none⟩ (.int .u64 (x : Int)) = w3 at H3 B3 ⊢
  clear c3 f3 H2 B2 hx1 hv3 X1 H0
  go_loopw [12] (fun i wr => ∃ k : Nat, k ≤ 2 ∧ i = .int .i64 (k : Int) ∧ Hid (StR wr b 42 (rep v1 k)) ∧ Below b w wr) (fun i _ => 2 - (intOf i).toNat)
  case atStart => exact ⟨0, by omega, rfl, H3, B3⟩
  case round =>
    obtain ⟨k, hk, rfl, hT, hB⟩ := hrel
    by_cases hlt : k < 2
    · have hltz : (k : Int) < 2 := by omega
      have HR2 := Lib.hid (HR.out (rep v1 k) wr (SR.out k) hT.out)
      go_wp2_with fail
      refine HR2.out.mono ?_
      rintro e w4 ⟨rfl, hT2, hB2⟩
      have HT2 : Hid (StR w4 b 42 (rep v1 (k + 1))) := hT2
      have hB3 := hB.trans hB2
      clear hT2 hB2 hT hB HR2
      go_wp2_with fail
      go_roundw
      case rel => exact ⟨k + 1, by omega, by go_num, HT2, hB3⟩
      case measure => simp only [intOf]; omega
    · obtain rfl : k = 2 := by omega
      have HX := Lib.hid (X2.out wr.drew _ hT.out.drew)
      have s0 := SR.out 2 0
      obtain ⟨u, hu⟩ : ∃ u, rep v1 2 = u := ⟨_, rfl⟩
      rw [hu] at hT HX s0 HT
      have c0 := hT.out.cell (k := 0) (by decide)
      have hx2 := u64_xor_nat (u 0) m s0 HM.out
      obtain ⟨y, hy⟩ : ∃ y, u 0 ^^^ m = y := ⟨_, rfl⟩
      rw [hy] at hx2 HX
      clear hy hu
      go_wp2_with fail
      go_still_tail 8, (by kernel_rfl)
      change wpList _ _ _ _ _ wr.drew
      have d0 := hT.out.drew.cell (k := 0) (by decide)
      have g0 := hT.out.drew.frozen 0
      have B4 := hB.drew.setCell (p := ⟨b, 0, none⟩) (Nat.le_refl _) (.int .u64 (y : Int))
      generalize wr.drew = w5 at d0 g0 HX B4 ⊢
      go_wp2_with fail
      rw [HT.out]
      exact bodyPost_end (results_none rfl _ _ _) rfl ⟨rfl, HX.out, B4⟩

end Go.Proofs.YthalnnhkeaanhaaDoor
