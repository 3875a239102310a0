/-
  The contract of sink, for ways. Condition: at most a million entries.
-/
import Derived.Test.YthomklpaafnjhaaReD
namespace Go.Proofs.Ythomklpaafnjhaa
open Go.RowKit
set_option linter.unusedVariables false

set_option maxRecDepth 100000 in
set_option maxHeartbeats 4000000 in
theorem sink_any (dn : Bool) (b g n cap : Nat) (h : Nat → It × Nat) (w : World) (c0 : w.cell? ⟨b, 0, none⟩ = some (.func (.func (lessF dn)) #[] #[])) (c1 : w.cell? ⟨b, 1, none⟩ = some (.slice (some ⟨g, 0, none⟩) n cap))
    (H : HpR w g n cap h) (hn : n ≤ 1000000) (hbg : b ≠ g) (hU : Down (kI dn) h n 0) :
    Calls Try.prog 44 #[.pointer (some ⟨b, 0, none⟩)] w fun e w' => e = .returned (.tuple #[]) ∧ ∃ h', Hid (HpR w' g n cap h') ∧ Hid (Heap (kI dn) h' n) ∧ Hid ((lst h' n).Perm (lst h n)) ∧ Keep (fun k => k = g) w w' := by
  have HH := Lib.hid H
  have HU := Lib.hid hU
  have HC := Lib.hid c0
  have HC1 := Lib.hid c1
  have hbw : b < w.heap.size := World.block_lt_of_cell? _ _ c0
  clear H hU c0 c1
  go_enter_defers Try.func44, Try.ntmps44
  go_wp2_with fail
  go_loopw [2, 3] (fun i j wr => ∃ (k : Nat) (hk : Nat → It × Nat), k ≤ n ∧ i = .int .i64 (k : Int) ∧ j = .int .i64 (2 * (k : Int) + 1) ∧ Hid (HpR wr g n cap hk) ∧ Hid (Down (kI dn) hk n k) ∧ Hid ((lst hk n).Perm (lst h n)) ∧ Keep (fun k => k = g) w wr) (fun i _ _ => n - (intOf i).toNat)
  case atStart => exact ⟨0, h, by omega, rfl, rfl, HH, HU, Lib.hid (List.Perm.refl _), Keep.refl _ _⟩
  case round =>
    obtain ⟨k, hk, hkn, rfl, rfl, HR, HDN, HP, hK⟩ := hrel
    have c0r : wr.cell? ⟨b, 0, none⟩ = some (.func (.func (lessF dn)) #[] #[]) := by rw [hK.cell (p := ⟨b, 0, none⟩) hbw hbg]; exact HC.out
    have c1r : wr.cell? ⟨b, 1, none⟩ = some (.slice (some ⟨g, 0, none⟩) n cap) := by rw [hK.cell (p := ⟨b, 1, none⟩) hbw hbg]; exact HC1.out
    have HCR := Lib.hid (And.intro c0r c1r)
    have hbr : b < wr.heap.size := Nat.lt_of_lt_of_le hbw hK.size
    by_cases hc : 2 * k + 1 < n
    · have hcz : 2 * (k : Int) + 1 < (n : Int) := by omega
      by_cases ho : 2 * k + 2 < n
      · have hoz : 2 * (k : Int) + 1 + 1 < (n : Int) := by omega
        have HB0 := Lib.hid (before_any dn b g n cap (2 * k + 2) (2 * k + 1) hk wr c0r c1r HR.out ho hc hn)
        rw [show ((2 * k + 2 : Nat) : Int) = 2 * (k : Int) + 1 + 1 by omega, show ((2 * k + 1 : Nat) : Int) = 2 * (k : Int) + 1 by omega] at HB0
        by_cases hl : ltE (kI dn) (hk (2 * k + 2)) (hk (2 * k + 1))
        · rw [bfE_iff.2 hl] at HB0
          have HKIDS : Hid (∀ i, 0 < i → i < n → (i - 1) / 2 = k → ¬ ltE (kI dn) (hk i) (hk (2 * k + 2))) := Lib.hid (kids_right rfl hl)
          clear hl c0r
          go_wp2_with fail
          refine HB0.out.mono ?_
          rintro e w1 ⟨rfl, hB1⟩
          have c1r : w1.cell? ⟨b, 1, none⟩ = some (.slice (some ⟨g, 0, none⟩) n cap) := by rw [hB1.cell (p := ⟨b, 1, none⟩) hbr]; exact HCR.out.2
          have HD := Lib.hid (show (2 * k + 2 - 1) / 2 = k ∧ 0 < 2 * k + 2 ∧ 2 * k + 2 < n by omega)
          have c0s : w1.cell? ⟨b, 0, none⟩ = some (.func (.func (lessF dn)) #[] #[]) := by rw [hB1.cell (p := ⟨b, 0, none⟩) hbr]; exact HCR.out.1
          have c1s : w1.cell? ⟨b, 1, none⟩ = some (.slice (some ⟨g, 0, none⟩) n cap) := by rw [hB1.cell (p := ⟨b, 1, none⟩) hbr]; exact HCR.out.2
          have HB2 := Lib.hid (before_any dn b g n cap (2 * k + 2) k hk w1 c0s c1s (HR.out.below hB1) (by omega) (by omega) hn)
          have HDX := Lib.hid (show ((2 * k + 2 : Nat) : Int) = 2 * (k : Int) + 1 + 1 by omega)
          rw [HDX.out] at HB2
          by_cases hl2 : ltE (kI dn) (hk (2 * k + 2)) (hk k)
          · rw [bfE_iff.2 hl2] at HB2
            have HDN2 := Lib.hid (HDN.out.step HD.out.2.1 HD.out.2.2 HD.out.1 hl2 HKIDS.out)
            have HP2 : Hid ((lst (swp hk (2 * k + 2) k) n).Perm (lst h n)) := Lib.hid ((lst_swp hk (show 2 * k + 2 < n by omega) (show k < n by omega)).trans HP.out)
            clear hl2 c0s c1s
            go_wp2_with fail
            refine HB2.out.mono ?_
            rintro e w2 ⟨rfl, hB2⟩
            have hBB := Below.step hB1 hB2
            go_wp2_with fail
            have HS := Lib.hid (swap_any b g n cap (2 * k + 2) k hk w2 (by rw [hBB.cell (p := ⟨b, 1, none⟩) hbr]; exact HCR.out.2) (HR.out.below hBB) (by omega) (by omega) (by omega) hn hbg)
            rw [HDX.out] at HS
            refine HS.out.mono ?_
            rintro e w3 ⟨rfl, hH3, hK3⟩
            go_wp2_with fail
            go_roundw
            case rel => exact ⟨2 * k + 2, swp hk (2 * k + 2) k, by omega, by congr 1, by first | rfl | (congr 1; omega), Lib.hid hH3, HDN2, HP2, (hK.on hBB).step hK3⟩
            case measure => simp only [intOf]; omega
          · rw [bfE_not.2 hl2] at HB2
            have HHP := Lib.hid (HDN.out.stop hl2 HKIDS.out)
            clear hl2 c0s c1s
            go_wp2_with fail
            refine HB2.out.mono ?_
            rintro e w2 ⟨rfl, hB2⟩
            have hBB := Below.step hB1 hB2
            go_wp2_with fail
            refine leaves_cons (f := 51) (args := #[]) (by simp) (by simp [go_sem]) ?_
            refine (sinkEnd_any _).mono ?_
            rintro e u' w3 ⟨rfl, rfl, rfl⟩
            exact ⟨_, results_none rfl _ _ _, rfl, hk, Lib.hid (HR.out.below hBB), HHP, HP, hK.on hBB⟩
        · rw [bfE_not.2 hl] at HB0
          have HKIDS : Hid (∀ i, 0 < i → i < n → (i - 1) / 2 = k → ¬ ltE (kI dn) (hk i) (hk (2 * k + 1))) := Lib.hid (kids_left rfl hl)
          clear hl c0r
          go_wp2_with fail
          refine HB0.out.mono ?_
          rintro e w1 ⟨rfl, hB1⟩
          have HD := Lib.hid (show (2 * k + 1 - 1) / 2 = k ∧ 0 < 2 * k + 1 ∧ 2 * k + 1 < n by omega)
          have c0s : w1.cell? ⟨b, 0, none⟩ = some (.func (.func (lessF dn)) #[] #[]) := by rw [hB1.cell (p := ⟨b, 0, none⟩) hbr]; exact HCR.out.1
          have c1s : w1.cell? ⟨b, 1, none⟩ = some (.slice (some ⟨g, 0, none⟩) n cap) := by rw [hB1.cell (p := ⟨b, 1, none⟩) hbr]; exact HCR.out.2
          have HB2 := Lib.hid (before_any dn b g n cap (2 * k + 1) k hk w1 c0s c1s (HR.out.below hB1) (by omega) (by omega) hn)
          have HDX := Lib.hid (show ((2 * k + 1 : Nat) : Int) = 2 * (k : Int) + 1 by omega)
          rw [HDX.out] at HB2
          by_cases hl2 : ltE (kI dn) (hk (2 * k + 1)) (hk k)
          · rw [bfE_iff.2 hl2] at HB2
            have HDN2 := Lib.hid (HDN.out.step HD.out.2.1 HD.out.2.2 HD.out.1 hl2 HKIDS.out)
            have HP2 : Hid ((lst (swp hk (2 * k + 1) k) n).Perm (lst h n)) := Lib.hid ((lst_swp hk (show 2 * k + 1 < n by omega) (show k < n by omega)).trans HP.out)
            clear hl2 c0s c1s
            go_wp2_with fail
            refine HB2.out.mono ?_
            rintro e w2 ⟨rfl, hB2⟩
            have hBB := Below.step hB1 hB2
            go_wp2_with fail
            have HS := Lib.hid (swap_any b g n cap (2 * k + 1) k hk w2 (by rw [hBB.cell (p := ⟨b, 1, none⟩) hbr]; exact HCR.out.2) (HR.out.below hBB) (by omega) (by omega) (by omega) hn hbg)
            rw [HDX.out] at HS
            refine HS.out.mono ?_
            rintro e w3 ⟨rfl, hH3, hK3⟩
            go_wp2_with fail
            go_roundw
            case rel => exact ⟨2 * k + 1, swp hk (2 * k + 1) k, by omega, by congr 1, by first | rfl | (congr 1; omega), Lib.hid hH3, HDN2, HP2, (hK.on hBB).step hK3⟩
            case measure => simp only [intOf]; omega
          · rw [bfE_not.2 hl2] at HB2
            have HHP := Lib.hid (HDN.out.stop hl2 HKIDS.out)
            clear hl2 c0s c1s
            go_wp2_with fail
            refine HB2.out.mono ?_
            rintro e w2 ⟨rfl, hB2⟩
            have hBB := Below.step hB1 hB2
            go_wp2_with fail
            refine leaves_cons (f := 51) (args := #[]) (by simp) (by simp [go_sem]) ?_
            refine (sinkEnd_any _).mono ?_
            rintro e u' w3 ⟨rfl, rfl, rfl⟩
            exact ⟨_, results_none rfl _ _ _, rfl, hk, Lib.hid (HR.out.below hBB), HHP, HP, hK.on hBB⟩
      · have hoz : ¬ 2 * (k : Int) + 1 + 1 < (n : Int) := by omega
        have HKIDS : Hid (∀ i, 0 < i → i < n → (i - 1) / 2 = k → ¬ ltE (kI dn) (hk i) (hk (2 * k + 1))) := Lib.hid (kids_one rfl (by omega))
        clear c0r
        have hB1 := Below.refl wr.heap.size wr
        have HD := Lib.hid (show (2 * k + 1 - 1) / 2 = k ∧ 0 < 2 * k + 1 ∧ 2 * k + 1 < n by omega)
        have c0s : wr.cell? ⟨b, 0, none⟩ = some (.func (.func (lessF dn)) #[] #[]) := by rw [hB1.cell (p := ⟨b, 0, none⟩) hbr]; exact HCR.out.1
        have c1s : wr.cell? ⟨b, 1, none⟩ = some (.slice (some ⟨g, 0, none⟩) n cap) := by rw [hB1.cell (p := ⟨b, 1, none⟩) hbr]; exact HCR.out.2
        have HB2 := Lib.hid (before_any dn b g n cap (2 * k + 1) k hk wr c0s c1s (HR.out.below hB1) (by omega) (by omega) hn)
        have HDX := Lib.hid (show ((2 * k + 1 : Nat) : Int) = 2 * (k : Int) + 1 by omega)
        rw [HDX.out] at HB2
        by_cases hl2 : ltE (kI dn) (hk (2 * k + 1)) (hk k)
        · rw [bfE_iff.2 hl2] at HB2
          have HDN2 := Lib.hid (HDN.out.step HD.out.2.1 HD.out.2.2 HD.out.1 hl2 HKIDS.out)
          have HP2 : Hid ((lst (swp hk (2 * k + 1) k) n).Perm (lst h n)) := Lib.hid ((lst_swp hk (show 2 * k + 1 < n by omega) (show k < n by omega)).trans HP.out)
          clear hl2 c0s c1s
          go_wp2_with fail
          refine HB2.out.mono ?_
          rintro e w2 ⟨rfl, hB2⟩
          have hBB := Below.step hB1 hB2
          go_wp2_with fail
          have HS := Lib.hid (swap_any b g n cap (2 * k + 1) k hk w2 (by rw [hBB.cell (p := ⟨b, 1, none⟩) hbr]; exact HCR.out.2) (HR.out.below hBB) (by omega) (by omega) (by omega) hn hbg)
          rw [HDX.out] at HS
          refine HS.out.mono ?_
          rintro e w3 ⟨rfl, hH3, hK3⟩
          go_wp2_with fail
          go_roundw
          case rel => exact ⟨2 * k + 1, swp hk (2 * k + 1) k, by omega, by congr 1, by first | rfl | (congr 1; omega), Lib.hid hH3, HDN2, HP2, (hK.on hBB).step hK3⟩
          case measure => simp only [intOf]; omega
        · rw [bfE_not.2 hl2] at HB2
          have HHP := Lib.hid (HDN.out.stop hl2 HKIDS.out)
          clear hl2 c0s c1s
          go_wp2_with fail
          refine HB2.out.mono ?_
          rintro e w2 ⟨rfl, hB2⟩
          have hBB := Below.step hB1 hB2
          go_wp2_with fail
          refine leaves_cons (f := 51) (args := #[]) (by simp) (by simp [go_sem]) ?_
          refine (sinkEnd_any _).mono ?_
          rintro e u' w3 ⟨rfl, rfl, rfl⟩
          exact ⟨_, results_none rfl _ _ _, rfl, hk, Lib.hid (HR.out.below hBB), HHP, HP, hK.on hBB⟩
    · have hcz : ¬ 2 * (k : Int) + 1 < (n : Int) := by omega
      have HHP := Lib.hid (HDN.out.leaf (by omega))
      go_wp2_with fail
      refine leaves_cons (f := 51) (args := #[]) (by simp) (by simp [go_sem]) ?_
      refine (sinkEnd_any _).mono ?_
      rintro e u' w2 ⟨rfl, rfl, rfl⟩
      exact ⟨_, results_none rfl _ _ _, rfl, hk, HR, HHP, HP, hK⟩
end Go.Proofs.Ythomklpaafnjhaa
