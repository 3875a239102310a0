/-
  The contracts of rise and sink, for ways. Condition: at most a million entries.
-/
import Derived.Test.YthomklpaafnjhaaReC
import Derived.Defers
import Derived.Recover
namespace Go.Proofs.Ythomklpaafnjhaa
open Go.RowKit
set_option linter.unusedVariables false

theorem riseEnd_any (w : World) : CallsD Try.prog 47 #[] .returning w fun e u' w' => e = .returned (.tuple #[]) ∧ u' = .returning ∧ w' = w := by
  refine callsD_of_wpS Try.func47 rfl fun c₀ cs hu => ?_
  apply wpS_region
  simp [wpOpsS, go_sem, recoverD, hu, Try.ntmps47, bodyPostS, results, Try.results47]
  cases c₀
  simp_all
theorem sinkEnd_any (w : World) : CallsD Try.prog 51 #[] .returning w fun e u' w' => e = .returned (.tuple #[]) ∧ u' = .returning ∧ w' = w := by
  refine callsD_of_wpS Try.func51 rfl fun c₀ cs hu => ?_
  apply wpS_region
  simp [wpOpsS, go_sem, recoverD, hu, Try.ntmps51, bodyPostS, results, Try.results51]
  cases c₀
  simp_all

set_option maxRecDepth 100000 in
set_option maxHeartbeats 4000000 in
theorem rise_any (dn : Bool) (b g n cap : Nat) (h : Nat → It × Nat) (w : World) (c0 : w.cell? ⟨b, 0, none⟩ = some (.func (.func (lessF dn)) #[] #[])) (c1 : w.cell? ⟨b, 1, none⟩ = some (.slice (some ⟨g, 0, none⟩) n cap))
    (H : HpR w g n cap h) (h1 : 1 ≤ n) (hn : n ≤ 1000000) (hbg : b ≠ g) (hU : Up (kI dn) h n (n - 1)) :
    Calls Try.prog 42 #[.pointer (some ⟨b, 0, none⟩)] w fun e w' => e = .returned (.tuple #[]) ∧ ∃ h', Hid (HpR w' g n cap h') ∧ Hid (Heap (kI dn) h' n) ∧ Hid ((lst h' n).Perm (lst h n)) ∧ Keep (fun k => k = g) w w' := by
  have HH := Lib.hid H
  have HU := Lib.hid hU
  have HC := Lib.hid c0
  have HC1 := Lib.hid c1
  have hbw : b < w.heap.size := World.block_lt_of_cell? _ _ c0
  have hmf : ∀ (fn : Fn) (first cap : Array Value) (w : World), (Instr.makeFunc fn first cap).run Try.prog w = .ok (.func fn first cap) w := fun _ _ _ _ => rfl
  have hswp := fun (k : Nat) (hk : k < n) (h0 : 0 < k) (hx : Nat → It × Nat) => lst_swp hx hk (show (k - 1) / 2 < n by omega)
  have HSW := Lib.hid hswp
  clear H hU c0 c1 hswp
  have c1 := HC1.out
  go_enter_defers Try.func42, Try.ntmps42
  go_wp2_with fail
  clear c1
  go_loopw [2] (fun i wr => ∃ (k : Nat) (hk : Nat → It × Nat), k < n ∧ i = .int .i64 (k : Int) ∧ Hid (HpR wr g n cap hk) ∧ Hid (Up (kI dn) hk n k) ∧ Hid ((lst hk n).Perm (lst h n)) ∧ Keep (fun k => k = g) w wr) (fun i _ => (intOf i).toNat)
  case atStart => exact ⟨n - 1, h, by omega, by congr 1; omega, HH, HU, Lib.hid (List.Perm.refl _), Keep.refl _ _⟩
  case round =>
    obtain ⟨k, hk, hkn, rfl, HR, HUP, HP, hK⟩ := hrel
    by_cases h0 : 0 < k
    · have hz : (0 : Int) < (k : Int) := by omega
      have hdiv : ((k : Int) - 1).tdiv 2 = (((k - 1) / 2 : Nat) : Int) := by rw [Int.tdiv_eq_ediv_of_nonneg (by omega)]; omega
      obtain ⟨p, hp⟩ : ∃ p, p = (k - 1) / 2 := ⟨_, rfl⟩
      rw [← hp] at hdiv
      have hpn : p < n := by omega
      have c0r : wr.cell? ⟨b, 0, none⟩ = some (.func (.func (lessF dn)) #[] #[]) := by rw [hK.cell (p := ⟨b, 0, none⟩) hbw hbg]; exact HC.out
      have c1r : wr.cell? ⟨b, 1, none⟩ = some (.slice (some ⟨g, 0, none⟩) n cap) := by rw [hK.cell (p := ⟨b, 1, none⟩) hbw hbg]; exact HC1.out
      have HBF := Lib.hid (before_any dn b g n cap k p hk wr c0r c1r HR.out hkn (by omega) hn)
      have HCR := Lib.hid (And.intro c0r c1r)
      have HPP := Lib.hid hp
      clear c0r c1r hp
      by_cases hl : ltE (kI dn) (hk k) (hk p)
      · rw [bfE_iff.2 hl] at HBF
        have HUP2 := Lib.hid (HUP.out.step h0 hkn HPP.out hl)
        have HP2 : Hid ((lst (swp hk k p) n).Perm (lst h n)) := Lib.hid ((HPP.out ▸ HSW.out k hkn h0 hk).trans HP.out)
        go_wp2_with fail
        refine HBF.out.mono ?_
        rintro e w1 ⟨rfl, hB1⟩
        go_wp2_with fail
        have hbr : b < wr.heap.size := Nat.lt_of_lt_of_le hbw hK.size
        have HS := Lib.hid (swap_any b g n cap k p hk w1 (by rw [hB1.cell (p := ⟨b, 1, none⟩) hbr]; exact HCR.out.2) (HR.out.below hB1) hkn (by have := HPP.out; omega) (by have := HPP.out; omega) hn hbg)
        refine HS.out.mono ?_
        rintro e w2 ⟨rfl, hH2, hK2⟩
        go_wp2_with fail
        go_roundw
        case rel => exact ⟨p, swp hk k p, by have := HPP.out; omega, rfl, Lib.hid hH2, HUP2, HP2, (hK.on hB1).step hK2⟩
        case measure => have := HPP.out; simp only [intOf]; omega
      · rw [bfE_not.2 hl] at HBF
        have HHP := Lib.hid (HUP.out.stop (Or.inr (HPP.out ▸ hl)))
        go_wp2_with fail
        refine HBF.out.mono ?_
        rintro e w1 ⟨rfl, hB1⟩
        go_wp2_with fail
        refine leaves_cons (f := 47) (args := #[]) (by simp) (by simp [go_sem]) ?_
        refine (riseEnd_any _).mono ?_
        rintro e u' w2 ⟨rfl, rfl, rfl⟩
        exact ⟨_, results_none rfl _ _ _, rfl, hk, Lib.hid (HR.out.below hB1), HHP, HP, hK.on hB1⟩
    · obtain rfl : k = 0 := by omega
      have HHP := Lib.hid (HUP.out.stop (Or.inl rfl))
      go_wp2_with fail
      refine leaves_cons (f := 47) (args := #[]) (by simp) (by simp [go_sem]) ?_
      refine (riseEnd_any _).mono ?_
      rintro e u' w2 ⟨rfl, rfl, rfl⟩
      exact ⟨_, results_none rfl _ _ _, rfl, hk, HR, HHP, HP, hK⟩
end Go.Proofs.Ythomklpaafnjhaa
