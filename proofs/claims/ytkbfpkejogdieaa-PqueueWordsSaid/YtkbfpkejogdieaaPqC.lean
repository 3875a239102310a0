/-
  The contract of swap, for items. Condition: at most a million entries.
-/
import Derived.Test.YtkbfpkejogdieaaPqB
namespace Go.Proofs.Ytkbfpkejogdieaa
open Go.RowKit
set_option linter.unusedVariables false

set_option maxRecDepth 100000 in
set_option maxHeartbeats 4000000 in
theorem swap_any (b g n cap i j : Nat) (h : Nat → It × Nat) (w : World) (c1 : w.cell? ⟨b, 1, none⟩ = some (.slice (some ⟨g, 0, none⟩) n cap))
    (H : HpR w g n cap h) (hi : i < n) (hj : j < n) (hij : i ≠ j) (hn : n ≤ 1000000) (hbg : b ≠ g) :
    Calls Try.prog 38 #[.pointer (some ⟨b, 0, none⟩), .int .i64 (i : Int), .int .i64 (j : Int)] w fun e w' => e = .returned (.tuple #[]) ∧ HpR w' g n cap (swp h i j) ∧ Keep (fun k => k = g) w w' := by
  obtain ⟨i0, i1, i2⟩ := H.cell hi
  obtain ⟨j0, j1, j2⟩ := H.cell hj
  have fi0 := H.frozen (i * 3)
  have fi1 := H.frozen (i * 3 + 1)
  have fi2 := H.frozen (i * 3 + 2)
  have fj0 := H.frozen (j * 3)
  have fj1 := H.frozen (j * 3 + 1)
  have fj2 := H.frozen (j * 3 + 2)
  have iz : (i : Int) < (n : Int) := by omega
  have jz : (j : Int) < (n : Int) := by omega
  have hbw : b < w.heap.size := World.block_lt_of_cell? _ _ c1
  have hgw : g < w.heap.size := H.lt
  have hs := (H.swap hi hj).drew
  have hk : Keep (fun k => k = g) w (putE (putE w g i (h j)) g j (h i)).drew := (((Keep.refl (fun k => k = g) w).putE g i (h j) rfl).putE g j (h i) rfl).drew
  obtain ⟨x, hx⟩ : ∃ x, h i = x := ⟨_, rfl⟩
  obtain ⟨y, hy⟩ : ∃ x, h j = x := ⟨_, rfl⟩
  rw [hx] at i0 i1 i2 hs hk
  rw [hy] at j0 j1 j2 hs hk
  obtain ⟨⟨x0, x1⟩, x2⟩ := x
  obtain ⟨⟨y0, y1⟩, y2⟩ := y
  simp only at i0 i1 i2 j0 j1 j2
  simp only [putE] at hs hk
  have HS := Lib.hid hs
  have HK := Lib.hid hk
  have mixed : Try.prog.follows .mixedOrders = true := by kernel_rfl
  have d00 : ¬ i * 3 = j * 3 := by omega
  have d01 : ¬ i * 3 = j * 3 + 1 := by omega
  have d02 : ¬ i * 3 = j * 3 + 2 := by omega
  have d10 : ¬ i * 3 + 1 = j * 3 := by omega
  have d11 : ¬ i * 3 + 1 = j * 3 + 1 := by omega
  have d12 : ¬ i * 3 + 1 = j * 3 + 2 := by omega
  have d20 : ¬ i * 3 + 2 = j * 3 := by omega
  have d21 : ¬ i * 3 + 2 = j * 3 + 1 := by omega
  have d22 : ¬ i * 3 + 2 = j * 3 + 2 := by omega
  have e00 : ¬ j * 3 = i * 3 := by omega
  have e01 : ¬ j * 3 = i * 3 + 1 := by omega
  have e02 : ¬ j * 3 = i * 3 + 2 := by omega
  have e10 : ¬ j * 3 + 1 = i * 3 := by omega
  have e11 : ¬ j * 3 + 1 = i * 3 + 1 := by omega
  have e12 : ¬ j * 3 + 1 = i * 3 + 2 := by omega
  have e20 : ¬ j * 3 + 2 = i * 3 := by omega
  have e21 : ¬ j * 3 + 2 = i * 3 + 1 := by omega
  have e22 : ¬ j * 3 + 2 = i * 3 + 2 := by omega
  clear H hx hy hs hk
  go_enter Try.func38, Try.ntmps38
  go_wp2_with fail
  go_region
  go_wp2_with fail
  go_end0
  exact ⟨rfl, HS.out, HK.out⟩
end Go.Proofs.Ytkbfpkejogdieaa
