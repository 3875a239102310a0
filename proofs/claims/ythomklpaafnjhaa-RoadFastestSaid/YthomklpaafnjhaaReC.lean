/-
  The contract of swap, for ways. Condition: at most a million entries.
-/
import Derived.Test.YthomklpaafnjhaaReB
namespace Go.Proofs.Ythomklpaafnjhaa
open Go.RowKit
set_option linter.unusedVariables false

set_option maxRecDepth 100000 in
set_option maxHeartbeats 4000000 in
theorem swap_any (b g n cap i j : Nat) (h : Nat → It × Nat) (w : World) (c1 : w.cell? ⟨b, 1, none⟩ = some (.slice (some ⟨g, 0, none⟩) n cap))
    (H : HpR w g n cap h) (hi : i < n) (hj : j < n) (hij : i ≠ j) (hn : n ≤ 1000000) (hbg : b ≠ g) :
    Calls Try.prog 49 #[.pointer (some ⟨b, 0, none⟩), .int .i64 (i : Int), .int .i64 (j : Int)] w fun e w' => e = .returned (.tuple #[]) ∧ HpR w' g n cap (swp h i j) ∧ Keep (fun k => k = g) w w' := by
  obtain ⟨i0, i1, i2, i3⟩ := H.cell hi
  obtain ⟨j0, j1, j2, j3⟩ := H.cell hj
  have fi0 := H.frozen (i * 4)
  have fi1 := H.frozen (i * 4 + 1)
  have fi2 := H.frozen (i * 4 + 2)
  have fi3 := H.frozen (i * 4 + 3)
  have fj0 := H.frozen (j * 4)
  have fj1 := H.frozen (j * 4 + 1)
  have fj2 := H.frozen (j * 4 + 2)
  have fj3 := H.frozen (j * 4 + 3)
  have iz : (i : Int) < (n : Int) := by omega
  have jz : (j : Int) < (n : Int) := by omega
  have hbw : b < w.heap.size := World.block_lt_of_cell? _ _ c1
  have hgw : g < w.heap.size := H.lt
  have hs := (H.swap hi hj).drew
  have hk : Keep (fun k => k = g) w (putE (putE w g i (h j)) g j (h i)).drew := (((Keep.refl (fun k => k = g) w).putE g i (h j) rfl).putE g j (h i) rfl).drew
  obtain ⟨x, hx⟩ : ∃ x, h i = x := ⟨_, rfl⟩
  obtain ⟨y, hy⟩ : ∃ x, h j = x := ⟨_, rfl⟩
  rw [hx] at i0 i1 i2 i3 hs hk
  rw [hy] at j0 j1 j2 j3 hs hk
  obtain ⟨⟨x0, xk⟩, x3⟩ := x
  obtain ⟨⟨y0, yk⟩, y3⟩ := y
  simp only at i0 i1 i2 i3 j0 j1 j2 j3
  simp only [putE] at hs hk
  obtain ⟨x1, hx1⟩ : ∃ z, xS xk = z := ⟨_, rfl⟩
  obtain ⟨x2, hx2⟩ : ∃ z, xE xk = z := ⟨_, rfl⟩
  obtain ⟨y1, hy1⟩ : ∃ z, xS yk = z := ⟨_, rfl⟩
  obtain ⟨y2, hy2⟩ : ∃ z, xE yk = z := ⟨_, rfl⟩
  simp only [hx1, hx2, hy1, hy2] at i1 i2 j1 j2 hs hk
  have HS := Lib.hid hs
  have HK := Lib.hid hk
  have mixed : Try.prog.follows .mixedOrders = true := by kernel_rfl
  have d00 : ¬ i * 4 = j * 4 := by omega
  have d01 : ¬ i * 4 = j * 4 + 1 := by omega
  have d02 : ¬ i * 4 = j * 4 + 2 := by omega
  have d03 : ¬ i * 4 = j * 4 + 3 := by omega
  have d10 : ¬ i * 4 + 1 = j * 4 := by omega
  have d11 : ¬ i * 4 + 1 = j * 4 + 1 := by omega
  have d12 : ¬ i * 4 + 1 = j * 4 + 2 := by omega
  have d13 : ¬ i * 4 + 1 = j * 4 + 3 := by omega
  have d20 : ¬ i * 4 + 2 = j * 4 := by omega
  have d21 : ¬ i * 4 + 2 = j * 4 + 1 := by omega
  have d22 : ¬ i * 4 + 2 = j * 4 + 2 := by omega
  have d23 : ¬ i * 4 + 2 = j * 4 + 3 := by omega
  have d30 : ¬ i * 4 + 3 = j * 4 := by omega
  have d31 : ¬ i * 4 + 3 = j * 4 + 1 := by omega
  have d32 : ¬ i * 4 + 3 = j * 4 + 2 := by omega
  have d33 : ¬ i * 4 + 3 = j * 4 + 3 := by omega
  have e00 : ¬ j * 4 = i * 4 := by omega
  have e01 : ¬ j * 4 = i * 4 + 1 := by omega
  have e02 : ¬ j * 4 = i * 4 + 2 := by omega
  have e03 : ¬ j * 4 = i * 4 + 3 := by omega
  have e10 : ¬ j * 4 + 1 = i * 4 := by omega
  have e11 : ¬ j * 4 + 1 = i * 4 + 1 := by omega
  have e12 : ¬ j * 4 + 1 = i * 4 + 2 := by omega
  have e13 : ¬ j * 4 + 1 = i * 4 + 3 := by omega
  have e20 : ¬ j * 4 + 2 = i * 4 := by omega
  have e21 : ¬ j * 4 + 2 = i * 4 + 1 := by omega
  have e22 : ¬ j * 4 + 2 = i * 4 + 2 := by omega
  have e23 : ¬ j * 4 + 2 = i * 4 + 3 := by omega
  have e30 : ¬ j * 4 + 3 = i * 4 := by omega
  have e31 : ¬ j * 4 + 3 = i * 4 + 1 := by omega
  have e32 : ¬ j * 4 + 3 = i * 4 + 2 := by omega
  have e33 : ¬ j * 4 + 3 = i * 4 + 3 := by omega
  clear H hx hy hs hk
  go_enter Try.func49, Try.ntmps49
  go_wp2_with fail
  go_region
  go_wp2_with fail
  go_end0
  exact ⟨rfl, HS.out, HK.out⟩
end Go.Proofs.Ythomklpaafnjhaa
