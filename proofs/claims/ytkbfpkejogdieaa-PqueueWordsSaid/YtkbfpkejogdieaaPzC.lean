/-
  The contract of swap, for strings. Condition: at most a million entries.
-/
import Derived.Test.YtkbfpkejogdieaaPzA
namespace Go.Proofs.Ytkbfpkejogdieaa
open Go.RowKit
set_option linter.unusedVariables false

set_option maxRecDepth 100000 in
set_option maxHeartbeats 4000000 in
theorem swap_z (b g n cap i j : Nat) (h : Nat → ByteArray × Nat) (w : World) (c1 : w.cell? ⟨b, 1, none⟩ = some (.slice (some ⟨g, 0, none⟩) n cap))
    (H : HpRZ w g n cap h) (hi : i < n) (hj : j < n) (hij : i ≠ j) (hn : n ≤ 1000000) (hbg : b ≠ g) :
    Calls Try.prog 42 #[.pointer (some ⟨b, 0, none⟩), .int .i64 (i : Int), .int .i64 (j : Int)] w fun e w' => e = .returned (.tuple #[]) ∧ HpRZ w' g n cap (swp h i j) ∧ Keep (fun k => k = g) w w' := by
  obtain ⟨i0, i2⟩ := H.cell hi
  obtain ⟨j0, j2⟩ := H.cell hj
  have fi0 := H.frozen (i * 2)
  have fi1 := H.frozen (i * 2 + 1)
  have fj0 := H.frozen (j * 2)
  have fj1 := H.frozen (j * 2 + 1)
  have iz : (i : Int) < (n : Int) := by omega
  have jz : (j : Int) < (n : Int) := by omega
  have hbw : b < w.heap.size := World.block_lt_of_cell? _ _ c1
  have hgw : g < w.heap.size := H.lt
  have hs := (H.swap hi hj).drew
  have hk : Keep (fun k => k = g) w (putZ (putZ w g i (h j)) g j (h i)).drew := (((Keep.refl (fun k => k = g) w).putZ g i (h j) rfl).putZ g j (h i) rfl).drew
  obtain ⟨x, hx⟩ : ∃ x, h i = x := ⟨_, rfl⟩
  obtain ⟨y, hy⟩ : ∃ x, h j = x := ⟨_, rfl⟩
  rw [hx] at i0 i2 hs hk
  rw [hy] at j0 j2 hs hk
  obtain ⟨x0, x2⟩ := x
  obtain ⟨y0, y2⟩ := y
  simp only at i0 i2 j0 j2
  simp only [putZ] at hs hk
  have HS := Lib.hid hs
  have HK := Lib.hid hk
  have mixed : Try.prog.follows .mixedOrders = true := by kernel_rfl
  have d00 : ¬ i * 2 = j * 2 := by omega
  have d01 : ¬ i * 2 = j * 2 + 1 := by omega
  have d10 : ¬ i * 2 + 1 = j * 2 := by omega
  have d11 : ¬ i * 2 + 1 = j * 2 + 1 := by omega
  have e00 : ¬ j * 2 = i * 2 := by omega
  have e01 : ¬ j * 2 = i * 2 + 1 := by omega
  have e10 : ¬ j * 2 + 1 = i * 2 := by omega
  have e11 : ¬ j * 2 + 1 = i * 2 + 1 := by omega
  clear H hx hy hs hk
  go_enter Try.func42, Try.ntmps42
  go_wp2_with fail
  go_region
  go_wp2_with fail
  go_end0
  exact ⟨rfl, HS.out, HK.out⟩
end Go.Proofs.Ytkbfpkejogdieaa
