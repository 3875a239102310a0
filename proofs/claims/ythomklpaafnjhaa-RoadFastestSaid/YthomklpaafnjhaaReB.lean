/-
  The contracts of before and swap, for ways. Condition: at most a million entries.
-/
import Derived.Test.YthomklpaafnjhaaReA
import Derived.BigRegion
import Derived.Deep.RegionHeld3
namespace Go.Proofs.Ythomklpaafnjhaa
open Go.RowKit
set_option linter.unusedVariables false

/-- Two entries in new blocks. -/
structure Two (w W : World) (p q : Nat) (x0 x1 x2 : Int) (x3 : Nat) (y0 y1 y2 : Int) (y3 : Nat) : Prop where
  p0 : W.cell? ⟨p, 0, none⟩ = some (.int .i64 x0)
  p1 : W.cell? ⟨p, 1, none⟩ = some (.int .i64 x1)
  p2 : W.cell? ⟨p, 2, none⟩ = some (.int .i64 x2)
  p3 : W.cell? ⟨p, 3, none⟩ = some (.int .i64 (x3 : Int))
  q0 : W.cell? ⟨q, 0, none⟩ = some (.int .i64 y0)
  q1 : W.cell? ⟨q, 1, none⟩ = some (.int .i64 y1)
  q2 : W.cell? ⟨q, 2, none⟩ = some (.int .i64 y2)
  q3 : W.cell? ⟨q, 3, none⟩ = some (.int .i64 (y3 : Int))
  below : Below w.heap.size w W
theorem Two.ab (w : World) (x0 x1 x2 : Int) (x3 : Nat) (y0 y1 y2 : Int) (y3 : Nat) (t : TypeId) : Two w ((w.alloc (.cells #[.int .i64 x0, .int .i64 x1, .int .i64 x2, .int .i64 (x3 : Int)] t)).alloc (.cells #[.int .i64 y0, .int .i64 y1, .int .i64 y2, .int .i64 (y3 : Int)] t)).drew w.heap.size (w.heap.size + 1) x0 x1 x2 x3 y0 y1 y2 y3 := by
  have hl : w.heap.size < (w.alloc (.cells #[.int .i64 x0, .int .i64 x1, .int .i64 x2, .int .i64 (x3 : Int)] t)).heap.size := by simp
  have hs : (w.alloc (.cells #[.int .i64 x0, .int .i64 x1, .int .i64 x2, .int .i64 (x3 : Int)] t)).heap.size = w.heap.size + 1 := by simp
  refine ⟨?_, ?_, ?_, ?_, ?_, ?_, ?_, ?_, ((Below.refl _ _).alloc (Nat.le_refl _) _).alloc (by simp) _ |>.drew⟩
  · show ((w.alloc _).alloc _).cell? _ = _; rw [World.cell?_alloc_past _ _ _ hl, World.cell?_alloc_new]; rfl
  · show ((w.alloc _).alloc _).cell? _ = _; rw [World.cell?_alloc_past _ _ _ hl, World.cell?_alloc_new]; rfl
  · show ((w.alloc _).alloc _).cell? _ = _; rw [World.cell?_alloc_past _ _ _ hl, World.cell?_alloc_new]; rfl
  · show ((w.alloc _).alloc _).cell? _ = _; rw [World.cell?_alloc_past _ _ _ hl, World.cell?_alloc_new]; rfl
  · show ((w.alloc _).alloc _).cell? _ = _; rw [← hs, World.cell?_alloc_new]; rfl
  · show ((w.alloc _).alloc _).cell? _ = _; rw [← hs, World.cell?_alloc_new]; rfl
  · show ((w.alloc _).alloc _).cell? _ = _; rw [← hs, World.cell?_alloc_new]; rfl
  · show ((w.alloc _).alloc _).cell? _ = _; rw [← hs, World.cell?_alloc_new]; rfl
theorem Two.ba (w : World) (x0 x1 x2 : Int) (x3 : Nat) (y0 y1 y2 : Int) (y3 : Nat) (t : TypeId) : Two w ((w.alloc (.cells #[.int .i64 y0, .int .i64 y1, .int .i64 y2, .int .i64 (y3 : Int)] t)).alloc (.cells #[.int .i64 x0, .int .i64 x1, .int .i64 x2, .int .i64 (x3 : Int)] t)).drew (w.heap.size + 1) w.heap.size x0 x1 x2 x3 y0 y1 y2 y3 := by
  obtain ⟨a0, a1, a2, a3, b0, b1, b2, b3, hb⟩ := Two.ab w y0 y1 y2 y3 x0 x1 x2 x3 t
  exact ⟨b0, b1, b2, b3, a0, a1, a2, a3, hb⟩

set_option maxRecDepth 100000 in
set_option maxHeartbeats 2000000 in
theorem before_any (dn : Bool) (b g n cap i j : Nat) (h : Nat → It × Nat) (w : World) (c0 : w.cell? ⟨b, 0, none⟩ = some (.func (.func (lessF dn)) #[] #[])) (c1 : w.cell? ⟨b, 1, none⟩ = some (.slice (some ⟨g, 0, none⟩) n cap))
    (H : HpR w g n cap h) (hi : i < n) (hj : j < n) (hn : n ≤ 1000000) :
    Calls Try.prog 48 #[.pointer (some ⟨b, 0, none⟩), .int .i64 (i : Int), .int .i64 (j : Int)] w fun e w' => e = .returned (.bool (bfE (kI dn) (h i) (h j))) ∧ Below w.heap.size w w' := by
  obtain ⟨i0, i1, i2, i3⟩ := H.cell hi
  obtain ⟨j0, j1, j2, j3⟩ := H.cell hj
  have iz : (i : Int) < (n : Int) := by omega
  have jz : (j : Int) < (n : Int) := by omega
  have hbw : b < w.heap.size := World.block_lt_of_cell? _ _ c0
  have hgw : g < w.heap.size := H.lt
  obtain ⟨x, hx⟩ : ∃ x, h i = x := ⟨_, rfl⟩
  obtain ⟨y, hy⟩ : ∃ x, h j = x := ⟨_, rfl⟩
  rw [hx] at i0 i1 i2 i3
  rw [hy] at j0 j1 j2 j3
  rw [hx, hy]
  obtain ⟨⟨x0, xk⟩, x3⟩ := x
  obtain ⟨⟨y0, yk⟩, y3⟩ := y
  simp only at i0 i1 i2 i3 j0 j1 j2 j3
  have mixed : Try.prog.follows .mixedOrders = true := by kernel_rfl
  have eg := less_enters dn
  have HL := Lib.hid (fun W => less_any dn (y0, yk) (x0, xk) W)
  have HL2 := Lib.hid (fun W => less_any dn (x0, xk) (y0, yk) W)
  have HP := Lib.hid (show x3 < y3 → bfE (kI dn) ((x0, xk), x3) ((y0, yk), y3) = !decide (kI dn (y0, yk) < kI dn (x0, xk)) from fun hlt => by unfold bfE; rw [if_pos hlt])
  have HQ := Lib.hid (show ¬ x3 < y3 → bfE (kI dn) ((x0, xk), x3) ((y0, yk), y3) = decide (kI dn (x0, xk) < kI dn (y0, yk)) from fun hlt => by unfold bfE; rw [if_neg hlt])
  generalize bfE (kI dn) ((x0, xk), x3) ((y0, yk), y3) = r at HP HQ ⊢
  obtain ⟨f, hf⟩ : ∃ f, lessF dn = f := ⟨_, rfl⟩
  obtain ⟨r1, hr1⟩ : ∃ f, decide (kI dn (y0, yk) < kI dn (x0, xk)) = f := ⟨_, rfl⟩
  obtain ⟨r2, hr2⟩ : ∃ f, decide (kI dn (x0, xk) < kI dn (y0, yk)) = f := ⟨_, rfl⟩
  rw [hf] at eg HL HL2 c0
  rw [hr1] at HL HP
  rw [hr2] at HL2 HQ
  have HC := Lib.hid c0
  have hnot : ∀ (x : Bool) (w : World), (Op.unary .not (.bool x)).run Try.prog w = .ok (.bool (!x)) w := fun _ _ => rfl
  clear H hx hy hf hr1 hr2
  obtain ⟨x1, hx1⟩ : ∃ z, xS xk = z := ⟨_, rfl⟩
  obtain ⟨x2, hx2⟩ : ∃ z, xE xk = z := ⟨_, rfl⟩
  obtain ⟨y1, hy1⟩ : ∃ z, xS yk = z := ⟨_, rfl⟩
  obtain ⟨y2, hy2⟩ : ∃ z, xE yk = z := ⟨_, rfl⟩
  simp only [hx1, hx2, hy1, hy2] at i1 i2 j1 j2 HL HL2
  clear hx1 hx2 hy1 hy2
  by_cases hlt : x3 < y3
  · have hz : (x3 : Int) < (y3 : Int) := by omega
    have HR := Lib.hid (HP.out hlt)
    clear HP HQ hlt
    go_enter Try.func48, Try.ntmps48
    go_wp2_with fail
    go_region
    all_goals
      first
        | (have HT := Lib.hid (Two.ab w x0 x1 x2 x3 y0 y1 y2 y3 84); obtain ⟨W, hW⟩ : ∃ W, ((w.alloc (.cells #[.int .i64 x0, .int .i64 x1, .int .i64 x2, .int .i64 (x3 : Int)] 84)).alloc (.cells #[.int .i64 y0, .int .i64 y1, .int .i64 y2, .int .i64 (y3 : Int)] 84)).drew = W := ⟨_, rfl⟩; rw [hW] at HT ⊢; clear hW)
        | (have HT := Lib.hid (Two.ba w x0 x1 x2 x3 y0 y1 y2 y3 84); obtain ⟨W, hW⟩ : ∃ W, ((w.alloc (.cells #[.int .i64 y0, .int .i64 y1, .int .i64 y2, .int .i64 (y3 : Int)] 84)).alloc (.cells #[.int .i64 x0, .int .i64 x1, .int .i64 x2, .int .i64 (x3 : Int)] 84)).drew = W := ⟨_, rfl⟩; rw [hW] at HT ⊢; clear hW)
      clear i0 i1 i2 i3 j0 j1 j2 j3 c0 c1
      obtain ⟨p0, p1, p2, p3, q0, q1, q2, q3, hB⟩ := HT.out
      have hB' := Lib.hid hB
      go_wp2_with fail
      have cg : ∀ n os, (Sort.grow (W.drewN n) os).cell? ⟨b, 0, none⟩ = some (.func (.func f) #[] #[]) := cell_grown (Nat.lt_of_lt_of_le hbw hB.size) (by rw [hB.cell (p := ⟨b, 0, none⟩) hbw]; exact HC.out)
      have g0 := cell_grown (World.block_lt_of_cell? _ _ p0) p0
      have g1 := cell_grown (World.block_lt_of_cell? _ _ p1) p1
      have g4 := cell_grown (World.block_lt_of_cell? _ _ p2) p2
      have g2 := cell_grown (World.block_lt_of_cell? _ _ q0) q0
      have g3 := cell_grown (World.block_lt_of_cell? _ _ q1) q1
      have g5 := cell_grown (World.block_lt_of_cell? _ _ q2) q2
      clear p0 p1 p2 p3 q0 q1 q2 q3 hB HT
      go_quiet_grown (first | (go_at_fn f; refine Calls.grown_of (HL.out _)))
      go_wp2_with fail
      go_ret
      exact ⟨ret_bool HR.out.symm, Below.step hB'.out (below_grow _ _ _)⟩
  · have hz : ¬ (x3 : Int) < (y3 : Int) := by omega
    have HR := Lib.hid (HQ.out hlt)
    clear HP HQ hlt
    go_enter Try.func48, Try.ntmps48
    go_wp2_with fail
    go_region
    all_goals
      first
        | (have HT := Lib.hid (Two.ab w x0 x1 x2 x3 y0 y1 y2 y3 84); obtain ⟨W, hW⟩ : ∃ W, ((w.alloc (.cells #[.int .i64 x0, .int .i64 x1, .int .i64 x2, .int .i64 (x3 : Int)] 84)).alloc (.cells #[.int .i64 y0, .int .i64 y1, .int .i64 y2, .int .i64 (y3 : Int)] 84)).drew = W := ⟨_, rfl⟩; rw [hW] at HT ⊢; clear hW)
        | (have HT := Lib.hid (Two.ba w x0 x1 x2 x3 y0 y1 y2 y3 84); obtain ⟨W, hW⟩ : ∃ W, ((w.alloc (.cells #[.int .i64 y0, .int .i64 y1, .int .i64 y2, .int .i64 (y3 : Int)] 84)).alloc (.cells #[.int .i64 x0, .int .i64 x1, .int .i64 x2, .int .i64 (x3 : Int)] 84)).drew = W := ⟨_, rfl⟩; rw [hW] at HT ⊢; clear hW)
      clear i0 i1 i2 i3 j0 j1 j2 j3 c0 c1
      obtain ⟨p0, p1, p2, p3, q0, q1, q2, q3, hB⟩ := HT.out
      have hB' := Lib.hid hB
      go_wp2_with fail
      have cg : ∀ n os, (Sort.grow (W.drewN n) os).cell? ⟨b, 0, none⟩ = some (.func (.func f) #[] #[]) := cell_grown (Nat.lt_of_lt_of_le hbw hB.size) (by rw [hB.cell (p := ⟨b, 0, none⟩) hbw]; exact HC.out)
      have g0 := cell_grown (World.block_lt_of_cell? _ _ p0) p0
      have g1 := cell_grown (World.block_lt_of_cell? _ _ p1) p1
      have g4 := cell_grown (World.block_lt_of_cell? _ _ p2) p2
      have g2 := cell_grown (World.block_lt_of_cell? _ _ q0) q0
      have g3 := cell_grown (World.block_lt_of_cell? _ _ q1) q1
      have g5 := cell_grown (World.block_lt_of_cell? _ _ q2) q2
      clear p0 p1 p2 p3 q0 q1 q2 q3 hB HT
      go_quiet_grown (first | (go_at_fn f; refine Calls.grown_of (HL2.out _)))
      go_wp2_with fail
      go_ret
      exact ⟨ret_bool HR.out.symm, Below.step hB'.out (below_grow _ _ _)⟩
end Go.Proofs.Ythomklpaafnjhaa
