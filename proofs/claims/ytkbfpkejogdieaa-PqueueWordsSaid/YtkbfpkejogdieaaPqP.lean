/-
  Arguments as integers, bools, lists of integers, of calls and of strings. No condition.
-/
import Derived.Test.YtkbfpkejogdieaaPqO
import Derived.Test.YtkbfpkejogdieaaRows
import Derived.ProofKit
import Derived.OpenShut
import Derived.Lay
import Derived.Lib.LaidTab
import Derived.Stop.LaidErr
import Derived.Deep.Strs
import Derived.Deep.SlicePairs
import Derived.Deep.DeepHandedRow
import Derived.PinnedBridge
import Derived.SevenTiedAt
namespace Go.Proofs.Ytkbfpkejogdieaa
open Go.RowKit
set_option linter.unusedVariables false

theorem own : ownKnob Try.prog.godebug = none := by kernel_rfl
theorem laidOut : laidOutB Try.prog = true := by kernel_rfl
theorem i64_bd {x : Int} (h : (Lit.int .i64 x).wf = true) : -9223372036854775808 ≤ x ∧ x ≤ 9223372036854775807 := by
  simpa [Lit.wf, IntKind.min, IntKind.max, IntKind.signed, IntKind.bits] using h
theorem u8_bd {x : Int} (h : (Lit.int .u8 x).wf = true) : 0 ≤ x ∧ x ≤ 255 := by
  simpa [Lit.wf, IntKind.min, IntKind.max, IntKind.signed, IntKind.bits] using h
theorem cellsInt : Try.prog.cellsOf 3 = 1 := by kernel_rfl
theorem cellsU8 : Try.prog.cellsOf 5 = 1 := by kernel_rfl
theorem cellsStr : Try.prog.cellsOf 9 = 1 := by kernel_rfl
theorem cellsOp : Try.prog.cellsOf 37 = 2 := by kernel_rfl
/-- A slice at address A reads as the calls l: kind and key. -/
def OpsR (w : World) (A : Option Addr) (l : List (Int × Int)) : Prop := 0 < l.length → ∃ b o, A = some ⟨b, o, none⟩ ∧ b < w.heap.size ∧
  ∀ k, k < l.length → w.cell? ⟨b, o + k * 2, none⟩ = some (.int .u8 (l.getD k (0, 0)).1) ∧ w.cell? ⟨b, o + k * 2 + 1, none⟩ = some (.int .i64 (l.getD k (0, 0)).2)
def WideO (l : List (Int × Int)) : Prop := ∀ k, k < l.length → 0 ≤ (l.getD k (0, 0)).1 ∧ (l.getD k (0, 0)).1 ≤ 255 ∧ -9223372036854775808 ≤ (l.getD k (0, 0)).2 ∧ (l.getD k (0, 0)).2 ≤ 9223372036854775807
/-- A slice at address A reads as the strings l. -/
def StR (w : World) (A : Option Addr) (l : List ByteArray) : Prop := 0 < l.length → ∃ b o, A = some ⟨b, o, none⟩ ∧ b < w.heap.size ∧
  ∀ k, k < l.length → w.cell? ⟨b, o + k, none⟩ = some (.string (l.getD k ByteArray.empty))
def WideS (l : List ByteArray) : Prop := ∀ k, k < l.length → (l.getD k ByteArray.empty).size ≤ 9223372036854775807

set_option maxRecDepth 100000 in
/-- A slice of integers that came in, as a list. -/
theorem ints_open {H : Type} {enc : TypeId × Value → H} {W : World} {base : Nat} {v : Value} {d : DataW H} {p : List MemPlace} (hv : Value.okWide Try.prog W .any base 22 v)
    (h : DataW.Trod enc Try.prog W 0 (fun _ => true) true 22 v d p) : ∃ (A : Option Addr) (l : List Int) (c : Nat), v = .slice A l.length c ∧ IntR W A l ∧ WideI l ∧ l.length ≤ c ∧ l.length ≤ 9223372036854775807 := by
  obtain ⟨a0, len, cap, rfl⟩ := Go.WideShapes.okWide_slice Try.underlying22 hv
  obtain ⟨fuel, hf⟩ := h
  rcases Go.ChangeShapes.open_ints Try.underlying22 Try.underlying3 cellsInt hf with ⟨hcs, _⟩ | ⟨a, len', cap', zs, hcs, _, hl, hm, hz, _, hcell, hwz⟩
  · simp [Value.cells] at hcs
    obtain ⟨rfl, rfl, rfl⟩ := hcs
    exact ⟨none, [], 0, rfl, IntR.nil _ _, fun k hk => absurd hk (Nat.not_lt_zero k), by decide, by decide⟩
  · simp [Value.cells] at hcs
    obtain ⟨rfl, rfl, rfl⟩ := hcs
    simp only [if_true] at hz
    unfold maxLen at hm
    by_cases h0 : len = 0
    · subst h0
      exact ⟨some a, [], cap, rfl, IntR.nil _ _, fun k hk => absurd hk (Nat.not_lt_zero k), by simp, by decide⟩
    · obtain ⟨b, off, rfl, hc⟩ := ints_at hcell (by omega)
      have hlen : (zs.take len).length = len := by rw [List.length_take]; omega
      have hget : ∀ k, k < len → (zs.take len).getD k 0 = zs.getD k 0 := fun k hk => by simp [hk]
      refine ⟨_, zs.take len, cap, by rw [hlen], fun _ => ⟨b, off, rfl, World.block_lt_of_cell? _ _ (hc 0 (by omega)), fun k hk => ?_⟩, fun k hk => ?_, by rw [hlen]; omega, by rw [hlen]; omega⟩
      · rw [hlen] at hk
        rw [hget k hk]
        exact hc k (by omega)
      · rw [hlen] at hk
        rw [hget k hk]
        exact i64_bd (hwz _ (by
          have : k < zs.length := by omega
          simp [this]))

set_option maxRecDepth 100000 in
/-- A slice of calls that came in, as a list. -/
theorem ops_open {H : Type} {enc : TypeId × Value → H} {W : World} {base : Nat} {v : Value} {d : DataW H} {p : List MemPlace} (hv : Value.okWide Try.prog W .any base 35 v)
    (h : DataW.Trod enc Try.prog W 0 (fun _ => true) true 35 v d p) : ∃ (A : Option Addr) (l : List (Int × Int)) (c : Nat), v = .slice A l.length c ∧ OpsR W A l ∧ WideO l ∧ l.length ≤ 9223372036854775807 := by
  obtain ⟨a0, len, cap, rfl⟩ := Go.WideShapes.okWide_slice Try.underlying35 hv
  obtain ⟨fuel, hf⟩ := h
  rcases Go.Deep.open_slice_pairs Try.underlying35 Try.underlying37 cellsOp rfl rfl cellsU8 cellsInt hf with ⟨hcs, _⟩ | ⟨a, len', cap', m, n, V0, V1, D0, D1, P0, P1, hcs, _, hl, hm, hmm, _, hi⟩
  · simp [Value.cells] at hcs
    obtain ⟨rfl, rfl, rfl⟩ := hcs
    exact ⟨none, [], 0, rfl, fun h => absurd h (Nat.lt_irrefl _), fun k hk => absurd hk (Nat.not_lt_zero k), by decide⟩
  · simp [Value.cells] at hcs
    obtain ⟨rfl, rfl, rfl⟩ := hcs
    have hml : len ≤ m := by rw [hmm]; split <;> omega
    unfold maxLen at hm
    have each : ∀ i, i < len → ∃ x y : Int, W.cell? (a.add (i * 2)) = some (.int .u8 x) ∧ W.cell? (a.add (i * 2 + 1)) = some (.int .i64 y) ∧ (0 ≤ x ∧ x ≤ 255) ∧ (-9223372036854775808 ≤ y ∧ y ≤ 9223372036854775807) := fun i hil => by
      obtain ⟨e0, e1, f0, f1⟩ := hi i (by omega)
      obtain ⟨x, hx, _, wx⟩ := DataW.trod_int Try.underlying5 f0
      obtain ⟨y, hy, _, wy⟩ := DataW.trod_int Try.underlying3 f1
      simp at hx hy
      rw [hx] at e0
      rw [hy] at e1
      exact ⟨x, y, e0, e1, u8_bd wx, i64_bd wy⟩
    have hl2 : ∃ l : List (Int × Int), l.length = len ∧ ∀ i, i < len → W.cell? (a.add (i * 2)) = some (.int .u8 (l.getD i (0, 0)).1) ∧ W.cell? (a.add (i * 2 + 1)) = some (.int .i64 (l.getD i (0, 0)).2) ∧ (0 ≤ (l.getD i (0, 0)).1 ∧ (l.getD i (0, 0)).1 ≤ 255) ∧ (-9223372036854775808 ≤ (l.getD i (0, 0)).2 ∧ (l.getD i (0, 0)).2 ≤ 9223372036854775807) := by
      have : ∀ k, k ≤ len → ∃ l : List (Int × Int), l.length = k ∧ ∀ i, i < k → W.cell? (a.add (i * 2)) = some (.int .u8 (l.getD i (0, 0)).1) ∧ W.cell? (a.add (i * 2 + 1)) = some (.int .i64 (l.getD i (0, 0)).2) ∧ (0 ≤ (l.getD i (0, 0)).1 ∧ (l.getD i (0, 0)).1 ≤ 255) ∧ (-9223372036854775808 ≤ (l.getD i (0, 0)).2 ∧ (l.getD i (0, 0)).2 ≤ 9223372036854775807) := fun k => by
        induction k with
        | zero => exact fun _ => ⟨[], rfl, fun i hi => absurd hi (Nat.not_lt_zero i)⟩
        | succ k ih =>
          intro hk
          obtain ⟨l, hl, hx⟩ := ih (by omega)
          obtain ⟨x, y, e⟩ := each k (by omega)
          refine ⟨l ++ [(x, y)], by simp [hl], fun i hi => ?_⟩
          by_cases c : i < k
          · have eg : (l ++ [(x, y)]).getD i (0, 0) = l.getD i (0, 0) := by
              rw [List.getD_eq_getElem?_getD, List.getD_eq_getElem?_getD, List.getElem?_append_left (by omega)]
            rw [eg]
            exact hx i c
          · obtain rfl : i = k := by omega
            have eg : (l ++ [(x, y)]).getD i (0, 0) = (x, y) := by
              rw [List.getD_eq_getElem?_getD, List.getElem?_append_right (by omega), hl]
              simp
            rw [eg]
            exact e
      exact this len (Nat.le_refl _)
    obtain ⟨l, hll, hx⟩ := hl2
    refine ⟨some a, l, cap, by rw [hll], fun h0 => ?_, fun k hk => ?_, by omega⟩
    · obtain ⟨e0, _⟩ := hx 0 (by omega)
      obtain ⟨b, off, spot⟩ := a
      have hsp : spot = none := by simpa [Addr.add] using World.cell?_spot e0
      subst hsp
      have hbl : b < W.heap.size := by
        have := World.block_lt_of_cell? _ _ e0
        simpa [Addr.add] using this
      refine ⟨b, off, rfl, hbl, fun k hk => ?_⟩
      obtain ⟨f0, f1, _⟩ := hx k (by omega)
      rw [Go.WideShapes.add_plain] at f0 f1
      rw [Nat.add_assoc]
      exact ⟨f0, f1⟩
    · obtain ⟨_, _, b0, b1⟩ := hx k (by omega)
      exact ⟨b0.1, b0.2, b1.1, b1.2⟩

set_option maxRecDepth 100000 in
/-- A slice of strings that came in, as a list. -/
theorem strs_open {H : Type} {enc : TypeId × Value → H} {W : World} {base : Nat} {v : Value} {d : DataW H} {p : List MemPlace} (hv : Value.okWide Try.prog W .any base 49 v)
    (h : DataW.Trod enc Try.prog W 0 (fun _ => true) true 49 v d p) : ∃ (A : Option Addr) (l : List ByteArray) (c : Nat), v = .slice A l.length c ∧ StR W A l ∧ WideS l ∧ l.length ≤ 9223372036854775807 := by
  obtain ⟨a0, len, cap, rfl⟩ := Go.WideShapes.okWide_slice Try.underlying49 hv
  obtain ⟨fuel, hf⟩ := h
  rcases Go.Deep.open_strs Try.underlying49 Try.underlying9 cellsStr hf with ⟨hcs, _⟩ | ⟨a, len', cap', m, Sx, hcs, _, hl, hm, hmm, _, hi⟩
  · simp [Value.cells] at hcs
    obtain ⟨rfl, rfl, rfl⟩ := hcs
    exact ⟨none, [], 0, rfl, fun h => absurd h (Nat.lt_irrefl _), fun k hk => absurd hk (Nat.not_lt_zero k), by decide⟩
  · simp [Value.cells] at hcs
    obtain ⟨rfl, rfl, rfl⟩ := hcs
    have hml : len ≤ m := by rw [hmm]; split <;> omega
    unfold maxLen at hm hi
    have hlen : ((List.range len).map Sx).length = len := by simp
    have hg : ∀ k, k < len → ((List.range len).map Sx).getD k ByteArray.empty = Sx k := fun k hk => by simp [hk]
    refine ⟨some a, (List.range len).map Sx, cap, by rw [hlen], fun h0 => ?_, fun k hk => ?_, by rw [hlen]; omega⟩
    · rw [hlen] at h0
      have e0 := (hi 0 (by omega)).1
      have hb := World.block_lt_of_cell? _ _ e0
      obtain ⟨b, o, sp⟩ := a
      have hsp : sp = none := by simpa [Addr.add] using World.cell?_spot e0
      subst hsp
      refine ⟨b, o, rfl, by simpa [Addr.add] using hb, fun k hk => ?_⟩
      rw [hlen] at hk
      rw [hg k hk]
      have := (hi k (by omega)).1
      rwa [Addr.add_lit] at this
    · rw [hlen] at hk
      rw [hg k hk]
      have := (hi k (by omega)).2
      omega
end Go.Proofs.Ytkbfpkejogdieaa
