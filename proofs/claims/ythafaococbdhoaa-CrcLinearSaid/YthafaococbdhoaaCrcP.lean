/-
  Arguments as integers, bytes and slices of bytes. No condition.
-/
import Derived.Test.YthafaococbdhoaaCrcH
import Derived.Test.YthafaococbdhoaaRows
import Derived.ProofKit
import Derived.OpenShut
import Derived.Lay
import Derived.Lib.LaidTab
import Derived.Stop.LaidErr
import Derived.Deep.DeepHandedRow
import Derived.PinnedBridge
import Derived.SevenTiedAt
namespace Go.Proofs.Ythafaococbdhoaa
open Go.RowKit
set_option linter.unusedVariables false

theorem own : ownKnob Try.prog.godebug = none := by kernel_rfl
theorem laidOut : laidOutB Try.prog = true := by kernel_rfl
theorem i64_bd {x : Int} (h : (Lit.int .i64 x).wf = true) : -9223372036854775808 ≤ x ∧ x ≤ 9223372036854775807 := by
  simpa [Lit.wf, IntKind.min, IntKind.max, IntKind.signed, IntKind.bits] using h
theorem u8_bd {x : Int} (h : (Lit.int .u8 x).wf = true) : 0 ≤ x ∧ x ≤ 255 := by
  simpa [Lit.wf, IntKind.min, IntKind.max, IntKind.signed, IntKind.bits] using h
theorem cellsInt : Try.prog.cellsOf 3 = 1 := by kernel_rfl
theorem cellsU8 : Try.prog.cellsOf 5 = 1 := by kernel_rfl

set_option maxRecDepth 100000 in
/-- A slice of integers that came in, as a list. -/
theorem ints_open {H : Type} {enc : TypeId × Value → H} {W : World} {base : Nat} {v : Value} {d : DataW H} {p : List MemPlace} (hv : Value.okWide Try.prog W .any base 37 v)
    (h : DataW.Trod enc Try.prog W 0 (fun _ => true) true 37 v d p) : ∃ (A : Option Addr) (l : List Int) (c : Nat), v = .slice A l.length c ∧ IntR W A l ∧ WideI l ∧ l.length ≤ c ∧ l.length ≤ 9223372036854775807 := by
  obtain ⟨a0, len, cap, rfl⟩ := Go.WideShapes.okWide_slice Try.underlying37 hv
  obtain ⟨fuel, hf⟩ := h
  rcases Go.ChangeShapes.open_ints Try.underlying37 Try.underlying3 cellsInt hf with ⟨hcs, _⟩ | ⟨a, len', cap', zs, hcs, _, hl, hm, hz, _, hcell, hwz⟩
  · simp [Value.cells] at hcs
    obtain ⟨rfl, rfl, rfl⟩ := hcs
    exact ⟨none, [], 0, rfl, VsR.nil _ _, fun k hk => absurd hk (Nat.not_lt_zero k), by decide, by decide⟩
  · simp [Value.cells] at hcs
    obtain ⟨rfl, rfl, rfl⟩ := hcs
    simp only [if_true] at hz
    unfold maxLen at hm
    by_cases h0 : len = 0
    · subst h0
      exact ⟨some a, [], cap, rfl, VsR.nil _ _, fun k hk => absurd hk (Nat.not_lt_zero k), by simp, by decide⟩
    · obtain ⟨b, off, rfl, hc⟩ := ints_at hcell (by omega)
      have hlen : (zs.take len).length = len := by rw [List.length_take]; omega
      have hget : ∀ k, k < len → (zs.take len).getD k 0 = zs.getD k 0 := fun k hk => by simp [hk]
      refine ⟨_, zs.take len, cap, by rw [hlen], fun _ => ⟨b, off, rfl, World.block_lt_of_cell? _ _ (hc 0 (by omega)), fun k v hk => ?_⟩, fun k hk => ?_, by rw [hlen]; omega, by rw [hlen]; omega⟩
      · have hk2 := (List.getElem?_eq_some_iff.1 hk).1
        rw [List.length_map, hlen] at hk2
        rw [hc k (by omega)]
        rw [List.getElem?_map, List.getElem?_eq_getElem (by omega)] at hk
        simp at hk
        rw [← hk]
        simp [ic, show k < zs.length by omega]
      · rw [hlen] at hk
        rw [hget k hk]
        exact i64_bd (hwz _ (by
          have : k < zs.length := by omega
          simp [this]))

set_option maxRecDepth 100000 in
/-- A slice of bytes that came in, as a list. -/
theorem bytes_open {H : Type} {enc : TypeId × Value → H} {W : World} {base : Nat} {v : Value} {d : DataW H} {p : List MemPlace} (hv : Value.okWide Try.prog W .any base 22 v)
    (h : DataW.Trod enc Try.prog W 0 (fun _ => true) true 22 v d p) : ∃ (A : Option Addr) (l : List UInt8) (c : Nat), v = .slice A l.length c ∧ BytR W A l ∧ l.length ≤ c ∧ l.length ≤ 9223372036854775807 := by
  obtain ⟨a0, len, cap, rfl⟩ := Go.WideShapes.okWide_slice Try.underlying22 hv
  obtain ⟨fuel, hf⟩ := h
  rcases Go.ChangeShapes.open_ints Try.underlying22 Try.underlying5 cellsU8 hf with ⟨hcs, _⟩ | ⟨a, len', cap', zs, hcs, _, hl, hm, hz, _, hcell, hwz⟩
  · simp [Value.cells] at hcs
    obtain ⟨rfl, rfl, rfl⟩ := hcs
    exact ⟨none, [], 0, rfl, VsR.nil _ _, by decide, by decide⟩
  · simp [Value.cells] at hcs
    obtain ⟨rfl, rfl, rfl⟩ := hcs
    simp only [if_true] at hz
    unfold maxLen at hm
    by_cases h0 : len = 0
    · subst h0
      exact ⟨some a, [], cap, rfl, VsR.nil _ _, by simp, by decide⟩
    · obtain ⟨b, off, rfl, hc⟩ := ints_at hcell (by omega)
      have hlen : ((zs.take len).map fun z => UInt8.ofNat z.toNat).length = len := by rw [List.length_map, List.length_take]; omega
      refine ⟨_, (zs.take len).map fun z => UInt8.ofNat z.toNat, cap, by rw [hlen], fun _ => ⟨b, off, rfl, World.block_lt_of_cell? _ _ (hc 0 (by omega)), fun k v hk => ?_⟩, by rw [hlen]; omega, by rw [hlen]; omega⟩
      have hk2 := (List.getElem?_eq_some_iff.1 hk).1
      rw [List.length_map, hlen] at hk2
      have hkz : k < zs.length := by omega
      have hb := u8_bd (hwz (zs.getD k 0) (by simp [hkz]))
      rw [hc k (by omega)]
      rw [List.getElem?_map, List.getElem?_map, List.getElem?_take_of_lt hk2, List.getElem?_eq_getElem hkz] at hk
      simp only [Option.map_some, Option.some.injEq] at hk
      have e : zs.getD k 0 = zs[k] := by simp [hkz]
      rw [e] at hb ⊢
      rw [← hk]
      unfold bc
      congr 2
      rw [u8_small (by omega)]
      omega
end Go.Proofs.Ythafaococbdhoaa
