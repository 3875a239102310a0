/-
  From the rows' condition (the variable start holds what the program's text lays) to the facts that the contracts ask; arguments as keys, integers, bytes and lists of integers. No condition beside it.
-/
import Derived.Test.YthalnnhkeaanhaaDoorMacK
import Derived.Test.YthalnnhkeaanhaaDoorRows
import Derived.Test.YthalnnhkeaanhaaDoorTie
import Derived.Test.YthalnnhkeaanhaaDoorCards
import Derived.ProofKit
import Derived.OpenShut
import Derived.Lay
import Derived.Lib.LaidTab
import Derived.Stop.LaidErr
import Derived.Deep.DeepHandedRow
import Derived.PinnedBridge
import Derived.SevenTiedAt
import Derived.Lib.SmallJoins
namespace Go.Proofs.YthalnnhkeaanhaaDoor
open Go.RowKit
set_option linter.unusedVariables false

theorem own : ownKnob Tryd.prog.godebug = none := by kernel_rfl
theorem laidOut : laidOutB Tryd.prog = true := by kernel_rfl
theorem i64_bd {x : Int} (h : (Lit.int .i64 x).wf = true) : -9223372036854775808 ≤ x ∧ x ≤ 9223372036854775807 := by
  simpa [Lit.wf, IntKind.min, IntKind.max, IntKind.signed, IntKind.bits] using h
theorem u8_bd {x : Int} (h : (Lit.int .u8 x).wf = true) : 0 ≤ x ∧ x ≤ 255 := by
  simpa [Lit.wf, IntKind.min, IntKind.max, IntKind.signed, IntKind.bits] using h
theorem u64_bd {x : Int} (h : (Lit.int .u64 x).wf = true) : 0 ≤ x ∧ x ≤ 18446744073709551615 := by
  simpa [Lit.wf, IntKind.min, IntKind.max, IntKind.signed, IntKind.bits] using h
theorem cellsKey : Tryd.prog.cellsOf 24 = 2 := by kernel_rfl
theorem cellsU64 : Tryd.prog.cellsOf 22 = 1 := by kernel_rfl
theorem cellsFour : Tryd.prog.cellsOf 41 = 4 := by kernel_rfl
theorem gStart : Tryd.prog.globalNamed "bikeshare/mac.start" = some 0 := by kernel_rfl
theorem gStartType : (Tryd.prog.globals[0]?).map (·.type) = some 41 := by kernel_rfl
theorem facts_of (W : World) (hL : laidMetH Tryd.prog Rows.macSumsRow.laid W) (hsh : W.ShapedOpen Tryd.prog) : Facts W := by
  rw [MakeChecks.laidMetH_plain _ _ _ (by kernel_rfl)] at hL
  have t := Lib.tabIs_of_head (zs := [8317987319222330741, 7237128888997146477, 7816392313619706465, 8387220255154660723]) gStart gStartType Tryd.underlying41 Tryd.underlying22 cellsU64 cellsFour hL
  exact ⟨t.cell gStart 0 (by decide), t.cell gStart 1 (by decide), t.cell gStart 2 (by decide), t.cell gStart 3 (by decide)⟩
set_option maxRecDepth 100000 in
/-- A key that came in. -/
theorem key_open {H : Type} {enc : TypeId × Value → H} {W : World} {base : Nat} {v : Value} {d : DataW H} {p : List MemPlace} (hv : Value.okWide Tryd.prog W .any base 24 v)
    (h : DataW.Trod enc Tryd.prog W 0 (fun _ => true) true 24 v d p) : ∃ a b : Nat, v = .agg #[.int .u64 (a : Int), .int .u64 (b : Int)] ∧ a < 18446744073709551616 ∧ b < 18446744073709551616 := by
  obtain ⟨v0, v1, y0, y1, n, rfl, _, _, h0, h1⟩ := Joins.open_agg2 Tryd.underlying24 (by kernel_rfl) cellsKey hv h
  obtain ⟨a, ha, _, wa⟩ := DataW.trod_int Tryd.underlying22 h0
  obtain ⟨b, hb, _, wb⟩ := DataW.trod_int Tryd.underlying22 h1
  simp at ha hb
  subst ha hb
  have ba := u64_bd wa
  have bb := u64_bd wb
  obtain ⟨a, rfl⟩ := Int.eq_ofNat_of_zero_le ba.1
  obtain ⟨b, rfl⟩ := Int.eq_ofNat_of_zero_le bb.1
  exact ⟨a, b, rfl, by omega, by omega⟩
theorem cellsInt : Tryd.prog.cellsOf 3 = 1 := by kernel_rfl
theorem cellsU8 : Tryd.prog.cellsOf 5 = 1 := by kernel_rfl

set_option maxRecDepth 100000 in
/-- A slice of integers that came in, as a list. -/
theorem ints_open {H : Type} {enc : TypeId × Value → H} {W : World} {base : Nat} {v : Value} {d : DataW H} {p : List MemPlace} (hv : Value.okWide Tryd.prog W .any base 29 v)
    (h : DataW.Trod enc Tryd.prog W 0 (fun _ => true) true 29 v d p) : ∃ (A : Option Addr) (l : List Int) (c : Nat), v = .slice A l.length c ∧ IntR W A l ∧ WideI l ∧ l.length ≤ c ∧ l.length ≤ 9223372036854775807 := by
  obtain ⟨a0, len, cap, rfl⟩ := Go.WideShapes.okWide_slice Tryd.underlying29 hv
  obtain ⟨fuel, hf⟩ := h
  rcases Go.ChangeShapes.open_ints Tryd.underlying29 Tryd.underlying3 cellsInt hf with ⟨hcs, _⟩ | ⟨a, len', cap', zs, hcs, _, hl, hm, hz, _, hcell, hwz⟩
  · simp [Value.cells] at hcs
    obtain ⟨rfl, rfl, rfl⟩ := hcs
    exact ⟨none, [], 0, rfl, VsR.nil _ _, fun k hk => absurd hk (Nat.not_lt_zero k), by decide, by decide⟩
  · simp [Value.cells] at hcs
    obtain ⟨rfl, rfl, rfl⟩ := hcs
    simp only [if_true] at hz
    unfold maxLen at hm
    by_cases h0 : len = 0
    · subst h0
      exact ⟨some a, [], cap, rfl, VsR.nil _ _, fun k hk => absurd hk (Nat.not_lt_zero k), by simp, by decide⟩
    · obtain ⟨b, off, rfl, hc⟩ := ints_at hcell (by omega)
      have hlen : (zs.take len).length = len := by rw [List.length_take]; omega
      have hget : ∀ k, k < len → (zs.take len).getD k 0 = zs.getD k 0 := fun k hk => by simp [hk]
      refine ⟨_, zs.take len, cap, by rw [hlen], fun _ => ⟨b, off, rfl, World.block_lt_of_cell? _ _ (hc 0 (by omega)), fun k v hk => ?_⟩, fun k hk => ?_, by rw [hlen]; omega, by rw [hlen]; omega⟩
      · have hk2 := (List.getElem?_eq_some_iff.1 hk).1
        rw [List.length_map, hlen] at hk2
        rw [hc k (by omega)]
        rw [List.getElem?_map, List.getElem?_eq_getElem (by omega)] at hk
        simp at hk
        rw [← hk]
        simp [ic, show k < zs.length by omega]
      · rw [hlen] at hk
        rw [hget k hk]
        exact i64_bd (hwz _ (by
          have : k < zs.length := by omega
          simp [this]))

set_option maxRecDepth 100000 in
/-- A slice of bytes that came in, as a list. -/
theorem bytes_open {H : Type} {enc : TypeId × Value → H} {W : World} {base : Nat} {v : Value} {d : DataW H} {p : List MemPlace} (hv : Value.okWide Tryd.prog W .any base 25 v)
    (h : DataW.Trod enc Tryd.prog W 0 (fun _ => true) true 25 v d p) : ∃ (A : Option Addr) (l : List UInt8) (c : Nat), v = .slice A l.length c ∧ BytR W A l ∧ l.length ≤ c ∧ l.length ≤ 9223372036854775807 := by
  obtain ⟨a0, len, cap, rfl⟩ := Go.WideShapes.okWide_slice Tryd.underlying25 hv
  obtain ⟨fuel, hf⟩ := h
  rcases Go.ChangeShapes.open_ints Tryd.underlying25 Tryd.underlying5 cellsU8 hf with ⟨hcs, _⟩ | ⟨a, len', cap', zs, hcs, _, hl, hm, hz, _, hcell, hwz⟩
  · simp [Value.cells] at hcs
    obtain ⟨rfl, rfl, rfl⟩ := hcs
    exact ⟨none, [], 0, rfl, VsR.nil _ _, by decide, by decide⟩
  · simp [Value.cells] at hcs
    obtain ⟨rfl, rfl, rfl⟩ := hcs
    simp only [if_true] at hz
    unfold maxLen at hm
    by_cases h0 : len = 0
    · subst h0
      exact ⟨some a, [], cap, rfl, VsR.nil _ _, by simp, by decide⟩
    · obtain ⟨b, off, rfl, hc⟩ := ints_at hcell (by omega)
      have hlen : ((zs.take len).map fun z => UInt8.ofNat z.toNat).length = len := by rw [List.length_map, List.length_take]; omega
      refine ⟨_, (zs.take len).map fun z => UInt8.ofNat z.toNat, cap, by rw [hlen], fun _ => ⟨b, off, rfl, World.block_lt_of_cell? _ _ (hc 0 (by omega)), fun k v hk => ?_⟩, by rw [hlen]; omega, by rw [hlen]; omega⟩
      have hk2 := (List.getElem?_eq_some_iff.1 hk).1
      rw [List.length_map, hlen] at hk2
      have hkz : k < zs.length := by omega
      have hb := u8_bd (hwz (zs.getD k 0) (by simp [hkz]))
      rw [hc k (by omega)]
      rw [List.getElem?_map, List.getElem?_map, List.getElem?_take_of_lt hk2, List.getElem?_eq_getElem hkz] at hk
      simp only [Option.map_some, Option.some.injEq] at hk
      have e : zs.getD k 0 = zs[k] := by simp [hkz]
      rw [e] at hb ⊢
      rw [← hk]
      unfold bc
      congr 2
      rw [u8_small (by omega)]
      omega
end Go.Proofs.YthalnnhkeaanhaaDoor
