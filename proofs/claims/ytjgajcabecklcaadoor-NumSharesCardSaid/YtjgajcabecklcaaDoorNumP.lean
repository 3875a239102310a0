/-
  From the rows' condition (the listed variables of Go's library hold what the program's text lays) to the facts that the contracts of this seat ask; and a world that meets it. No condition beside it.
-/
import Derived.Test.YtjgajcabecklcaaDoorNumO
import Derived.Test.YtjgajcabecklcaaDoorRows
import Derived.ProofKit
import Derived.OpenShut
import Derived.Lay
import Derived.PinnedBridge
import Derived.Lib.LaidTab
import Derived.Stop.LaidErr
import Derived.Deep.DeepHandedRow
import Derived.SevenTiedAt
namespace Go.Proofs.YtjgajcabecklcaaDoor
open Go.RowKit
set_option linter.unusedVariables false

theorem own : ownKnob Tryd.prog.godebug = none := by kernel_rfl
theorem g64 : Tryd.prog.globalNamed "math/bits.deBruijn64tab" = some 9 := by kernel_rfl
theorem g64Type : (Tryd.prog.globals[9]?).map (·.type) = some 126 := by kernel_rfl
theorem gPowType : (Tryd.prog.globals[7]?).map (·.type) = some 115 := by kernel_rfl
theorem gRng : Tryd.prog.globalNamed "strconv.ErrRange" = some 3 := by kernel_rfl
theorem gSyn : Tryd.prog.globalNamed "strconv.ErrSyntax" = some 2 := by kernel_rfl
theorem gRngType : (Tryd.prog.globals[3]?).map (·.type) = some 56 := by kernel_rfl
theorem gSynType : (Tryd.prog.globals[2]?).map (·.type) = some 56 := by kernel_rfl
theorem cellsTab64 : Tryd.prog.cellsOf 126 = 64 := by kernel_rfl
theorem cellsTabPow : Tryd.prog.cellsOf 115 = 20 := by kernel_rfl
theorem cellsU8 : Tryd.prog.cellsOf 5 = 1 := by kernel_rfl
theorem cellsU64 : Tryd.prog.cellsOf 60 = 1 := by kernel_rfl
theorem cellsErr : Tryd.prog.cellsOf 122 = 1 := by kernel_rfl
theorem cellsStr : Tryd.prog.cellsOf 9 = 1 := by kernel_rfl
theorem star : "*errors.errorString" = "*" ++ "errors.errorString" := by decide +kernel
theorem rowErr : ∀ u, Tryd.prog.typeName? 3 u = some "*errors.errorString" → u = 120 := fun u h =>
  typeName_ptr_named (nm := "errors.errorString") (by rw [← star]; kernel_rfl) (by kernel_rfl) (by decide) u (by rw [← star]; exact h)

theorem facts_of (W : World) (hL : laidMetH Tryd.prog Rows.numSumsRow.laid W) (hsh : W.ShapedOpen Tryd.prog) : Facts W := by
  rw [MakeChecks.laidMetH_plain _ _ _ (by kernel_rfl)] at hL
  have h1 := hL.tail
  have t64 := Lib.tabIs_of_head (zs := [0, 1, 56, 2, 57, 49, 28, 3, 61, 58, 42, 50, 38, 29, 17, 4, 62, 47, 59, 36, 45, 43, 51, 22, 53, 39, 33, 30, 24, 18, 12, 5, 63, 55, 48, 27, 60, 41, 37, 16, 46, 35, 44, 21, 52, 32, 23, 11, 54, 26, 40, 15, 34, 20, 31, 10, 25, 14, 19, 9, 13, 8, 7, 6]) g64 g64Type Tryd.underlying126 Tryd.underlying5 cellsU8 cellsTab64 h1
  have h2 := h1.tail
  have tp := Lib.tabIs_of_head (zs := Lib.pow10Tab) gPow gPowType Tryd.underlying115 Tryd.underlying60 cellsU64 cellsTabPow h2
  have h3 := h2.tail.tail
  obtain ⟨a, s, hr, _, _, _⟩ := laid_sentinel h3 gRng gRngType Tryd.underlying56 rowErr Tryd.underlying120 Tryd.underlying122 rfl rfl Tryd.underlying9 cellsErr cellsStr
  obtain ⟨a2, s2, hs, _, _, _⟩ := laid_sentinel h3.tail gSyn gSynType Tryd.underlying56 rowErr Tryd.underlying120 Tryd.underlying122 rfl rfl Tryd.underlying9 cellsErr cellsStr
  have c64 := t64.cell g64 0 (by decide)
  refine ⟨tp, World.block_lt_of_cell? _ _ c64, ⟨120, .pointer (some a2), ?_⟩, ⟨120, .pointer (some a), ?_⟩, Tryd.laysM154.s1_3 W hsh⟩
  · have := World.var?_cell gSyn hs 0
    simpa using this
  · have := World.var?_cell gRng hr 0
    simpa using this

theorem laidOut : laidOutB Tryd.prog = true := by kernel_rfl
theorem cellsInt : Tryd.prog.cellsOf 3 = 1 := by kernel_rfl
theorem i64_bd {x : Int} (h : (Lit.int .i64 x).wf = true) : -9223372036854775808 ≤ x ∧ x ≤ 9223372036854775807 := by
  simpa [Lit.wf, IntKind.min, IntKind.max, IntKind.signed, IntKind.bits] using h

set_option maxRecDepth 100000 in
/-- A slice of integers that came in, as a list. -/
theorem ints_open {H : Type} {enc : TypeId × Value → H} {W : World} {base : Nat} {v : Value} {d : DataW H} {p : List MemPlace} (hv : Value.okWide Tryd.prog W .any base 27 v)
    (h : DataW.Trod enc Tryd.prog W 0 (fun _ => true) true 27 v d p) : ∃ l : List Int, IntsAt W v l ∧ Wide l := by
  obtain ⟨a0, len, cap, rfl⟩ := Go.WideShapes.okWide_slice Tryd.underlying27 hv
  obtain ⟨fuel, hf⟩ := h
  rcases Go.ChangeShapes.open_ints Tryd.underlying27 Tryd.underlying3 cellsInt hf with ⟨hcs, _⟩ | ⟨a, len', cap', zs, hcs, _, hl, hm, hz, _, hcell, hwz⟩
  · simp [Value.cells] at hcs
    obtain ⟨rfl, rfl, rfl⟩ := hcs
    exact ⟨[], Or.inl ⟨rfl, Or.inl rfl⟩, fun k hk => absurd hk (Nat.not_lt_zero k)⟩
  · simp [Value.cells] at hcs
    obtain ⟨rfl, rfl, rfl⟩ := hcs
    simp only [if_true] at hz
    unfold maxLen at hm
    by_cases h0 : len = 0
    · subst h0
      exact ⟨[], Or.inl ⟨rfl, Or.inr ⟨a, cap, rfl⟩⟩, fun k hk => absurd hk (Nat.not_lt_zero k)⟩
    · obtain ⟨b, off, rfl, hc⟩ := ints_at hcell (by omega)
      have hlen : (zs.take len).length = len := by rw [List.length_take]; omega
      have hget : ∀ k, k < len → (zs.take len).getD k 0 = zs.getD k 0 := fun k hk => by simp [hk]
      refine ⟨zs.take len, Or.inr ⟨b, off, cap, by rw [hlen], by rw [hlen]; omega, by rw [hlen]; omega, fun k hk => ?_⟩, fun k hk => ?_⟩
      · rw [hlen] at hk
        rw [hget k hk]
        exact hc k (by omega)
      · rw [hlen] at hk
        rw [hget k hk]
        exact i64_bd (hwz _ (by
          have : k < zs.length := by omega
          simp [this]))
end Go.Proofs.YtjgajcabecklcaaDoor
