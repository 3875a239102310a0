/-
  From the rows' condition (the listed variables of Go's library hold what the program's text lays) to the facts that the contracts of this seat ask; arguments as windows and lists of windows. No condition beside it.
-/
import Derived.Test.YtkiedopknoekpaaDoorClkY
import Derived.Test.YtkiedopknoekpaaDoorClkU
import Derived.Test.YtkiedopknoekpaaDoorClkXa
import Derived.Test.YtkiedopknoekpaaDoorRows
import Derived.Test.YtkiedopknoekpaaDoorTie
import Derived.Test.YtkiedopknoekpaaDoorCards
import Derived.ProofKit
import Derived.OpenShut
import Derived.Lay
import Derived.PinnedBridge
import Derived.Lib.LaidTab
import Derived.Stop.LaidErr
import Derived.Deep.DeepHandedRow
import Derived.Deep.SlicePairs
import Derived.SevenTiedAt
namespace Go.Proofs.YtkiedopknoekpaaDoor
open Go.RowKit
set_option linter.unusedVariables false

theorem own : ownKnob Tryd.prog.godebug = none := by kernel_rfl
theorem g64 : Tryd.prog.globalNamed "math/bits.deBruijn64tab" = some 5 := by kernel_rfl
theorem g64Type : (Tryd.prog.globals[5]?).map (·.type) = some 119 := by kernel_rfl
theorem gPowType : (Tryd.prog.globals[3]?).map (·.type) = some 105 := by kernel_rfl
theorem gRng : Tryd.prog.globalNamed "strconv.ErrRange" = some 2 := by kernel_rfl
theorem gSyn : Tryd.prog.globalNamed "strconv.ErrSyntax" = some 1 := by kernel_rfl
theorem gRngType : (Tryd.prog.globals[2]?).map (·.type) = some 54 := by kernel_rfl
theorem gSynType : (Tryd.prog.globals[1]?).map (·.type) = some 54 := by kernel_rfl
theorem cellsTab64 : Tryd.prog.cellsOf 119 = 64 := by kernel_rfl
theorem cellsTabPow : Tryd.prog.cellsOf 105 = 20 := by kernel_rfl
theorem cellsU8 : Tryd.prog.cellsOf 5 = 1 := by kernel_rfl
theorem cellsU64 : Tryd.prog.cellsOf 85 = 1 := by kernel_rfl
theorem cellsErr : Tryd.prog.cellsOf 114 = 1 := by kernel_rfl
theorem cellsStr : Tryd.prog.cellsOf 9 = 1 := by kernel_rfl
theorem star : "*errors.errorString" = "*" ++ "errors.errorString" := by decide +kernel
theorem rowErr : ∀ u, Tryd.prog.typeName? 3 u = some "*errors.errorString" → u = 112 := fun u h =>
  typeName_ptr_named (nm := "errors.errorString") (by rw [← star]; kernel_rfl) (by kernel_rfl) (by decide) u (by rw [← star]; exact h)

theorem facts_of (W : World) (hL : laidMetH Tryd.prog Rows.clockSetsRow.laid W) (hsh : W.ShapedOpen Tryd.prog) : Facts W := by
  rw [MakeChecks.laidMetH_plain _ _ _ (by kernel_rfl)] at hL
  have h1 := hL.tail
  have t64 := Lib.tabIs_of_head (zs := [0, 1, 56, 2, 57, 49, 28, 3, 61, 58, 42, 50, 38, 29, 17, 4, 62, 47, 59, 36, 45, 43, 51, 22, 53, 39, 33, 30, 24, 18, 12, 5, 63, 55, 48, 27, 60, 41, 37, 16, 46, 35, 44, 21, 52, 32, 23, 11, 54, 26, 40, 15, 34, 20, 31, 10, 25, 14, 19, 9, 13, 8, 7, 6]) g64 g64Type Tryd.underlying119 Tryd.underlying5 cellsU8 cellsTab64 h1
  have h2 := h1.tail
  have tp := Lib.tabIs_of_head (zs := Lib.pow10Tab) gPow gPowType Tryd.underlying105 Tryd.underlying85 cellsU64 cellsTabPow h2
  have h3 := h2.tail
  obtain ⟨a, s, hr, _, _, _⟩ := laid_sentinel h3 gRng gRngType Tryd.underlying54 rowErr Tryd.underlying112 Tryd.underlying114 rfl rfl Tryd.underlying9 cellsErr cellsStr
  obtain ⟨a2, s2, hs, _, _, _⟩ := laid_sentinel h3.tail gSyn gSynType Tryd.underlying54 rowErr Tryd.underlying112 Tryd.underlying114 rfl rfl Tryd.underlying9 cellsErr cellsStr
  have c64 := t64.cell g64 0 (by decide)
  refine ⟨tp, World.block_lt_of_cell? _ _ c64, ⟨112, .pointer (some a2), ?_⟩, ⟨112, .pointer (some a), ?_⟩, Tryd.laysM145.s1_3 W hsh⟩
  · have := World.var?_cell gSyn hs 0
    simpa using this
  · have := World.var?_cell gRng hr 0
    simpa using this

theorem laidOut : laidOutB Tryd.prog = true := by kernel_rfl
theorem i64_bd {x : Int} (h : (Lit.int .i64 x).wf = true) : -9223372036854775808 ≤ x ∧ x ≤ 9223372036854775807 := by
  simpa [Lit.wf, IntKind.min, IntKind.max, IntKind.signed, IntKind.bits] using h
theorem cellsWin : Tryd.prog.cellsOf 23 = 2 := by kernel_rfl
theorem cellsInt : Tryd.prog.cellsOf 3 = 1 := by kernel_rfl
theorem addr_block {P : Program} {w : World} {a : Addr} {v : Value} (h : w.cell? a = some v) : a.block < w.heap.size := World.block_lt_of_cell? _ _ h

set_option maxRecDepth 100000 in
/-- A window that came in. -/
theorem win_open {H : Type} {enc : TypeId × Value → H} {W : World} {base : Nat} {v : Value} {d : DataW H} {p : List MemPlace} (hv : Value.okWide Tryd.prog W .any base 23 v)
    (h : DataW.Trod enc Tryd.prog W 0 (fun _ => true) true 23 v d p) : ∃ a b : Int, v = .agg #[.int .i64 a, .int .i64 b] ∧ -9223372036854775808 ≤ a ∧ a ≤ 9223372036854775807 ∧ -9223372036854775808 ≤ b ∧ b ≤ 9223372036854775807 := by
  obtain ⟨v0, v1, y0, y1, n, rfl, _, _, h0, h1⟩ := Joins.open_agg2 Tryd.underlying23 (by kernel_rfl) cellsWin hv h
  obtain ⟨a, ha, _, wa⟩ := DataW.trod_int Tryd.underlying3 h0
  obtain ⟨b, hb, _, wb⟩ := DataW.trod_int Tryd.underlying3 h1
  simp at ha hb
  subst ha hb
  have := i64_bd wa
  have := i64_bd wb
  exact ⟨a, b, rfl, by omega, by omega, by omega, by omega⟩

set_option maxRecDepth 100000 in
/-- A slice of windows that came in, as a list. -/
theorem wins_open {H : Type} {enc : TypeId × Value → H} {W : World} {base : Nat} {v : Value} {d : DataW H} {p : List MemPlace} (hv : Value.okWide Tryd.prog W .any base 30 v)
    (h : DataW.Trod enc Tryd.prog W 0 (fun _ => true) true 30 v d p) : ∃ (A : Option Addr) (l : List Win) (c : Nat), v = .slice A l.length c ∧ WsR W A l ∧ WideW l ∧ l.length ≤ 9223372036854775807 := by
  obtain ⟨a0, len, cap, rfl⟩ := Go.WideShapes.okWide_slice Tryd.underlying30 hv
  obtain ⟨fuel, hf⟩ := h
  rcases Go.Deep.open_slice_pairs Tryd.underlying30 Tryd.underlying23 cellsWin rfl rfl cellsInt cellsInt hf with ⟨hcs, _⟩ | ⟨a, len', cap', m, n, V0, V1, D0, D1, P0, P1, hcs, _, hl, hm, hmm, _, hi⟩
  · simp [Value.cells] at hcs
    obtain ⟨rfl, rfl, rfl⟩ := hcs
    exact ⟨none, [], 0, rfl, fun h => absurd h (Nat.lt_irrefl _), fun k hk => absurd hk (Nat.not_lt_zero k), by decide⟩
  · simp [Value.cells] at hcs
    obtain ⟨rfl, rfl, rfl⟩ := hcs
    have hml : len ≤ m := by rw [hmm]; split <;> omega
    unfold maxLen at hm
    have each : ∀ i, i < len → ∃ x y : Int, W.cell? (a.add (i * 2)) = some (.int .i64 x) ∧ W.cell? (a.add (i * 2 + 1)) = some (.int .i64 y) ∧ (-9223372036854775808 ≤ x ∧ x ≤ 9223372036854775807) ∧ (-9223372036854775808 ≤ y ∧ y ≤ 9223372036854775807) := fun i hil => by
      obtain ⟨e0, e1, f0, f1⟩ := hi i (by omega)
      obtain ⟨x, hx, _, wx⟩ := DataW.trod_int Tryd.underlying3 f0
      obtain ⟨y, hy, _, wy⟩ := DataW.trod_int Tryd.underlying3 f1
      simp at hx hy
      rw [hx] at e0
      rw [hy] at e1
      exact ⟨x, y, e0, e1, i64_bd wx, i64_bd wy⟩
    have hl2 : ∃ l : List Win, l.length = len ∧ ∀ i, i < len → W.cell? (a.add (i * 2)) = some (.int .i64 (l.getD i (0, 0)).1) ∧ W.cell? (a.add (i * 2 + 1)) = some (.int .i64 (l.getD i (0, 0)).2) ∧ (-9223372036854775808 ≤ (l.getD i (0, 0)).1 ∧ (l.getD i (0, 0)).1 ≤ 9223372036854775807) ∧ (-9223372036854775808 ≤ (l.getD i (0, 0)).2 ∧ (l.getD i (0, 0)).2 ≤ 9223372036854775807) := by
      have : ∀ k, k ≤ len → ∃ l : List Win, l.length = k ∧ ∀ i, i < k → W.cell? (a.add (i * 2)) = some (.int .i64 (l.getD i (0, 0)).1) ∧ W.cell? (a.add (i * 2 + 1)) = some (.int .i64 (l.getD i (0, 0)).2) ∧ (-9223372036854775808 ≤ (l.getD i (0, 0)).1 ∧ (l.getD i (0, 0)).1 ≤ 9223372036854775807) ∧ (-9223372036854775808 ≤ (l.getD i (0, 0)).2 ∧ (l.getD i (0, 0)).2 ≤ 9223372036854775807) := fun k => by
        induction k with
        | zero => exact fun _ => ⟨[], rfl, fun i hi => absurd hi (Nat.not_lt_zero i)⟩
        | succ k ih =>
          intro hk
          obtain ⟨l, hl, hx⟩ := ih (by omega)
          obtain ⟨x, y, e⟩ := each k (by omega)
          refine ⟨l ++ [(x, y)], by simp [hl], fun i hi => ?_⟩
          by_cases c : i < k
          · have eg : (l ++ [(x, y)]).getD i (0, 0) = l.getD i (0, 0) := by
              rw [List.getD_eq_getElem?_getD, List.getD_eq_getElem?_getD, List.getElem?_append_left (by omega)]
            rw [eg]
            exact hx i c
          · obtain rfl : i = k := by omega
            have eg : (l ++ [(x, y)]).getD i (0, 0) = (x, y) := by
              rw [List.getD_eq_getElem?_getD, List.getElem?_append_right (by omega), hl]
              simp
            rw [eg]
            exact e
      exact this len (Nat.le_refl _)
    obtain ⟨l, hll, hx⟩ := hl2
    refine ⟨some a, l, cap, by rw [hll], fun h0 => ?_, fun k hk => ?_, by omega⟩
    · obtain ⟨e0, _⟩ := hx 0 (by omega)
      obtain ⟨b, off, spot⟩ := a
      have hsp : spot = none := by simpa [Addr.add] using World.cell?_spot e0
      subst hsp
      have hbl : b < W.heap.size := by
        have := World.block_lt_of_cell? _ _ e0
        simpa [Addr.add] using this
      refine ⟨b, off, rfl, hbl, fun k hk => ?_⟩
      obtain ⟨f0, f1, _⟩ := hx k (by omega)
      rw [Go.WideShapes.add_plain] at f0 f1
      rw [Nat.add_assoc]
      exact ⟨f0, f1⟩
    · obtain ⟨_, _, b0, b1⟩ := hx k (by omega)
      exact ⟨b0.1, b0.2, b1.1, b1.2⟩
end Go.Proofs.YtkiedopknoekpaaDoor
