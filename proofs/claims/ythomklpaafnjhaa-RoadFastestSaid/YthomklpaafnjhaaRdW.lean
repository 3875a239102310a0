/-
  Arguments as integers, lists of integers, networks, edges and arrays of three. No condition.
-/
import Derived.Test.YthomklpaafnjhaaRdV
import Derived.Test.YthomklpaafnjhaaRows
import Derived.ProofKit
import Derived.OpenShut
import Derived.Lay
import Derived.Lib.LaidTab
import Derived.Stop.LaidErr
import Derived.Deep.Strs
import Derived.Deep.Slices
import Derived.Deep.DeepHandedRow
import Derived.PinnedBridge
import Derived.SevenTiedAt
import Derived.Lib.SmallJoins
import Derived.Laws.IdiomArrays
namespace Go.Proofs.Ythomklpaafnjhaa
open Go.RowKit
set_option linter.unusedVariables false

theorem own : ownKnob Try.prog.godebug = none := by kernel_rfl
theorem laidOut : laidOutB Try.prog = true := by kernel_rfl
theorem i64_bd {x : Int} (h : (Lit.int .i64 x).wf = true) : -9223372036854775808 ≤ x ∧ x ≤ 9223372036854775807 := by
  simpa [Lit.wf, IntKind.min, IntKind.max, IntKind.signed, IntKind.bits] using h
theorem cellsInt : Try.prog.cellsOf 3 = 1 := by kernel_rfl
theorem cellsEdge : Try.prog.cellsOf 43 = 3 := by kernel_rfl
theorem cellsRoad : Try.prog.cellsOf 24 = 2 := by kernel_rfl
theorem cellsArr : Try.prog.cellsOf 41 = 3 := by kernel_rfl
set_option maxRecDepth 100000 in
/-- A slice of integers that came in, as a list. -/
theorem ints_open {H : Type} {enc : TypeId × Value → H} {W : World} {base : Nat} {v : Value} {d : DataW H} {p : List MemPlace} (hv : Value.okWide Try.prog W .any base 27 v)
    (h : DataW.Trod enc Try.prog W 0 (fun _ => true) true 27 v d p) : ∃ (A : Option Addr) (l : List Int) (c : Nat), v = .slice A l.length c ∧ IntR W A l ∧ WideI l ∧ l.length ≤ c ∧ l.length ≤ 9223372036854775807 := by
  obtain ⟨a0, len, cap, rfl⟩ := Go.WideShapes.okWide_slice Try.underlying27 hv
  obtain ⟨fuel, hf⟩ := h
  rcases Go.ChangeShapes.open_ints Try.underlying27 Try.underlying3 cellsInt hf with ⟨hcs, _⟩ | ⟨a, len', cap', zs, hcs, _, hl, hm, hz, _, hcell, hwz⟩
  · simp [Value.cells] at hcs
    obtain ⟨rfl, rfl, rfl⟩ := hcs
    exact ⟨none, [], 0, rfl, IntR.nil _ _, fun k hk => absurd hk (Nat.not_lt_zero k), by decide, by decide⟩
  · simp [Value.cells] at hcs
    obtain ⟨rfl, rfl, rfl⟩ := hcs
    simp only [if_true] at hz
    unfold maxLen at hm
    by_cases h0 : len = 0
    · subst h0
      exact ⟨some a, [], cap, rfl, IntR.nil _ _, fun k hk => absurd hk (Nat.not_lt_zero k), by simp, by decide⟩
    · obtain ⟨b, off, rfl, hc⟩ := ints_at hcell (by omega)
      have hlen : (zs.take len).length = len := by rw [List.length_take]; omega
      have hget : ∀ k, k < len → (zs.take len).getD k 0 = zs.getD k 0 := fun k hk => by simp [hk]
      refine ⟨_, zs.take len, cap, by rw [hlen], fun _ => ⟨b, off, rfl, World.block_lt_of_cell? _ _ (hc 0 (by omega)), fun k hk => ?_⟩, fun k hk => ?_, by rw [hlen]; omega, by rw [hlen]; omega⟩
      · rw [hlen] at hk
        rw [hget k hk]
        exact hc k (by omega)
      · rw [hlen] at hk
        rw [hget k hk]
        exact i64_bd (hwz _ (by
          have : k < zs.length := by omega
          simp [this]))

set_option maxRecDepth 100000 in
/-- A slice of edges that came in, as a list. -/
theorem edges_open {H : Type} {enc : TypeId × Value → H} {W : World} {fuel : Nat} {v : Value} {x : DataW H × List MemPlace}
    (hf : DataW.trod enc Try.prog W 0 (fun _ => true) true fuel 22 [v] = some x) : ∃ (A : Option Addr) (l : List Ed) (c : Nat), v = .slice A l.length c ∧ EdR W A l ∧ l.length ≤ 9223372036854775807 := by
  rcases Go.Deep.open_slice Try.underlying22 hf with ⟨hcs, _⟩ | ⟨a, len, cap, m, n, D, Pl, hcs, _, hl, hm, hmm, _, hi⟩
  · simp at hcs
    subst hcs
    exact ⟨none, [], 0, rfl, fun h => absurd h (Nat.lt_irrefl _), by decide⟩
  · simp at hcs
    subst hcs
    have hml : len ≤ m := by rw [hmm]; split <;> omega
    unfold maxLen at hm
    have each : ∀ i, i < len → ∃ e : Ed, W.cell? (a.add (i * 3)) = some (.int .i64 e.f) ∧ W.cell? (a.add (i * 3 + 1)) = some (.int .i64 e.t) ∧ W.cell? (a.add (i * 3 + 2)) = some (.int .i64 e.s) := fun i hil => by
      obtain ⟨cs', h1, h2⟩ := hi i (by omega)
      rw [cellsEdge] at h1
      obtain ⟨_, hlen, hcell⟩ := World.cells?_some h1
      match cs', hlen with
      | [v0, v1, v2], _ =>
        obtain ⟨y0, y1, y2, k, _, _, g0, g1, g2⟩ := Go.Deep.trod_struct3 Try.underlying43 h2
        have g0' : DataW.trod enc Try.prog W 0 (fun _ => true) true k 3 [v0] = some y0 := g0
        have g1' : DataW.trod enc Try.prog W 0 (fun _ => true) true k 3 [v1] = some y1 := g1
        have g2' : DataW.trod enc Try.prog W 0 (fun _ => true) true k 3 [v2] = some y2 := g2
        obtain ⟨z0, q0, _, _⟩ := DataW.trod_int Try.underlying3 g0'
        obtain ⟨z1, q1, _, _⟩ := DataW.trod_int Try.underlying3 g1'
        obtain ⟨z2, q2, _, _⟩ := DataW.trod_int Try.underlying3 g2'
        simp at q0 q1 q2
        subst q0 q1 q2
        have e0 := hcell 0 (by omega)
        have e1 := hcell 1 (by omega)
        have e2 := hcell 2 (by omega)
        rw [Go.Deep.add_add] at e0 e1 e2
        exact ⟨⟨z0, z1, z2⟩, e0, e1, e2⟩
    have hl2 : ∀ k, k ≤ len → ∃ l : List Ed, l.length = k ∧ ∀ i, i < k → W.cell? (a.add (i * 3)) = some (.int .i64 (l.getD i ed0).f) ∧ W.cell? (a.add (i * 3 + 1)) = some (.int .i64 (l.getD i ed0).t) ∧ W.cell? (a.add (i * 3 + 2)) = some (.int .i64 (l.getD i ed0).s) := fun k => by
      induction k with
      | zero => exact fun _ => ⟨[], rfl, fun i hi => absurd hi (Nat.not_lt_zero i)⟩
      | succ k ih =>
        intro hk
        obtain ⟨l, hl, hx⟩ := ih (by omega)
        obtain ⟨y, e⟩ := each k (by omega)
        refine ⟨l ++ [y], by simp [hl], fun i hi => ?_⟩
        by_cases c : i < k
        · have eg : (l ++ [y]).getD i ed0 = l.getD i ed0 := by
            rw [List.getD_eq_getElem?_getD, List.getD_eq_getElem?_getD, List.getElem?_append_left (by omega)]
          rw [eg]
          exact hx i c
        · obtain rfl : i = k := by omega
          have eg : (l ++ [y]).getD i ed0 = y := by
            rw [List.getD_eq_getElem?_getD, List.getElem?_append_right (by omega), hl]
            simp
          rw [eg]
          exact e
    obtain ⟨l, hll, hx⟩ := hl2 len (Nat.le_refl _)
    refine ⟨some a, l, cap, by rw [hll], fun h0 => ?_, by omega⟩
    obtain ⟨e0, _⟩ := hx 0 (by omega)
    obtain ⟨b, off, spot⟩ := a
    have hsp : spot = none := by simpa [Addr.add] using World.cell?_spot e0
    subst hsp
    have hbl : b < W.heap.size := by
      have := World.block_lt_of_cell? _ _ e0
      simpa [Addr.add] using this
    refine ⟨b, off, rfl, hbl, fun k hk => ?_⟩
    obtain ⟨f0, f1, f2⟩ := hx k (by omega)
    rw [Go.WideShapes.add_plain] at f0 f1 f2
    rw [Nat.add_assoc, Nat.add_assoc]
    exact ⟨f0, f1, f2⟩
set_option maxRecDepth 100000 in
/-- A network that came in. -/
theorem road_open {H : Type} {enc : TypeId × Value → H} {W : World} {base : Nat} {v : Value} {d : DataW H} {p : List MemPlace} (hv : Value.okWide Try.prog W .any base 24 v)
    (h : DataW.Trod enc Try.prog W 0 (fun _ => true) true 24 v d p) : ∃ (n : Int) (A : Option Addr) (l : List Ed) (c : Nat), v = .agg #[.int .i64 n, .slice A l.length c] ∧ EdR W A l ∧ l.length ≤ 9223372036854775807 ∧ -9223372036854775808 ≤ n ∧ n ≤ 9223372036854775807 := by
  obtain ⟨v0, v1, y0, y1, k, rfl, _, _, h0, h1⟩ := Joins.open_agg2 Try.underlying24 (by kernel_rfl) cellsRoad hv h
  obtain ⟨n, hn, _, wn⟩ := DataW.trod_int Try.underlying3 h0
  simp at hn
  subst hn
  obtain ⟨A, l, c, rfl, hE, hL⟩ := edges_open h1
  have := i64_bd wn
  exact ⟨n, A, l, c, rfl, hE, hL, this.1, this.2⟩
set_option maxRecDepth 100000 in
/-- An edge that came in. -/
theorem edge_open {H : Type} {enc : TypeId × Value → H} {W : World} {base : Nat} {v : Value} {d : DataW H} {p : List MemPlace} (hv : Value.okWide Try.prog W .any base 43 v)
    (h : DataW.Trod enc Try.prog W 0 (fun _ => true) true 43 v d p) : ∃ x y z : Int, v = .agg #[.int .i64 x, .int .i64 y, .int .i64 z] := by
  obtain ⟨v0, v1, v2, y0, y1, y2, k, rfl, _, _, h0, h1, h2⟩ := Joins.open_agg3 Try.underlying43 (by kernel_rfl) cellsEdge hv h
  obtain ⟨x, hx, _, _⟩ := DataW.trod_int Try.underlying3 h0
  obtain ⟨y, hy, _, _⟩ := DataW.trod_int Try.underlying3 h1
  obtain ⟨z, hz, _, _⟩ := DataW.trod_int Try.underlying3 h2
  simp at hx hy hz
  subst hx hy hz
  exact ⟨x, y, z, rfl⟩
set_option maxRecDepth 100000 in
/-- An array of three that came in. -/
theorem arr3_open {H : Type} {enc : TypeId × Value → H} {W : World} {base : Nat} {v : Value} {d : DataW H} {p : List MemPlace} (hv : Value.okWide Try.prog W .any base 41 v)
    (h : DataW.Trod enc Try.prog W 0 (fun _ => true) true 41 v d p) : ∃ x y z : Int, v = .agg #[.int .i64 x, .int .i64 y, .int .i64 z] := by
  simp only [Value.okWide, Try.underlying41] at hv
  obtain ⟨cs, rfl, hsz, _⟩ := hv
  obtain ⟨c0, c1, c2, rfl⟩ := Joins.array3 (hsz.trans cellsArr)
  obtain ⟨fuel, hf⟩ := h
  obtain ⟨y0, y1, y2, n, _, h0, h1, h2⟩ := Go.ChangeShapes.trod_array3 Try.underlying41 cellsInt hf
  obtain ⟨x, hx, _, _⟩ := DataW.trod_int Try.underlying3 h0
  obtain ⟨y, hy, _, _⟩ := DataW.trod_int Try.underlying3 h1
  obtain ⟨z, hz, _, _⟩ := DataW.trod_int Try.underlying3 h2
  simp at hx hy hz
  subst hx hy hz
  exact ⟨x, y, z, rfl⟩
end Go.Proofs.Ythomklpaafnjhaa
