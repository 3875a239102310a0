/-
  Arguments as strings, integers and lists of strings. No condition.
-/
import Derived.Test.YtagpkijgednmnaaIdtH
import Derived.Test.YtagpkijgednmnaaIdtL
import Derived.Test.YtagpkijgednmnaaRows
import Derived.ProofKit
import Derived.OpenShut
import Derived.Lay
import Derived.Lib.LaidTab
import Derived.Stop.LaidErr
import Derived.Deep.Strs
import Derived.Deep.DeepHandedRow
import Derived.PinnedBridge
import Derived.SevenTiedAt
namespace Go.Proofs.Ytagpkijgednmnaa
open Go.RowKit
set_option linter.unusedVariables false

theorem own : ownKnob Try.prog.godebug = none := by kernel_rfl
theorem laidOut : laidOutB Try.prog = true := by kernel_rfl
theorem i64_bd {x : Int} (h : (Lit.int .i64 x).wf = true) : -9223372036854775808 ≤ x ∧ x ≤ 9223372036854775807 := by
  simpa [Lit.wf, IntKind.min, IntKind.max, IntKind.signed, IntKind.bits] using h
theorem cellsStr : Try.prog.cellsOf 9 = 1 := by kernel_rfl

set_option maxRecDepth 100000 in
/-- A slice of strings that came in, as a list. -/
theorem strs_open {H : Type} {enc : TypeId × Value → H} {W : World} {base : Nat} {v : Value} {d : DataW H} {p : List MemPlace} (hv : Value.okWide Try.prog W .any base 24 v)
    (h : DataW.Trod enc Try.prog W 0 (fun _ => true) true 24 v d p) : ∃ (A : Option Addr) (l : List ByteArray) (c : Nat), v = .slice A l.length c ∧ StR W A l ∧ WideS l ∧ l.length ≤ 9223372036854775807 := by
  obtain ⟨a0, len, cap, rfl⟩ := Go.WideShapes.okWide_slice Try.underlying24 hv
  obtain ⟨fuel, hf⟩ := h
  rcases Go.Deep.open_strs Try.underlying24 Try.underlying9 cellsStr hf with ⟨hcs, _⟩ | ⟨a, len', cap', m, Sx, hcs, _, hl, hm, hmm, _, hi⟩
  · simp [Value.cells] at hcs
    obtain ⟨rfl, rfl, rfl⟩ := hcs
    exact ⟨none, [], 0, rfl, fun h => absurd h (Nat.lt_irrefl _), fun k hk => absurd hk (Nat.not_lt_zero k), by decide⟩
  · simp [Value.cells] at hcs
    obtain ⟨rfl, rfl, rfl⟩ := hcs
    have hml : len ≤ m := by rw [hmm]; split <;> omega
    unfold maxLen at hm hi
    have hlen : ((List.range len).map Sx).length = len := by simp
    have hg : ∀ k, k < len → ((List.range len).map Sx).getD k ByteArray.empty = Sx k := fun k hk => by simp [hk]
    refine ⟨some a, (List.range len).map Sx, cap, by rw [hlen], fun h0 => ?_, fun k hk => ?_, by rw [hlen]; omega⟩
    · rw [hlen] at h0
      have e0 := (hi 0 (by omega)).1
      have hb := World.block_lt_of_cell? _ _ e0
      obtain ⟨b, o, sp⟩ := a
      have hsp : sp = none := by simpa [Addr.add] using World.cell?_spot e0
      subst hsp
      refine ⟨b, o, rfl, by simpa [Addr.add] using hb, fun k hk => ?_⟩
      rw [hlen] at hk
      rw [hg k hk]
      have := (hi k (by omega)).1
      rwa [Addr.add_lit] at this
    · rw [hlen] at hk
      rw [hg k hk]
      have := (hi k (by omega)).2
      omega
end Go.Proofs.Ytagpkijgednmnaa
