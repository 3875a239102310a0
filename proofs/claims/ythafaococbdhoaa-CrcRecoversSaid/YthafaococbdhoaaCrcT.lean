/-
  A slice of slices of bytes that came in, as a list; two rows built side by side by append. Condition: as each says.
-/
import Derived.Test.YthafaococbdhoaaCrcQ
import Derived.Deep.Matrix
namespace Go.Proofs.Ythafaococbdhoaa
open Go.RowKit Go.Maps Go.ChangeShapes Go.WideShapes
set_option linter.unusedVariables false

theorem weights_mem {H : Type} {P : Program} {e : TypeId} : ∀ {ds : List (DataW H)} {d : DataW H}, d ∈ ds → ∀ n ∈ d.weights P e, n ∈ DataW.weightsAll P e ds
  | [], d, hd, _, _ => by cases hd
  | x :: ds, d, hd, n, hn => by
    rw [DataW.weightsAll, List.mem_append]
    rcases List.mem_cons.1 hd with rfl | hd
    · exact Or.inl hn
    · exact Or.inr (weights_mem hd n hn)
theorem cellsSl : Try.prog.cellsOf 22 = 1 := by kernel_rfl
theorem bytesU8 : Try.prog.bytesOf 5 = 1 := by kernel_rfl

set_option maxRecDepth 100000 in
/-- A slice of slices of bytes that came in, as a list. -/
theorem rows_open {H : Type} {enc : TypeId × Value → H} {W : World} {base : Nat} {v : Value} {d : DataW H} {p : List MemPlace} (hv : Value.okWide Try.prog W .any base 33 v)
    (h : DataW.Trod enc Try.prog W 0 (fun _ => true) true 33 v d p) (hs : ∀ n ∈ d.weights Try.prog 33, n ≤ reachBytes) :
    ∃ (A : Option Addr) (l : List (List UInt8)) (c : Nat), v = .slice A l.length c ∧ RowsR W A l ∧ l.length ≤ c ∧ l.length ≤ 9223372036854775807 ∧ ∀ k, (l.getD k []).length ≤ 140737488351232 := by
  obtain ⟨a0, len, cap, rfl⟩ := Go.WideShapes.okWide_slice Try.underlying33 hv
  obtain ⟨fuel, hf⟩ := h
  rcases Go.Deep.open_int_rows Try.underlying33 Try.underlying22 Try.underlying5 cellsSl cellsU8 hf with ⟨hcs, _⟩ | ⟨a, len', cap', A, L, C, Z, hcs, _, hl, hm, hx, hr⟩
  · simp [Value.cells] at hcs
    obtain ⟨rfl, rfl, rfl⟩ := hcs
    exact ⟨none, [], 0, rfl, RowsR.nil _ _, by decide, by decide, fun k => by simp⟩
  · simp [Value.cells] at hcs
    obtain ⟨rfl, rfl, rfl⟩ := hcs
    simp only [Prod.mk.injEq] at hx
    obtain ⟨rfl, _⟩ := hx
    unfold maxLen at hm
    have hlen : ((List.range len).map fun r => ((Z r).take (L r)).map fun z => UInt8.ofNat z.toNat).length = len := by simp
    have hg : ∀ k, k < len → ((List.range len).map fun r => ((Z r).take (L r)).map fun z => UInt8.ofNat z.toNat).getD k [] = ((Z k).take (L k)).map fun z => UInt8.ofNat z.toNat := fun k hk => by simp [hk]
    have hLk : ∀ k, k < len → (((Z k).take (L k)).map fun z => UInt8.ofNat z.toNat).length = L k := fun k hk => by
      obtain ⟨_, h1, _, h2, _⟩ := hr k (by omega)
      rw [List.length_map, List.length_take]
      omega
    refine ⟨some a, _, cap, by rw [hlen], ⟨(List.range len).map fun r => .slice (A r) (L r) (C r), fun h0 => ?_, by rw [hlen]; simp, fun k hk => ?_⟩, by rw [hlen]; omega, by rw [hlen]; omega, fun k => ?_⟩
    · have h0' : 0 < len := by simpa using h0
      have e0 := (hr 0 (by omega)).1
      have hb := World.block_lt_of_cell? _ _ e0
      obtain ⟨b, o, sp⟩ := a
      have hsp : sp = none := by simpa [Addr.add] using World.cell?_spot e0
      subst hsp
      refine ⟨b, o, rfl, by simpa [Addr.add] using hb, fun k v hk => ?_⟩
      have hk2 := (List.getElem?_eq_some_iff.1 hk).1
      rw [List.length_map, List.length_range] at hk2
      have := (hr k (by omega)).1
      rw [Addr.add_lit] at this
      rw [this, ← hk]
      simp [hk2]
    · rw [hlen] at hk
      rw [hg k hk, hLk k hk]
      obtain ⟨_, h1, h2, h3, h4, h5, h6⟩ := hr k (by omega)
      refine ⟨A k, C k, by simp [hk], h1, fun hl0 => ?_⟩
      rw [List.length_map, hLk k hk] at hl0
      obtain ⟨a', ha'⟩ : ∃ a', A k = some a' := by
        cases hA : A k with
        | none => have := h5 hA; omega
        | some a' => exact ⟨a', rfl⟩
      obtain ⟨_, hcell⟩ := h6 a' ha'
      have e0 := hcell 0 (by omega)
      have hb := World.block_lt_of_cell? _ _ e0
      obtain ⟨b, o, sp⟩ := a'
      have hsp : sp = none := by simpa [Addr.add] using World.cell?_spot e0
      subst hsp
      refine ⟨b, o, ha', by simpa [Addr.add] using hb, fun j v hj => ?_⟩
      have hj2 := (List.getElem?_eq_some_iff.1 hj).1
      rw [List.length_map, hLk k hk] at hj2
      have hjz : j < (Z k).length := by omega
      have hbd := u8_bd (h4 ((Z k).getD j 0) (by simp [hjz]))
      have hcj := hcell j (by omega)
      rw [Addr.add_lit] at hcj
      rw [hcj]
      rw [List.getElem?_map, List.getElem?_map, List.getElem?_take_of_lt hj2, List.getElem?_eq_getElem hjz] at hj
      simp only [Option.map_some, Option.some.injEq] at hj
      have e : (Z k).getD j 0 = (Z k)[j] := by simp [hjz]
      rw [e] at hbd ⊢
      rw [← hj]
      unfold bc
      congr 2
      rw [u8_small (by omega)]
      omega
    · by_cases hk : k < len
      · rw [hg k hk, hLk k hk]
        obtain ⟨_, h1, h2, h3, h4, h5, h6⟩ := hr k (by omega)
        cases hA : A k with
        | none => have := h5 hA; omega
        | some a' =>
          have hmem : Go.Deep.intRow (H := H) .u8 (A k) (L k) (Z k) ∈ (List.range len).map fun r => Go.Deep.intRow (H := H) .u8 (A r) (L r) (Z r) := List.mem_map.2 ⟨k, List.mem_range.2 hk, rfl⟩
          have hw := hs (C k) (by
            rw [DataW.weights]
            simp only [Try.underlying33]
            refine List.mem_cons_of_mem _ (List.mem_append.2 (Or.inl (weights_mem hmem _ ?_)))
            rw [hA]
            unfold Go.Deep.intRow
            rw [DataW.weights]
            simp only [Try.underlying22]
            refine List.mem_cons.2 (Or.inl ?_)
            rw [bytesU8]
            unfold lits
            simp only [List.length_map, List.length_take, List.length_drop]
            omega)
          unfold reachBytes at hw
          omega
      · have e : ((List.range len).map fun r => ((Z r).take (L r)).map fun z => UInt8.ofNat z.toNat).getD k [] = [] := by
          simp only [List.getD]
          rw [List.getElem?_eq_none (by rw [hlen]; omega)]
          rfl
        rw [e]
        simp
end Go.Proofs.Ythafaococbdhoaa
