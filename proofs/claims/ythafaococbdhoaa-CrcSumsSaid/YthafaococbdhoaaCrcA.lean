/-
  The contracts of moved, sumBytes and newTable. No condition but the checksum's range.
-/
import Derived.Test.YthafaococbdhoaaCrcPlain
import Derived.Test.YthafaococbdhoaaWisI
namespace Go.Proofs.Ythafaococbdhoaa
open Go.RowKit Go.Maps
set_option linter.unusedVariables false

theorem moved_any (u : Nat) (w : World) (hu : u < 4294967296) :
    Calls Try.prog 30 #[.int .u32 (u : Int)] w fun e w' => e = .returned (.int .u32 (mv u : Int)) ∧ w = w' := by
  by_cases h : u % 2 = 1
  · have hz : (u : Int) % 2 = 1 := by omega
    have hm : Hid (bits .xor .u32 ((u : Int) / 2) 3988292384 = (mv u : Int)) := Lib.hid (by
      rw [mv_odd h, ← u32_xor_nat (u / 2) 3988292384 (by omega) (by decide)]
      congr 1)
    go_enter Try.func30, Try.ntmps30
    go_wp2_with fail
    go_ret
    exact ⟨ret_int hm.out, rfl⟩
  · have hz : (u : Int) % 2 = 0 := by omega
    have hm : Hid ((u : Int) / 2 = (mv u : Int)) := Lib.hid (by
      rw [mv_even (by omega)]
      omega)
    go_enter Try.func30, Try.ntmps30
    go_wp2_with fail
    go_ret
    exact ⟨ret_int hm.out, rfl⟩

/-- The four bytes of a checksum, as an array. -/
def tailV (s : Nat) : Value := .agg ((tail s).map bc).toArray
theorem sumBytes_any (s : Nat) (w : World) (hs : s < 4294967296) :
    Calls Try.prog 24 #[.int .u32 (s : Int)] w fun e w' => e = .returned (tailV s) ∧ Below w.heap.size w w' := by
  have H1 : Hid (tailV s = .agg #[.int .u8 ((s : Int) % 256), .int .u8 ((s : Int) / 256 % 256), .int .u8 ((s : Int) / 65536 % 256), .int .u8 ((s : Int) / 16777216)]) := Lib.hid (by
    unfold tailV tail
    simp only [List.map_cons, List.map_nil, bc, u8_mod]
    have e1 : ((s % 256 : Nat) : Int) = (s : Int) % 256 := by omega
    have e2 : ((s / 256 % 256 : Nat) : Int) = (s : Int) / 256 % 256 := by omega
    have e3 : ((s / 65536 % 256 : Nat) : Int) = (s : Int) / 65536 % 256 := by omega
    have e4 : ((s / 16777216 % 256 : Nat) : Int) = (s : Int) / 16777216 := by omega
    rw [e1, e2, e3, e4])
  go_enter Try.func24, Try.ntmps24
  go_wp2_with fail
  rw [H1.out]
  exact bodyPost_ret (v := .agg #[.int .u8 ((s : Int) % 256), .int .u8 ((s : Int) / 256 % 256), .int .u8 ((s : Int) / 65536 % 256), .int .u8 ((s : Int) / 16777216)]) (by simp [results, Try.results24, go_sem]) rfl ⟨rfl, (Below.refl _ _).alloc (Nat.le_refl _) _⟩

theorem zero_table : ∃ Z : Array Value, (∀ k, k < 256 → Z[k]? = some (.int .u32 0)) ∧ ∀ w : World, (zeroValue 53).run Try.prog w = .ok (.agg Z) w :=
  ⟨Array.replicate 256 (.int .u32 0), fun k hk => by simp [hk], fun w => by kernel_rfl⟩

/-- The table of the checksum lies in block b; the first k of its words are made. -/
def TabK (w : World) (b k : Nat) : Prop := ∃ cur : Array Value, w.heap[b]? = some (.cells cur 53 (0, 0)) ∧ (∀ j, j < 256 → ∃ u, cur[j]? = some u) ∧ ∀ j, j < k → cur[j]? = some (.int .u32 (it 8 j : Int))
theorem TabK.cell {w : World} {b k j : Nat} (h : TabK w b k) (hj : j < 256) : ∃ u, w.cell? ⟨b, j, none⟩ = some u := by
  obtain ⟨cur, h1, h2, h3⟩ := h
  obtain ⟨u, hu⟩ := h2 j hj
  exact ⟨u, (cell_of_row w b j cur _ _ h1).trans hu⟩
theorem TabK.frozen {w : World} {b k : Nat} (h : TabK w b k) (j : Nat) : w.frozen? ⟨b, j, none⟩ = false := by
  obtain ⟨cur, h1, _⟩ := h
  simp [World.frozen?, h1]
theorem TabK.at {w : World} {b k j : Nat} (h : TabK w b k) (hj : j < k) : w.cell? ⟨b, j, none⟩ = some (.int .u32 (it 8 j : Int)) := by
  obtain ⟨cur, h1, h2, h3⟩ := h
  exact (cell_of_row w b j cur _ _ h1).trans (h3 j hj)
theorem TabK.lt {w : World} {b k : Nat} (h : TabK w b k) : b < w.heap.size := by
  obtain ⟨cur, h1, _⟩ := h
  exact (Array.getElem?_eq_some_iff.1 h1).1
theorem TabK.below {w w' : World} {b k B : Nat} (h : TabK w b k) (hb : Below B w w') (hB : b < B) : TabK w' b k := by
  obtain ⟨cur, h1, h2⟩ := h
  exact ⟨cur, (hb.block b hB).trans h1, h2⟩
theorem TabK.set {w : World} {b k : Nat} (h : TabK w b k) (hk : k < 256) : TabK (w.setCell ⟨b, k, none⟩ (.int .u32 (it 8 k : Int))) b (k + 1) := by
  obtain ⟨cur, h1, h2, h3⟩ := h
  refine ⟨cur.setIfInBounds k (.int .u32 (it 8 k : Int)), by simp [World.setCell, Array.getElem?_modify, h1], fun j hj => ?_, fun j hj => ?_⟩
  · obtain ⟨u, hu⟩ := h2 j hj
    by_cases e : k = j
    · subst e
      have := (Array.getElem?_eq_some_iff.1 hu).1
      exact ⟨_, by rw [Array.getElem?_setIfInBounds, if_pos rfl, if_pos this]⟩
    · exact ⟨u, by rw [Array.getElem?_setIfInBounds, if_neg e]; exact hu⟩
  · by_cases e : k = j
    · subst e
      obtain ⟨u, hu⟩ := h2 k hk
      have := (Array.getElem?_eq_some_iff.1 hu).1
      rw [Array.getElem?_setIfInBounds, if_pos rfl, if_pos this]
    · rw [Array.getElem?_setIfInBounds, if_neg e]
      exact h3 j (by omega)

set_option maxRecDepth 100000 in
set_option maxHeartbeats 1000000 in
theorem newTable_any (w : World) :
    Calls Try.prog 22 #[] w fun e w' => ∃ b, e = .returned (.pointer (some ⟨b, 0, none⟩)) ∧ TabK w' b 256 ∧ Below w.heap.size w w' := by
  obtain ⟨Z, hZ, hrun⟩ := zero_table
  have HZ : Hid (TabK (w.alloc (.cells Z 53)) w.heap.size 0) := Lib.hid ⟨Z, heap_alloc_new w _, fun j hj => ⟨_, hZ j hj⟩, fun j hj => absurd hj (Nat.not_lt_zero j)⟩
  clear hZ
  have hB : Below w.heap.size w (w.alloc (.cells Z 53)) := (Below.refl _ _).alloc (Nat.le_refl _) _
  go_enter Try.func22, Try.ntmps22
  go_wp2_with fail
  obtain ⟨w1, hw1⟩ : ∃ w1, w.alloc (.cells Z 53) = w1 := ⟨_, rfl⟩
  obtain ⟨g, hg⟩ : ∃ g, w.heap.size = g := ⟨_, rfl⟩
  rw [hw1, hg] at HZ
  rw [hw1] at hB ⊢
  have HG := Lib.hid hg
  rw [hg]
  clear hrun hw1 hg
  go_loopw [5] (fun i wr => ∃ k : Nat, k ≤ 256 ∧ i = .int .i64 (k : Int) ∧ Hid (TabK wr g k) ∧ Below w.heap.size w wr) (fun i _ => 256 - (intOf i).toNat)
  case atStart => exact ⟨0, by omega, rfl, HZ, hB⟩
  case round =>
    obtain ⟨k, hk, rfl, hT, hB⟩ := hrel
    by_cases hlt : k < 256
    · have hltz : (k : Int) < 256 := by omega
      go_wp2_with fail
      go_loop [3, 10] (fun v i => ∃ t : Nat, t ≤ 8 ∧ i = .int .i64 (t : Int) ∧ v = .int .u32 (it t k : Int)) (fun _ i => 8 - (intOf i).toNat)
      case atStart => exact ⟨0, by omega, rfl, rfl⟩
      case round =>
        obtain ⟨t, ht, rfl, rfl⟩ := hrel
        by_cases ht8 : t < 8
        · have ht8z : (t : Int) < 8 := by omega
          have HM := Lib.hid (moved_any (it t k) wr (it_lt t (by omega)))
          go_wp2_with fail
          refine HM.out.mono ?_
          rintro e w2 ⟨rfl, rfl⟩
          go_wp2_with fail
          go_round
          case rel => exact ⟨t + 1, by omega, by go_num, rfl⟩
          case measure => simp only [intOf]; omega
        · obtain rfl : t = 8 := by omega
          obtain ⟨u, hc⟩ := hT.out.cell hlt
          have hf := hT.out.frozen k
          have HT2 := Lib.hid (hT.out.set hlt)
          have HB2 := Lib.hid (hB.setCell (p := ⟨g, k, none⟩) (by rw [HG.out]; exact Nat.le_refl _) (.int .u32 (it 8 k : Int)))
          clear hT hB
          go_wp2_with fail
          go_roundw
          case rel => exact ⟨k + 1, by omega, by go_num, HT2, HB2.out⟩
          case measure => simp only [intOf]; omega
    · obtain rfl : k = 256 := by omega
      go_wp2_with fail
      go_ret
      exact ⟨g, rfl, hT.out, hB⟩
end Go.Proofs.Ythafaococbdhoaa
