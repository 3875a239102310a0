/-
  The contract of lastWord. Condition: at most seven bytes.
-/
import Derived.Test.YthalnnhkeaanhaaDoorMacD
import Derived.Laws.CopyOwn
namespace Go.Proofs.YthalnnhkeaanhaaDoor
open Go.RowKit Go.Maps
set_option linter.unusedVariables false

/-- The bytes of the last word. -/
def lastF (s : List UInt8) (N : Nat) : Nat → Nat := fun i => if i < s.length then (s.getD i 0).toNat else if i = 7 then N % 256 else 0
theorem lastF_lt (s : List UInt8) (N k : Nat) : lastF s N k < 256 := by
  unfold lastF
  split
  · exact UInt8.toNat_lt _
  · split <;> omega
theorem lastF_byt (l : List UInt8) (k : Nat) : lastF (l.drop (8 * k)) l.length = byt l k := by
  funext i
  unfold lastF byt
  rw [List.length_drop, List.getD_eq_getElem?_getD, List.getElem?_drop, List.getD_eq_getElem?_getD]
  by_cases h : 8 * k + i < l.length
  · rw [if_pos h, if_pos (by omega)]
  · rw [if_neg h, if_neg (by omega)]
/-- Eight bytes in a block of their own. -/
def ArrR (w : World) (g : Nat) (f : Nat → Nat) : Prop := ∃ cur : Array Value, w.heap[g]? = some (.cells cur 46 (0, 0)) ∧ ∀ i, i < 8 → cur[i]? = some (.int .u8 (f i : Int))
theorem ArrR.cell {w : World} {g i : Nat} {f : Nat → Nat} (h : ArrR w g f) (hi : i < 8) : w.cell? ⟨g, i, none⟩ = some (.int .u8 (f i : Int)) := by
  obtain ⟨cur, h1, h2⟩ := h
  exact (cell_of_row w g i cur _ _ h1).trans (h2 i hi)
theorem ArrR.frozen {w : World} {g : Nat} {f : Nat → Nat} (h : ArrR w g f) (i : Nat) : w.frozen? ⟨g, i, none⟩ = false := by
  obtain ⟨cur, h1, _⟩ := h
  simp [World.frozen?, h1]
theorem ArrR.set {w : World} {g k : Nat} {f f2 : Nat → Nat} (h : ArrR w g f) (hk : k < 8) (he : ∀ i, i < 8 → i ≠ k → f i = f2 i) : ArrR (w.setCell ⟨g, k, none⟩ (.int .u8 (f2 k : Int))) g f2 := by
  obtain ⟨cur, h1, h2⟩ := h
  refine ⟨cur.setIfInBounds k (.int .u8 (f2 k : Int)), by simp [World.setCell, Array.getElem?_modify, h1], fun j hj => ?_⟩
  by_cases e : k = j
  · subst e
    have := (Array.getElem?_eq_some_iff.1 (h2 k hk)).1
    rw [Array.getElem?_setIfInBounds, if_pos rfl, if_pos this]
  · rw [Array.getElem?_setIfInBounds, if_neg e, h2 j hj, he j hj (Ne.symm e)]
def zeros8 : List Value := [.int .u8 0, .int .u8 0, .int .u8 0, .int .u8 0, .int .u8 0, .int .u8 0, .int .u8 0, .int .u8 0]
theorem zeros8_at {i : Nat} (h : i < 8) : zeros8[i]? = some (.int .u8 0) := by
  rcases (by omega : i = 0 ∨ i = 1 ∨ i = 2 ∨ i = 3 ∨ i = 4 ∨ i = 5 ∨ i = 6 ∨ i = 7) with rfl | rfl | rfl | rfl | rfl | rfl | rfl | rfl <;> rfl
def padF (s : List UInt8) : Nat → Nat := fun i => if i < s.length then (s.getD i 0).toNat else 0
theorem splice_at (s : List UInt8) (hs : s.length ≤ 7) (i : Nat) (hi : i < 8) : (splice zeros8 0 (s.map bc)).toArray[i]? = some (.int .u8 (padF s i : Int)) := by
  unfold splice padF
  rw [List.take_zero, List.nil_append, List.getElem?_toArray, Nat.zero_add, List.length_map]
  by_cases h : i < s.length
  · rw [if_pos h, List.getElem?_append_left (by simpa using h), List.getElem?_map]
    simp [h, bc]
  · rw [if_neg h, List.getElem?_append_right (by simpa using h), List.getElem?_drop, List.length_map, show s.length + (i - s.length) = i by omega, zeros8_at hi]
    rfl
theorem padF_last (s : List UInt8) (hs : s.length ≤ 7) (N i : Nat) (hi : i < 8) (h7 : i ≠ 7) : padF s i = lastF s N i := by
  unfold padF lastF
  by_cases h : i < s.length
  · rw [if_pos h, if_pos h]
  · rw [if_neg h, if_neg h, if_neg h7]
theorem lastF_seven (s : List UInt8) (hs : s.length ≤ 7) (N : Nat) : lastF s N 7 = N % 256 := by
  unfold lastF
  rw [if_neg (by omega), if_pos rfl]
theorem info_u8_size : (Tryd.prog.info? 5).map (·.size) = some 1 := by kernel_rfl

set_option maxRecDepth 100000 in
set_option maxHeartbeats 1000000 in
theorem lastWord_any (A : Option Addr) (s : List UInt8) (m c N : Nat) (w : World) (hm : s.length = m) (hs : m ≤ 7) (hN : N ≤ 1000000) (h : BytR w A s) :
    Calls Tryd.prog 23 #[.slice A m c, .int .i64 (N : Int)] w fun e w' => e = .returned (.int .u64 (wd (lastF s N) 8 : Int)) ∧ Below w.heap.size w w' := by
  have HW := Lib.hid (fun w => word_any (lastF s N) w (lastF_lt s N))
  have HR := Lib.hid h
  have HM := Lib.hid hm
  have HS := Lib.hid (splice_at s (by omega))
  have HP := Lib.hid (padF_last s (by omega) N)
  have H7 := Lib.hid (lastF_seven s (by omega) N)
  obtain ⟨cs, hcs⟩ : ∃ cs, s.map bc = cs := ⟨_, rfl⟩
  have HL : Hid (cs.length = m) := Lib.hid (by rw [← hcs, List.length_map, hm])
  have HC1 : Hid (∀ v ∈ cs, v.oneCell' = true) := Lib.hid (by rw [← hcs]; exact one_bc s)
  rw [hcs] at HS
  have HV : VsR w A cs := by rw [← hcs]; exact h
  obtain ⟨W, hW⟩ : ∃ W, w.alloc (.cells #[.int .u8 0, .int .u8 0, .int .u8 0, .int .u8 0, .int .u8 0, .int .u8 0, .int .u8 0, .int .u8 0] 46) = W := ⟨_, rfl⟩
  have HG : Hid (W.heap[w.heap.size]? = some (.cells zeros8.toArray 46 (0, 0))) := Lib.hid (by rw [← hW]; exact heap_alloc_new w _)
  have HB : Below w.heap.size w W := by rw [← hW]; exact (Below.refl _ _).alloc (Nat.le_refl _) _
  have HPOS : Hid (0 < cs.length → ∃ ad, A = some ad ∧ ∀ j v, cs[j]? = some v → W.cell? (ad.add j) = some v) := Lib.hid (fun h0 => by
    obtain ⟨ab, o, rfl, hlt, hc⟩ := HV.below HB h0
    exact ⟨_, rfl, fun j v hj => by rw [Addr.add_lit]; exact hc j v hj⟩)
  have hfit : 0 + cs.length ≤ zeros8.length := by rw [HL.out]; show 0 + m ≤ 8; omega
  have hmin : cs.length = Nat.min m 8 := by rw [HL.out]; exact (Nat.min_eq_left (by omega)).symm
  have HFIT := Lib.hid hfit
  have HMIN := Lib.hid hmin
  clear h hm hcs HV hfit hmin
  go_enter Tryd.func23, Tryd.ntmps23
  go_wp2_with (with_reducible refine wpList_copy_splice rfl (.tmp 6) (.tmp 7) 25 25 rfl 5 Tryd.underlying25 info_u8_size (some ⟨w.heap.size, 0, none⟩) A 8 8 m c rfl rfl w.heap.size 0 zeros8 46 HG.out cs HMIN.out (fun h0 => ⟨rfl, HPOS.out h0⟩) HFIT.out HC1.out w.heap.size w HB (Nat.le_refl _) ?_)
  intro w2 hg hB
  have HA : Hid (ArrR w2 w.heap.size (padF s)) := Lib.hid ⟨_, hg.out, fun i hi => HS.out i hi⟩
  clear hg HG HPOS HC1 HS HB hW
  have k7 := HA.out.cell (i := 7) (by decide)
  have f7 := HA.out.frozen 7
  have kk : ∀ i, i < 7 → w2.cell? ⟨w.heap.size, i, none⟩ = some (.int .u8 (lastF s N i : Int)) := fun i hi => by
    rw [← HP.out i (by omega) (by omega)]
    exact HA.out.cell (by omega)
  have k0 := kk 0 (by decide)
  have k1 := kk 1 (by decide)
  have k2 := kk 2 (by decide)
  have k3 := kk 3 (by decide)
  have k4 := kk 4 (by decide)
  have k5 := kk 5 (by decide)
  have k6 := kk 6 (by decide)
  have hyz : (N : Int) % 256 = (lastF s N 7 : Int) := by rw [H7.out]; omega
  have hB2 : Hid (∀ x, Below w.heap.size w (w2.setCell ⟨w.heap.size, 7, none⟩ x)) := Lib.hid (fun x => hB.setCell (p := ⟨w.heap.size, 7, none⟩) (Nat.le_refl _) x)
  have HW2 : Hid (∀ w, Calls Tryd.prog 22 #[.agg #[.int .u8 (lastF s N 0 : Int), .int .u8 (lastF s N 1 : Int), .int .u8 (lastF s N 2 : Int), .int .u8 (lastF s N 3 : Int), .int .u8 (lastF s N 4 : Int), .int .u8 (lastF s N 5 : Int), .int .u8 (lastF s N 6 : Int), .int .u8 (lastF s N 7 : Int)]] w fun e w' => e = .returned (.int .u64 (wd (lastF s N) 8 : Int)) ∧ Below w.heap.size w w') := HW
  clear kk HA hB HW
  go_wp2_with fail
  refine (HW2.out _).mono ?_
  rintro e w4 ⟨rfl, hB4⟩
  have hB5 := Below.step (hB2.out _) hB4
  clear hB4
  go_wp2_with fail
  go_ret
  exact ⟨rfl, hB5⟩
end Go.Proofs.YthalnnhkeaanhaaDoor
