/-
  Lists of windows in memory, and the contracts of the functions that only read one. Condition: lists of at most 1000 windows.
-/
import Derived.Test.YtkiedopknoekpaaDoorClkA
namespace Go.Proofs.YtkiedopknoekpaaDoor
open Go.RowKit
set_option linter.unusedVariables false

/-- A slice at address A reads as the windows l. -/
def WsR (w : World) (A : Option Addr) (l : List Win) : Prop := 0 < l.length → ∃ b o, A = some ⟨b, o, none⟩ ∧ b < w.heap.size ∧
  ∀ k, k < l.length → w.cell? ⟨b, o + k * 2, none⟩ = some (.int .i64 (l.getD k (0, 0)).1) ∧ w.cell? ⟨b, o + k * 2 + 1, none⟩ = some (.int .i64 (l.getD k (0, 0)).2)
/-- Every bound is an int. -/
def WideW (l : List Win) : Prop := ∀ k, k < l.length → -9223372036854775808 ≤ (l.getD k (0, 0)).1 ∧ (l.getD k (0, 0)).1 ≤ 9223372036854775807 ∧ -9223372036854775808 ≤ (l.getD k (0, 0)).2 ∧ (l.getD k (0, 0)).2 ≤ 9223372036854775807
theorem WsR.below {w w' : World} {A : Option Addr} {l : List Win} (h : WsR w A l) (hb : Below w.heap.size w w') : WsR w' A l := fun hl => by
  obtain ⟨b, o, rfl, hlt, hc⟩ := h hl
  refine ⟨b, o, rfl, Nat.lt_of_lt_of_le hlt hb.size, fun k hk => ?_⟩
  rw [hb.cell (p := ⟨b, o + k * 2, none⟩) hlt, hb.cell (p := ⟨b, o + k * 2 + 1, none⟩) hlt]
  exact hc k hk
theorem Below.step {a b c : World} (h : Below a.heap.size a b) (k : Below b.heap.size b c) : Below a.heap.size a c := h.trans (k.mono h.size)
theorem below_drewN' (w : World) (n : Nat) : Below w.heap.size w (w.drewN n) := ⟨rfl, rfl, rfl, Nat.le_refl _, fun _ _ => rfl⟩
theorem below_grow (w : World) (n : Nat) (os : Array Obj) : Below w.heap.size w (Sort.grow (w.drewN n) os) :=
  ⟨rfl, rfl, rfl, by simp [Sort.grow, World.drewN], fun k hk => by
    show (w.heap ++ os)[k]? = w.heap[k]?
    rw [Array.getElem?_append_left hk]⟩
theorem takeW_snoc (l : List Win) (k : Nat) (h : k < l.length) : l.take (k + 1) = l.take k ++ [l.getD k (0, 0)] := by
  rw [List.take_succ_eq_append_getElem h]
  simp [h]
theorem dropW_cons (l : List Win) (k : Nat) (h : k < l.length) : l.drop k = l.getD k (0, 0) :: l.drop (k + 1) := by
  rw [List.drop_eq_getElem_cons h]
  simp [h]
theorem allB_bad (l : List Win) (k : Nat) (hk : k < l.length) (h : okB (l.getD k (0, 0)) = false) : allB l = false := by
  cases ha : allB l
  · rfl
  · have hm : l.getD k (0, 0) ∈ l := by simp [hk]
    have := allB_mem ha _ hm
    rw [h] at this
    exact absurd this (by decide)
theorem allB_snoc (l : List Win) (k : Nat) (hk : k < l.length) (h : allB (l.take k) = true) (h2 : okB (l.getD k (0, 0)) = true) : allB (l.take (k + 1)) = true := by
  rw [takeW_snoc l k hk]
  unfold allB at *
  rw [List.all_append, h]
  simp only [List.all_cons, List.all_nil, h2, Bool.and_self]

set_option maxRecDepth 100000 in
set_option maxHeartbeats 1000000 in
theorem allValid_any (l : List Win) (A : Option Addr) (cap : Nat) (w : World) (hl : l.length ≤ 1000) (hwd : WideW l) (h : WsR w A l) :
    Calls Tryd.prog 39 #[.slice A l.length cap] w fun e w' => e = .returned (.bool (allB l)) ∧ Below w.heap.size w w' := by
  obtain ⟨len, hlen⟩ : ∃ n, l.length = n := ⟨_, rfl⟩
  have HL := Lib.hid hlen
  have H := Lib.hid h
  rw [hlen] at hl ⊢
  clear hlen h
  go_enter Tryd.func39, Tryd.ntmps39
  go_wp2
  go_loopw [7] (fun i wr => ∃ k : Nat, k ≤ len ∧ i = .int .i64 (k : Int) ∧ Hid (allB (l.take k) = true) ∧ Below w.heap.size w wr) (fun i _ => len - (intOf i).toNat)
  case atStart => exact ⟨0, by omega, rfl, rfl, Below.refl _ _⟩
  case round =>
    obtain ⟨k, hk, rfl, hva, hB⟩ := hrel
    by_cases hlt : k < len
    · have hkl : k < l.length := by rw [HL.out]; exact hlt
      obtain ⟨b, o, rfl, hbl, hc⟩ := (H.out.below hB) (by omega)
      obtain ⟨c0, c1⟩ := hc k hkl
      have hx := hwd k hkl
      have HBAD := Lib.hid (allB_bad l k hkl)
      have HGOOD := Lib.hid (allB_snoc l k hkl hva.out)
      obtain ⟨x, y, hxy⟩ : ∃ x y, l.getD k (0, 0) = (x, y) := ⟨_, _, rfl⟩
      rw [hxy] at hx c0 c1 HBAD HGOOD
      clear hxy hkl hc
      have hltz : (k : Int) < (len : Int) := by omega
      cases hv : okB (x, y)
      · go_wp2_with (go_at_call 17; refine (valid_any _ _ _ (by omega) (by omega) (by omega) (by omega)).mono ?_; rintro e w' ⟨rfl, rfl⟩)
        go_ret
        exact ⟨ret_bool (HBAD.out hv).symm, (hB.alloc hB.size _).alloc (by have := hB.size; simp; omega) _⟩
      · go_wp2_with (go_at_call 17; refine (valid_any _ _ _ (by omega) (by omega) (by omega) (by omega)).mono ?_; rintro e w' ⟨rfl, rfl⟩)
        go_roundw
        case rel => exact ⟨k + 1, by omega, by go_num, HGOOD.out hv, (hB.alloc hB.size _).alloc (by have := hB.size; simp; omega) _⟩
        case measure => simp only [intOf]; omega
    · have hnlt : ¬ (k : Int) < (len : Int) := by omega
      have hva2 := hva.out
      rw [List.take_of_length_le (by rw [HL.out]; omega)] at hva2
      have HV := Lib.hid hva2
      clear hva hva2
      go_wp2
      go_ret
      exact ⟨ret_bool HV.out.symm, hB⟩
end Go.Proofs.YtkiedopknoekpaaDoor
