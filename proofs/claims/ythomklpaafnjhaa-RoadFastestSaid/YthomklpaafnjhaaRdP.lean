/-
  The contracts of ContainsFunc over the closure of Table. Condition: at most 64 nodes.
-/
import Derived.Test.YthomklpaafnjhaaRdO
namespace Go.Proofs.Ythomklpaafnjhaa
open Go.RowKit
set_option linter.unusedVariables false

theorem IntR.at {w : World} {A : Option Addr} {l : List Int} (h : IntR w A l) {k : Nat} (hk : k < l.length) : ∃ b o, A = some ⟨b, o, none⟩ ∧ b < w.heap.size ∧ w.cell? ⟨b, o + k, none⟩ = some (.int .i64 (l.getD k 0)) := by
  obtain ⟨b, o, h1, h2, h3⟩ := h (by omega)
  exact ⟨b, o, h1, h2, h3 k hk⟩
/-- Are all of these nodes? -/
def allN (N : Int) (l : List Int) : Bool := l.all (nodeB N)
theorem clos_any (n x : Int) (A : Option Addr) (m c b : Nat) (w : World) (h : BoxR w b n A m c) :
    Calls Try.prog 29 #[.int .i64 x, .pointer (some ⟨b, 0, none⟩)] w fun e w' => e = .returned (.bool (!nodeB n x)) ∧ Below w.heap.size w w' := by
  have HN := Lib.hid (fun W => isNode_any n x A m c W)
  obtain ⟨c0, c1⟩ := h
  generalize nodeB n x = r at HN ⊢
  go_enter Try.func29, Try.ntmps29
  go_wp2_with fail
  refine (HN.out _).mono ?_
  rintro e w' ⟨rfl, hB⟩
  go_wp2_with fail
  go_ret
  exact ⟨rfl, hB⟩
set_option maxRecDepth 100000 in
set_option maxHeartbeats 2000000 in
theorem index_any (n : Int) (A B : Option Addr) (m c b k d : Nat) (l : List Int) (w : World) (hk : l.length = k) (hk2 : k ≤ 1000) (hB : IntR w B l) (h : BoxR w b n A m c) :
    Calls Try.prog 39 #[.slice B k d, .func (.func 29) #[] #[.pointer (some ⟨b, 0, none⟩)]] w fun e w' => (∃ i : Int, e = .returned (.int .i64 i) ∧ (0 ≤ i ↔ allN n l = false) ∧ -1 ≤ i) ∧ Below w.heap.size w w' := by
  have HK := Lib.hid hk
  have HI := Lib.hid hB
  have HBX := Lib.hid h
  clear hk hB h
  go_enter Try.func39, Try.ntmps39
  go_wp2_with fail
  go_loopw [8] (fun v8 wr => ∃ i : Nat, i ≤ k ∧ v8 = .int .i64 (i : Int) ∧ Hid (allN n (l.take i) = true) ∧ Hid (Below w.heap.size w wr)) (fun v8 _ => k - (intOf v8).toNat)
  case atStart => exact ⟨0, by omega, rfl, Lib.hid rfl, Lib.hid (Below.refl _ _)⟩
  case round =>
    obtain ⟨i, hi, rfl, HALL, HBW⟩ := hrel
    by_cases hlt : i < k
    · have hiz : (i : Int) < (k : Int) := by omega
      have hil : i < l.length := by rw [HK.out]; exact hlt
      obtain ⟨bb, o, rfl, hbl, c0⟩ := (HI.out.below HBW.out).at hil
      obtain ⟨x, hx⟩ : ∃ x, l.getD i 0 = x := ⟨_, rfl⟩
      have htk : allN n (l.take (i + 1)) = (allN n (l.take i) && nodeB n x) := by
        have e : l.take (i + 1) = l.take i ++ [x] := by rw [List.take_succ_eq_append_getElem hil, ← hx]; simp [hil]
        rw [e]; unfold allN; rw [List.all_append]; simp
      have hmem : x ∈ l := by rw [← hx]; simp [hil]
      rw [hx] at c0
      have HC := Lib.hid (clos_any n x A m c b wr (HBX.out.below HBW.out))
      rw [HALL.out] at htk
      cases hr : nodeB n x with
      | true =>
        rw [hr] at htk HC
        have HT : Hid (allN n (l.take (i + 1)) = true) := Lib.hid htk
        clear htk hr hx hmem
        go_wp2_with fail
        refine HC.out.mono ?_
        rintro e w2 ⟨rfl, hB2⟩
        have HB2 : Hid (Below w.heap.size w w2) := Lib.hid (Below.step HBW.out hB2)
        clear hB2
        go_wp2_with fail
        go_roundw
        case rel => exact ⟨i + 1, by omega, by go_num, HT, HB2⟩
        case measure => simp only [intOf]; omega
      | false =>
        rw [hr] at HC
        have HF : Hid (allN n l = false) := Lib.hid (by
          unfold allN
          rw [List.all_eq_false]
          exact ⟨x, hmem, by rw [hr]; simp⟩)
        clear htk hr hx hmem
        go_wp2_with fail
        refine HC.out.mono ?_
        rintro e w2 ⟨rfl, hB2⟩
        have HB2 : Hid (Below w.heap.size w w2) := Lib.hid (Below.step HBW.out hB2)
        clear hB2
        go_wp2_with fail
        go_ret
        exact ⟨⟨(i : Int), rfl, ⟨fun _ => HF.out, fun _ => by omega⟩, by omega⟩, HB2.out⟩
    · obtain rfl : i = k := by omega
      have hnlt : ¬ (i : Int) < (i : Int) := by omega
      have HT : Hid (allN n l = true) := Lib.hid (by
        have := HALL.out
        rwa [List.take_of_length_le (by rw [HK.out]; exact Nat.le_refl _)] at this)
      go_wp2_with fail
      go_ret
      exact ⟨⟨-1, rfl, ⟨fun h => absurd h (by decide), fun h => by rw [HT.out] at h; cases h⟩, by decide⟩, HBW.out⟩
theorem contains_any (n : Int) (A B : Option Addr) (m c b k d : Nat) (l : List Int) (w : World) (hk : l.length = k) (hk2 : k ≤ 1000) (hB : IntR w B l) (h : BoxR w b n A m c) :
    Calls Try.prog 28 #[.slice B k d, .func (.func 29) #[] #[.pointer (some ⟨b, 0, none⟩)]] w fun e w' => e = .returned (.bool (!allN n l)) ∧ Below w.heap.size w w' := by
  have HI := Lib.hid (index_any n A B m c b k d l w hk hk2 hB h)
  clear hk hB h
  cases hr : allN n l with
  | true =>
    rw [hr] at HI
    clear hr
    go_enter Try.func28, Try.ntmps28
    go_wp2_with fail
    refine HI.out.mono ?_
    rintro e w' ⟨⟨i, rfl, h1, h2⟩, hB⟩
    have h3 : ¬ 0 ≤ i := fun h => by have := h1.1 h; cases this
    clear h1
    go_wp2_with fail
    go_ret
    exact ⟨ret_bool (by simp [h3]), hB⟩
  | false =>
    rw [hr] at HI
    clear hr
    go_enter Try.func28, Try.ntmps28
    go_wp2_with fail
    refine HI.out.mono ?_
    rintro e w' ⟨⟨i, rfl, h1, h2⟩, hB⟩
    have h3 : 0 ≤ i := by simpa using h1
    clear h1
    go_wp2_with fail
    go_ret
    exact ⟨ret_bool (by simp), hB⟩
end Go.Proofs.Ythomklpaafnjhaa
