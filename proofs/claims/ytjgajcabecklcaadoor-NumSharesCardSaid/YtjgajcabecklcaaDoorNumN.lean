/-
  The contract of the specification's Same at equal lists, and of the law's own awake (it checks examples). Condition: Go's own tables and error values hold what the program's text lays.
-/
import Derived.Test.YtjgajcabecklcaaDoorNumM
import Derived.Test.YtjgajcabecklcaaDoorNumI
namespace Go.Proofs.YtjgajcabecklcaaDoor
open Go.RowKit
set_option linter.unusedVariables false

set_option maxHeartbeats 1000000 in
theorem same_cells (l : List Int) (b o cap b2 o2 cap2 : Nat) (w : World) (hl : l.length ≤ 9223372036854775807) (h1 : 1 ≤ l.length) (hc : ∀ k, k < l.length → w.cell? ⟨b, o + k, none⟩ = some (.int .i64 (l.getD k 0)))
    (hc2 : ∀ k, k < l.length → w.cell? ⟨b2, o2 + k, none⟩ = some (.int .i64 (l.getD k 0))) :
    Calls Tryd.prog 28 #[.slice (some ⟨b, o, none⟩) l.length cap, .slice (some ⟨b2, o2, none⟩) l.length cap2] w fun e w' => e = .returned (.bool true) ∧ ∃ n, w' = w.drewN n := by
  obtain ⟨len, hlen⟩ : ∃ n, l.length = n := ⟨_, rfl⟩
  rw [hlen] at hl h1 hc hc2 ⊢
  have HC := Lib.hid hc
  have HC2 := Lib.hid hc2
  clear hc hc2 hlen
  go_enter Tryd.func28, Tryd.ntmps28
  go_wp2
  go_loopw [5] (fun i wr => ∃ k n : Nat, k ≤ len ∧ i = .int .i64 (k : Int) ∧ wr = w.drewN n) (fun i _ => len - (intOf i).toNat)
  case atStart => exact ⟨0, 0, by omega, rfl, rfl⟩
  case round =>
    obtain ⟨k, n, hk, rfl, rfl⟩ := hrel
    by_cases hlt : k < len
    · have hkz : (k : Int) < (len : Int) := by omega
      have c1 := HC.out k hlt
      have c2 := HC2.out k hlt
      obtain ⟨x, hx⟩ : ∃ x, l.getD k 0 = x := ⟨_, rfl⟩
      rw [hx] at c1 c2
      have d1 : (w.drewN n).cell? ⟨b, o + k, none⟩ = some (.int .i64 x) := c1
      have d2 : (w.drewN n).cell? ⟨b2, o2 + k, none⟩ = some (.int .i64 x) := c2
      obtain ⟨W, hW⟩ : ∃ W, w.drewN n = W := ⟨_, rfl⟩
      rw [hW] at d1 d2 ⊢
      have HW := Lib.hid hW
      clear c1 c2 hx hW
      go_wp2_with fail
      go_region
      all_goals go_wp2
      go_roundw
      case rel => exact ⟨k + 1, n + 1, by omega, by go_num, by rw [← HW.out]; rfl⟩
      case measure => simp only [intOf]; omega
    · have hkz : ¬ (k : Int) < (len : Int) := by omega
      go_wp2
      go_ret
      exact ⟨rfl, n, rfl⟩
theorem same_empty (v v2 : Value) (w : World) (h : v = .slice none 0 0 ∨ ∃ a cap, v = .slice (some a) 0 cap) (h2 : v2 = .slice none 0 0 ∨ ∃ a cap, v2 = .slice (some a) 0 cap) :
    Calls Tryd.prog 28 #[v, v2] w fun e w' => e = .returned (.bool true) ∧ ∃ n, w' = w.drewN n := by
  obtain ⟨a, cap, rfl⟩ : ∃ a cap, v = .slice a 0 cap := by rcases h with rfl | ⟨a, cap, rfl⟩ <;> exact ⟨_, _, rfl⟩
  obtain ⟨a2, cap2, rfl⟩ : ∃ a cap, v2 = .slice a 0 cap := by rcases h2 with rfl | ⟨a, cap, rfl⟩ <;> exact ⟨_, _, rfl⟩
  clear h h2
  go_enter Tryd.func28, Tryd.ntmps28
  go_wp2
  go_loopw [5] (fun i wr => i = .int .i64 0 ∧ wr = w) (fun _ _ => 0)
  case atStart => exact ⟨rfl, rfl⟩
  case round =>
    obtain ⟨rfl, rfl⟩ := hrel
    go_wp2
    go_ret
    exact ⟨rfl, 0, rfl⟩
theorem same_true (l : List Int) (v v2 : Value) (w : World) (h : IntsAt w v l) (h2 : IntsAt w v2 l) :
    Calls Tryd.prog 28 #[v, v2] w fun e w' => e = .returned (.bool true) ∧ Below w.heap.size w w' := by
  have : Calls Tryd.prog 28 #[v, v2] w fun e w' => e = .returned (.bool true) ∧ ∃ n, w' = w.drewN n := by
    rcases h with ⟨rfl, h⟩ | ⟨b, o, cap, rfl, hl, h1, hc⟩
    · rcases h2 with ⟨_, h2⟩ | ⟨b, o, cap, rfl, hl, h1, hc⟩
      · exact same_empty v v2 w h h2
      · exact absurd h1 (by decide)
    · rcases h2 with ⟨rfl, h2⟩ | ⟨b2, o2, cap2, rfl, _, _, hc2⟩
      · exact absurd h1 (by decide)
      · exact same_cells l b o cap b2 o2 cap2 w hl h1 hc hc2
  exact this.mono fun _ _ ⟨he, n, hw⟩ => ⟨he, hw ▸ below_drewN' w n⟩

/-- The example's remainders, in order. -/
theorem sorts_example : SortsAs (castL [5, 0, 4, 1]) #[0, 2, 3, 1] := by
  refine ⟨rfl, by decide, fun w blk cap g cb eg hcmp hH hb => ?_⟩
  have h := sort_small (encN 4) (encN_one 4) (cfL (castL [5, 0, 4, 1]) 4) g cb blk 0 cap (Array.range 4) w eg hcmp hH (by decide)
  have e : Sort.insertionSort (ltOf (cfL (castL [5, 0, 4, 1]) 4)) (Array.range 4) 0 (Array.range 4).size = #[0, 2, 3, 1] := by
    unfold Sort.insertionSort
    rw [Sort.insOuter, Sort.insOuter, Sort.insOuter, Sort.insOuter]
    decide
  rw [e] at h
  exact h

theorem fmt_example : fmtS (-5) 2 = ([45, 48, 46, 48, 53], 0) := by
  have hw : width 5 2 = 3 := by
    unfold width
    rw [Lib.nDigits_small (by decide)]
    rfl
  have : fmtT (-5) 2 = [45, 48, 46, 48, 53] := by
    show signT (-5) ++ pointT (dgs 5 (width 5 2)) 2 = _
    rw [hw]
    decide
  unfold fmtS
  rw [if_pos (by decide)]
  exact congrArg (fun x => (x, (0 : Int))) this
theorem parse_example : parseS [49, 50, 46, 51, 52] 2 = (1234, 0) := by
  have hw : width 1234 2 = 4 := by
    unfold width
    rw [Lib.nDigits_unique 3 1234 (by decide) (by decide)]
    rfl
  refine parseS_yes _ 2 1234 (by decide) (by decide) ?_
  show signT 1234 ++ pointT (dgs 1234 (width 1234 2)) 2 = _
  rw [hw]
  decide

theorem ints_new (l : List Int) (w : World) (t : TypeId) (h1 : 1 ≤ l.length) (hl : l.length ≤ 4096) : IntsAt (w.alloc (.cells (l.map (Value.int .i64)).toArray t)) (.slice (some ⟨w.heap.size, 0, none⟩) l.length l.length) l :=
  Or.inr ⟨w.heap.size, 0, l.length, rfl, by omega, h1, fun k hk => by
    rw [Nat.zero_add, World.cell?_alloc_new]
    simp [hk]⟩

theorem ex1 (w : World) : Calls Tryd.prog 13 #[.int .i64 3, .int .i64 (-5)] w fun e w' => e = .returned (.tuple #[.int .i64 (-2), .int .i64 0]) ∧ w = w' := by
  have := add_any 3 (-5) w (by decide) (by decide) (by decide) (by decide)
  rw [show addS 3 (-5) = (-2, 0) by decide] at this
  exact this
theorem ex2 (w : World) : Calls Tryd.prog 13 #[.int .i64 1125899906842624, .int .i64 1] w fun e w' => e = .returned (.tuple #[.int .i64 0, .int .i64 2]) ∧ w = w' := by
  have := add_any 1125899906842624 1 w (by decide) (by decide) (by decide) (by decide)
  rw [show addS 1125899906842624 1 = (0, 2) by decide] at this
  exact this
theorem ex3 (w : World) : Calls Tryd.prog 15 #[.int .i64 6, .int .i64 (-7)] w fun e w' => e = .returned (.tuple #[.int .i64 (-42), .int .i64 0]) ∧ w = w' := by
  have := mul_any 6 (-7) w (by decide) (by decide) (by decide) (by decide)
  rw [show mulS 6 (-7) = (-42, 0) by decide] at this
  exact this
theorem ex4 (w : World) : Calls Tryd.prog 20 #[.int .i64 7, .int .i64 3, .int .i64 2] w fun e w' => e = .returned (.tuple #[.int .i64 10, .int .i64 0]) ∧ ∃ n, w' = w.drewN n := by
  have := mulDiv_any 7 3 2 w (by decide) (by decide) (by decide) (by decide) (by decide) (by decide)
  rw [show mulDivS 7 3 2 = (10, 0) by decide] at this
  exact this
theorem ex5 (w : World) : Calls Tryd.prog 22 #[.int .i64 (-5), .int .i64 2] w fun e w' => e = .returned (.tuple #[.int .i64 (-2), .int .i64 0]) ∧ w = w' := by
  have := nearest_any (-5) 2 w (by decide) (by decide) (by decide) (by decide)
  rw [show nearS (-5) 2 = (-2, 0) by decide] at this
  exact this
theorem wide_example : Wide (castL [5, 0, 2, 3]) := by
  intro k hk
  have hk' : k < 4 := hk
  match k, hk' with
  | 0, _ => decide
  | 1, _ => decide
  | 2, _ => decide
  | 3, _ => decide
theorem ex6 (w : World) : Calls Tryd.prog 26 #[.int .i64 7, .slice (some ⟨w.heap.size, 0, none⟩) 4 4] (w.alloc (.cells #[.int .i64 5, .int .i64 0, .int .i64 2, .int .i64 3] 3)) fun e w' => ∃ blk, e = .returned (.tuple #[.slice (some ⟨blk, 0, none⟩) 4 4, .int .i64 0]) ∧ w.heap.size + 1 ≤ blk ∧ blk < w'.heap.size ∧ Row w' blk [4, 0, 1, 2] ∧ Below w.heap.size w w' := by
  have hi := ints_new (castL [5, 0, 2, 3]) w 3 (by decide) (by decide)
  have h := share_ok 7 [5, 0, 2, 3] #[0, 2, 3, 1] (.slice (some ⟨w.heap.size, 0, none⟩) 4 4) (w.alloc (.cells #[.int .i64 5, .int .i64 0, .int .i64 2, .int .i64 3] 3)) (by decide) (by decide) (by decide) hi (by decide) (by decide) (by decide) wide_example sorts_example
  rw [show castL (shareN 7 [5, 0, 2, 3] (#[0, 2, 3, 1] : Array Nat).toList) = [4, 0, 1, 2] by decide] at h
  refine h.mono fun e w' ⟨blk, he, h1, h2, h3, h4⟩ => ⟨blk, he, by simpa using h1, h2, h3, ?_⟩
  exact ((Below.refl _ _).alloc (Nat.le_refl _) _).trans (h4.mono (by simp))
theorem ex7 (w : World) (f : Facts w) : Calls Tryd.prog 31 #[.int .i64 (-5), .int .i64 2] w fun e w' => e = .returned (.tuple #[.string ⟨#[45, 48, 46, 48, 53]⟩, .int .i64 0]) ∧ Below w.heap.size w w' := by
  have := format_any (-5) 2 w (by decide) (by decide) (by decide) (by decide) f
  rw [fmt_example] at this
  exact this
theorem ex8 (w : World) (f : Facts w) : Calls Tryd.prog 33 #[.string ⟨#[49, 50, 46, 51, 52]⟩, .int .i64 2] w fun e w' => e = .returned (.tuple #[.int .i64 1234, .int .i64 0]) ∧ Below w.heap.size w w' := by
  have := parse_any ⟨#[49, 50, 46, 51, 52]⟩ 2 w (by decide) (by decide) (by decide) f
  rw [show (⟨#[49, 50, 46, 51, 52]⟩ : ByteArray).data.toList = [49, 50, 46, 51, 52] from rfl, parse_example] at this
  exact this
theorem wide_example2 : Wide [1125899906842624, 1, -1] := by
  intro k hk
  have hk' : k < 3 := hk
  match k, hk' with
  | 0, _ => decide
  | 1, _ => decide
  | 2, _ => decide
theorem ex9 (w : World) : Calls Tryd.prog 18 #[.slice (some ⟨w.heap.size, 0, none⟩) 3 3] (w.alloc (.cells #[.int .i64 1125899906842624, .int .i64 1, .int .i64 (-1)] 3)) fun e w' => e = .returned (.tuple #[.int .i64 1125899906842624, .int .i64 0]) ∧ w.alloc (.cells #[.int .i64 1125899906842624, .int .i64 1, .int .i64 (-1)] 3) = w' := by
  have h := sum_any [1125899906842624, 1, -1] (.slice (some ⟨w.heap.size, 0, none⟩) 3 3) (w.alloc (.cells #[.int .i64 1125899906842624, .int .i64 1, .int .i64 (-1)] 3)) (by decide) wide_example2 (ints_new [1125899906842624, 1, -1] w 3 (by decide) (by decide))
  rw [show sumS [1125899906842624, 1, -1] = (1125899906842624, 0) by decide] at h
  exact h
end Go.Proofs.YtjgajcabecklcaaDoor
