/-
  The contract of the specification's Normal at lists in normal form. Condition: lists of at most 1000 windows.
-/
import Derived.Test.YtkiedopknoekpaaDoorClkP
import Derived.Lib.QuietBelow
namespace Go.Proofs.YtkiedopknoekpaaDoor
open Go.RowKit Go.Sort
set_option linter.unusedVariables false

theorem nf_at {lo hi : Int} {l : List Win} (h : Nf lo hi l) : ∀ k, k < l.length → (l.getD k (0, 0)).1 < (l.getD k (0, 0)).2 := by
  induction l generalizing lo with
  | nil => intro k hk; exact absurd hk (Nat.not_lt_zero k)
  | cons x l ih =>
    intro k hk
    cases k with
    | zero => exact h.2.1
    | succ k => exact ih h.2.2.2 k (by simpa using hk)
theorem nf_next {lo hi : Int} {l : List Win} (h : Nf lo hi l) : ∀ k, k + 1 < l.length → (l.getD k (0, 0)).2 < (l.getD (k + 1) (0, 0)).1 := by
  induction l generalizing lo with
  | nil => intro k hk; exact absurd hk (Nat.not_lt_zero _)
  | cons x l ih =>
    intro k hk
    cases k with
    | zero =>
      cases l with
      | nil => simp at hk
      | cons y l => exact h.2.2.2.1
    | succ k => exact ih h.2.2.2 k (by simpa using hk)
theorem alloc_below (w : World) (a b : Int) : Below w.heap.size w (w.alloc (.cells #[.int .i64 a, .int .i64 b] 23)) := (Below.refl _ _).alloc (Nat.le_refl _) _

attribute [local irreducible] wpQuiet

set_option maxRecDepth 100000 in
set_option maxHeartbeats 4000000 in
theorem normal_true (l : List Win) (A : Option Addr) (cap : Nat) (w : World) (hl : l.length ≤ 1000) (hn : Nf (-1) 4294944000 l) (h : WsR w A l) :
    Calls Tryd.prog 36 #[.slice A l.length cap] w fun e w' => e = .returned (.bool true) ∧ Below w.heap.size w w' := by
  have hat := nf_at hn
  have hnx := nf_next hn
  have hok : ∀ k, k < l.length → okB (l.getD k (0, 0)) = true := fun k hk => hn.ok (by omega) (by omega) _ (by simp [hk])
  obtain ⟨len, hlen⟩ : ∃ n, l.length = n := ⟨_, rfl⟩
  have HL := Lib.hid hlen
  have H := Lib.hid h
  have HAT := Lib.hid hat
  have HNX := Lib.hid hnx
  have HOK := Lib.hid hok
  rw [hlen] at hl ⊢
  clear hlen h hat hnx hok hn
  go_enter Tryd.func36, Tryd.ntmps36
  go_wp2
  go_loopw [3] (fun i wr => ∃ k : Nat, k ≤ len ∧ i = .int .i64 (k : Int) ∧ Below w.heap.size w wr) (fun i _ => len - (intOf i).toNat)
  case atStart => exact ⟨0, by omega, rfl, Below.refl _ _⟩
  case round =>
    obtain ⟨k, hk, rfl, hB⟩ := hrel
    by_cases hlt : k < len
    · have hkl : k < l.length := by rw [HL.out]; exact hlt
      have hltz : (k : Int) < (len : Int) := by omega
      obtain ⟨b, o, rfl, hbl, hc⟩ := (H.out.below hB) (by omega)
      obtain ⟨c0, c1⟩ := hc k hkl
      have hx := okB_true (HOK.out k hkl)
      have hv := HOK.out k hkl
      have hlt2 := HAT.out k hkl
      by_cases hk0 : k = 0
      · obtain ⟨x, y, hxy⟩ : ∃ x y, l.getD k (0, 0) = (x, y) := ⟨_, _, rfl⟩
        rw [hxy] at c0 c1 hx hv hlt2
        have hxl : 0 ≤ x ∧ x ≤ y ∧ y ≤ 4294944000 := hx
        have hne : (x == y) = false := beq_eq_false_iff_ne.2 (by have : x < y := hlt2; omega)
        have d0 := cell_regrown c0
        have d1 := cell_regrown c1
        have HV : Hid (∀ w', Calls Tryd.prog 18 #[.agg #[.int .i64 x, .int .i64 y]] w' fun e w'' => e = .returned (.bool true) ∧ Below w'.heap.size w' w'') := Lib.hid (fun w' => (refValid_any x y w' (by omega) (by omega) (by omega) (by omega)).mono fun e w'' ⟨he, hw⟩ => ⟨by rw [he, hv], hw ▸ alloc_below w' x y⟩)
        have zkn : ¬ 0 < k := by omega
        have zki : ¬ (0 : Int) < (k : Int) := by omega
        clear hc hxy hkl hx hv hlt2 c0 c1 hk0 H HAT HNX HOK HL
        go_wp2_with fail
        refine wp_region_quiet_below (by kernel_rfl) (by kernel_rfl) ?_
        repeat (quiet_step ((go_at_call 18; exact Calls.regrown_of (HV.out _))))
        refine wpQuiet_nil ?_
        intro _ hw'
        obtain ⟨⟨dq, osq⟩, hw''⟩ := hw'
        subst hw''
        go_wp2
        go_roundw
        case rel => exact ⟨k + 1, by omega, by go_num, Below.step hB (below_regrown wr dq osq)⟩
        case measure => simp only [intOf]; omega
      · obtain ⟨j, hkj⟩ : ∃ j, k = j + 1 := ⟨k - 1, by omega⟩
        obtain ⟨_, p1⟩ := hc j (by omega)
        have hgt := HNX.out j (by rw [HL.out]; omega)
        rw [← hkj] at hgt
        obtain ⟨x, y, hxy⟩ : ∃ x y, l.getD k (0, 0) = (x, y) := ⟨_, _, rfl⟩
        obtain ⟨x', y', hxy'⟩ : ∃ x y, l.getD j (0, 0) = (x, y) := ⟨_, _, rfl⟩
        rw [hxy] at c0 c1 hx hv hlt2 hgt
        rw [hxy'] at p1 hgt
        have hxl : 0 ≤ x ∧ x ≤ y ∧ y ≤ 4294944000 := hx
        have hne : (x == y) = false := beq_eq_false_iff_ne.2 (by have : x < y := hlt2; omega)
        have hng : ¬ x ≤ y' := by have : y' < x := hgt; omega
        have d0 := cell_regrown c0
        have d1 := cell_regrown c1
        have d2 := cell_regrown p1
        have HV : Hid (∀ w', Calls Tryd.prog 18 #[.agg #[.int .i64 x, .int .i64 y]] w' fun e w'' => e = .returned (.bool true) ∧ Below w'.heap.size w' w'') := Lib.hid (fun w' => (refValid_any x y w' (by omega) (by omega) (by omega) (by omega)).mono fun e w'' ⟨he, hw⟩ => ⟨by rw [he, hv], hw ▸ alloc_below w' x y⟩)
        have zk : (0 : Int) < (k : Int) := by omega
        have zkn : 0 < k := by omega
        have zk2 : (k : Int) - 1 = (j : Int) := by omega
        have zj : (j : Int) < (len : Int) := by omega
        have zw : IntKind.i64.wrap (j : Int) = (j : Int) := IntWalk.i64_in _ (by omega)
        have zj0 : (0 : Int) ≤ (j : Int) := by omega
        clear hc hxy hxy' hkl hx hv hlt2 c0 c1 p1 hgt hk0 hkj H HAT HNX HOK HL
        go_wp2_with fail
        refine wp_region_quiet_below (by kernel_rfl) (by kernel_rfl) ?_
        repeat (quiet_step ((go_at_call 18; exact Calls.regrown_of (HV.out _))))
        refine wpQuiet_nil ?_
        intro _ hw'
        obtain ⟨⟨dq, osq⟩, hw''⟩ := hw'
        subst hw''
        go_wp2
        go_roundw
        case rel => exact ⟨k + 1, by omega, by go_num, Below.step hB (below_regrown wr dq osq)⟩
        case measure => simp only [intOf]; omega
    · have hnlt : ¬ (k : Int) < (len : Int) := by omega
      go_wp2
      go_ret
      exact ⟨rfl, hB⟩
end Go.Proofs.YtkiedopknoekpaaDoor
