/-
  The network of the examples, and the contract of few. No condition.
-/
import Derived.Test.YthomklpaafnjhaaRdT
namespace Go.Proofs.Ythomklpaafnjhaa
open Go.RowKit
set_option linter.unusedVariables false

/-- The edges of the examples. -/
def sqL : List Ed := [⟨0, 1, 5⟩, ⟨1, 2, 5⟩, ⟨0, 2, 10⟩, ⟨0, 1, 5⟩]
theorem alloc_lt (w : World) (o : Obj) : w.heap.size < (w.alloc o).heap.size := (Array.getElem?_eq_some_iff.1 (heap_alloc_new w o)).1
theorem EdR.lit (w : World) (l : List Ed) (cells : Array Value) (t : TypeId) (h : cells = (flatE l).toArray) : EdR (w.alloc (.cells cells t)) (some ⟨w.heap.size, 0, none⟩) l := fun _ => by
  subst h
  refine ⟨_, 0, rfl, alloc_lt _ _, fun k hk => ?_⟩
  obtain ⟨f0, f1, f2⟩ := flatE_get l k hk
  rw [Nat.zero_add]
  refine ⟨?_, ?_, ?_⟩
  · rw [World.cell?_alloc_new, List.getElem?_toArray]; exact f0
  · rw [World.cell?_alloc_new, List.getElem?_toArray]; exact f1
  · rw [World.cell?_alloc_new, List.getElem?_toArray]; exact f2
theorem IntR.lit (w : World) (l : List Int) (cells : Array Value) (t : TypeId) (h : cells = (l.map (Value.int .i64)).toArray) : IntR (w.alloc (.cells cells t)) (some ⟨w.heap.size, 0, none⟩) l := fun _ => by
  subst h
  refine ⟨_, 0, rfl, alloc_lt _ _, fun k hk => ?_⟩
  rw [Nat.zero_add, World.cell?_alloc_new, List.getElem?_toArray]
  simp [hk]
set_option maxRecDepth 100000 in
theorem square_any (w : World) : Calls Try.prog 23 #[] w fun e w' => ∃ A c, e = .returned (.agg #[.int .i64 4, .slice A 4 c]) ∧ EdR w' A sqL ∧ Below w.heap.size w w' := by
  have HE := Lib.hid (EdR.lit (w.alloc (.cells #[.int .i64 4, .slice (some ⟨w.heap.size + 1, 0, none⟩) 4 4] 24)) sqL #[.int .i64 0, .int .i64 1, .int .i64 5, .int .i64 1, .int .i64 2, .int .i64 5, .int .i64 0, .int .i64 2, .int .i64 10, .int .i64 0, .int .i64 1, .int .i64 5] 43 rfl)
  have hs : (w.alloc (.cells #[.int .i64 4, .slice (some ⟨w.heap.size + 1, 0, none⟩) 4 4] 24)).heap.size = w.heap.size + 1 := by simp
  rw [hs] at HE
  have HB := Lib.hid (((below_alloc w (.cells #[.int .i64 4, .slice (some ⟨w.heap.size + 1, 0, none⟩) 4 4] 24))).alloc (Nat.le_of_lt (alloc_lt _ _)) (.cells #[.int .i64 0, .int .i64 1, .int .i64 5, .int .i64 1, .int .i64 2, .int .i64 5, .int .i64 0, .int .i64 2, .int .i64 10, .int .i64 0, .int .i64 1, .int .i64 5] 43))
  clear hs
  go_enter Try.func23, Try.ntmps23
  go_wp2_with fail
  refine bodyPost_ret (v := .agg #[.int .i64 4, .slice (some ⟨w.heap.size + 1, 0, none⟩) 4 4]) ?_ rfl ⟨_, _, rfl, HE.out, HB.out⟩
  rw [results_c rfl]; go_simp
/-- Is the network one that is tried? -/
def fewB (m : Nat) : Bool := decide (m ≤ 60) || (decide (512 < m) && decide (m ≤ 600))
theorem few_any (n : Int) (A : Option Addr) (m c : Nat) (w : World) : Calls Try.prog 9 #[.agg #[.int .i64 n, .slice A m c]] w fun e w' => e = .returned (.bool (fewB m)) ∧ Below w.heap.size w w' := by
  by_cases h1 : m ≤ 60
  · have hf : fewB m = true := by unfold fewB; simp [h1]
    have hz : (m : Int) ≤ 60 := by omega
    rw [hf]
    go_enter Try.func9, Try.ntmps9
    go_wp2_with fail
    go_ret
    exact ⟨rfl, below_alloc _ _⟩
  · by_cases h2 : 512 < m
    · have hz : ¬ (m : Int) ≤ 60 := by omega
      have hz2 : (512 : Int) < (m : Int) := by omega
      by_cases h3 : m ≤ 600
      · have hf : fewB m = true := by unfold fewB; simp [h2, h3]
        have hz3 : (m : Int) ≤ 600 := by omega
        rw [hf]
        go_enter Try.func9, Try.ntmps9
        go_wp2_with fail
        go_ret
        exact ⟨ret_bool (by simp), below_alloc _ _⟩
      · have hf : fewB m = false := by unfold fewB; simp [h1, h3]
        have hz3 : ¬ (m : Int) ≤ 600 := by omega
        rw [hf]
        go_enter Try.func9, Try.ntmps9
        go_wp2_with fail
        go_ret
        exact ⟨ret_bool (by simp), below_alloc _ _⟩
    · have hf : fewB m = false := by unfold fewB; simp [h1, h2]
      have hz : ¬ (m : Int) ≤ 60 := by omega
      have hz2 : ¬ (512 : Int) < (m : Int) := by omega
      rw [hf]
      go_enter Try.func9, Try.ntmps9
      go_wp2_with fail
      go_ret
      exact ⟨ret_bool (by simp), below_alloc _ _⟩
theorem sq_ck : ck 4 sqL = 0 := by decide +kernel
theorem sq_ok : OkL 4 sqL := by
  obtain ⟨M, h1, _, _, _, h⟩ := ck_ok sq_ck
  obtain rfl : M = 4 := by omega
  exact h
/-- The least lengths from a node of the examples, and to it. -/
noncomputable def sqD (a : Nat) : Nat → Option Nat := if a < 4 then rnds (arcs sqL) a 4 else (Ds.exist (arcs sqL) a).choose
theorem sqD_ds (a : Nat) : Ds (arcs sqL) a (sqD a) := by
  unfold sqD
  by_cases h : a < 4
  · rw [if_pos h]; exact rnds_Ds sq_ok.net h
  · rw [if_neg h]; exact (Ds.exist (arcs sqL) a).choose_spec
attribute [local irreducible] sqD
theorem sqD_ds0 : Ds (arcs sqL) (Int.toNat 0) (sqD 0) := by
  have h0 : Int.toNat 0 = 0 := rfl
  rw [h0]
  exact sqD_ds 0
def sqR (a : Nat) : Nat → Option Nat := rnds (rev (arcs sqL)) a 4
theorem sqR_ds (a : Nat) (h : a < 4) : Ds (rev (arcs sqL)) a (sqR a) := rnds_Ds sq_ok.net.rev h
attribute [local irreducible] sqR
theorem ex1 (A : Option Addr) (c : Nat) (w : World) (h : EdR w A sqL) : Calls Try.prog 11 #[.agg #[.int .i64 4, .slice A 4 c], .int .i64 0] w fun e w' => ∃ B d, e = .returned (.tuple #[.slice B 4 d, .int .i64 0]) ∧ IntR w' B [0, 5, 10, -1] ∧ Below w.heap.size w w' := by
  refine (times_any 4 0 A 4 c sqL (sqD 0) w rfl h (sqD_ds0)).mono ?_
  rintro e w' ⟨B, d, k, rfl, hk, hI, hB, _⟩
  have e1 : tmA 4 sqL 0 (sqD 0) = [0, 5, 10, -1] := by unfold sqD; rw [if_pos (by decide)]; decide +kernel
  have e2 : tmE 4 sqL 0 = 0 := by decide +kernel
  rw [e1] at hI hk
  rw [e2]
  subst hk
  exact ⟨B, d, rfl, hI, hB⟩
theorem ex2 (A : Option Addr) (c : Nat) (w : World) (h : EdR w A sqL) : Calls Try.prog 19 #[.agg #[.int .i64 4, .slice A 4 c], .int .i64 0, .int .i64 2] w fun e w' => ∃ B d, e = .returned (.tuple #[.slice B 1 d, .int .i64 0]) ∧ IntR w' B [2] ∧ Below w.heap.size w w' := by
  refine (way_any 4 0 2 A 4 c sqL (sqR 2) w rfl h (sqR_ds 2 (by decide))).mono ?_
  rintro e w' ⟨B, d, k, rfl, hk, hI, hB, _⟩
  have e1 : wyA 4 sqL 0 2 (sqR 2) = [2] := by decide +kernel
  have e2 : wyE 4 sqL 0 2 (sqR 2) = 0 := by decide +kernel
  rw [e1] at hI hk
  rw [e2]
  subst hk
  exact ⟨B, d, rfl, hI, hB⟩
theorem ex3 (A : Option Addr) (c : Nat) (w : World) (h : EdR w A sqL) : Calls Try.prog 19 #[.agg #[.int .i64 4, .slice A 4 c], .int .i64 0, .int .i64 1] w fun e w' => ∃ B d, e = .returned (.tuple #[.slice B 1 d, .int .i64 0]) ∧ IntR w' B [0] ∧ Below w.heap.size w w' := by
  refine (way_any 4 0 1 A 4 c sqL (sqR 1) w rfl h (sqR_ds 1 (by decide))).mono ?_
  rintro e w' ⟨B, d, k, rfl, hk, hI, hB, _⟩
  have e1 : wyA 4 sqL 0 1 (sqR 1) = [0] := by decide +kernel
  have e2 : wyE 4 sqL 0 1 (sqR 1) = 0 := by decide +kernel
  rw [e1] at hI hk
  rw [e2]
  subst hk
  exact ⟨B, d, rfl, hI, hB⟩
theorem ex4 (A : Option Addr) (c : Nat) (w : World) (h : EdR w A sqL) : Calls Try.prog 19 #[.agg #[.int .i64 4, .slice A 4 c], .int .i64 0, .int .i64 3] w fun e w' => ∃ B d k, e = .returned (.tuple #[.slice B k d, .int .i64 15]) ∧ Below w.heap.size w w' := by
  refine (way_any 4 0 3 A 4 c sqL (sqR 3) w rfl h (sqR_ds 3 (by decide))).mono ?_
  rintro e w' ⟨B, d, k, rfl, hk, hI, hB, _⟩
  have e2 : wyE 4 sqL 0 3 (sqR 3) = 15 := by decide +kernel
  rw [e2]
  exact ⟨B, d, k, rfl, hB⟩
theorem ex5 (A B : Option Addr) (c d : Nat) (w : World) (h : EdR w A sqL) (hB : IntR w B [2, 0]) : Calls Try.prog 16 #[.agg #[.int .i64 4, .slice A 4 c], .slice B 2 d] w fun e w' => ∃ B d, e = .returned (.tuple #[.slice B 2 d, .int .i64 0]) ∧ RowsR w' B [[0, -1], [10, 0]] ∧ Below w.heap.size w w' := by
  refine (table_any 4 A B 4 c 2 d sqL [2, 0] sqD w rfl h rfl (by decide) hB sqD_ds).mono ?_
  rintro e w' ⟨B, d, k, rfl, hk, hI, hB, _⟩
  have e3 : sqD 2 = rnds (arcs sqL) 2 4 := by unfold sqD; rw [if_pos (by decide)]
  have e4 : sqD 0 = rnds (arcs sqL) 0 4 := by unfold sqD; rw [if_pos (by decide)]
  have e2 : tbE 4 sqL [2, 0] = 0 := by decide +kernel
  have e1 : tbA 4 sqL [2, 0] sqD = [[0, -1], [10, 0]] := by
    unfold tbA
    rw [if_pos e2]
    show [[lS (sqD 2 2), lS (sqD 2 0)], [lS (sqD 0 2), lS (sqD 0 0)]] = _
    rw [e3, e4]
    decide +kernel
  rw [e1] at hI hk
  rw [e2]
  subst hk
  exact ⟨B, d, rfl, hI, hB⟩
end Go.Proofs.Ythomklpaafnjhaa
