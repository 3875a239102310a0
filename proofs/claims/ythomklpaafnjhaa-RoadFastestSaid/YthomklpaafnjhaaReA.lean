/-
  Items, the orders by key, and what a heap of ways in memory is. Condition: as each says.
-/
import Derived.Test.YthomklpaafnjhaaRdHeap
import Derived.Deep.QuietTactic
import Derived.BigQuiet
import Derived.Outline
import Derived.Deep.AppendSrc
import Derived.Laws.OwnMore
import Derived.Laws.NewBlocks
import Derived.Maps.AppendAt
import Derived.Deep.AppendLies
import Derived.Shelf.SlSortCmp.QuietGrown
namespace Go.Proofs.Ythomklpaafnjhaa
open Go.RowKit
set_option linter.unusedVariables false

theorem ret_bool {a b : Bool} (h : a = b) : Ending.returned (.bool a) = .returned (.bool b) := by rw [h]
theorem ret_int {k : IntKind} {a b : Int} (h : a = b) : Ending.returned (.int k a) = .returned (.int k b) := by rw [h]
theorem Below.step {a b c : World} (h : Below a.heap.size a b) (k : Below b.heap.size b c) : Below a.heap.size a c := h.trans (k.mono h.size)
theorem Below.drewN {B : Nat} {a w : World} (h : Below B a w) (n : Nat) : Below B a (w.drewN n) := ⟨h.os, h.tape, h.output, h.size, h.block⟩
theorem below_drewN' (w : World) (n : Nat) : Below w.heap.size w (w.drewN n) := ⟨rfl, rfl, rfl, Nat.le_refl _, fun _ _ => rfl⟩

/-- A way in the queue: its last node; its length as one number, the key of the order. -/
abbrev It := Int × Nat
/-- The two numbers of a length. -/
def xS (k : Nat) : Int := ((k / 1048576 : Nat) : Int)
def xE (k : Nat) : Int := ((k % 1048576 : Nat) : Int)
theorem xS_bd (k : Nat) (h : k < 1073741824000000) : 0 ≤ xS k ∧ xS k < 1024000000 := by
  unfold xS; omega
theorem xE_bd (k : Nat) : 0 ≤ xE k ∧ xE k < 1048576 := by
  unfold xE; omega
theorem x_lt (a b : Nat) : (xS a < xS b ∨ (xS a = xS b ∧ xE a < xE b)) ↔ a < b := by
  unfold xS xE
  have := Nat.div_add_mod a 1048576
  have := Nat.div_add_mod b 1048576
  omega
theorem x_eq {a b : Nat} : (xS a = xS b ∧ xE a = xE b) ↔ a = b := by
  unfold xS xE
  have := Nat.div_add_mod a 1048576
  have := Nat.div_add_mod b 1048576
  omega
theorem x_zero : xS 0 = 0 ∧ xE 0 = 0 := by decide
def kI (dn : Bool) (x : It) : Int := (x.2 : Int)
/-- The function of the order. (There is one; the argument is not looked at.) -/
def lessF (dn : Bool) : Nat := 34

theorem two_allocs (w : World) (o o' : Obj) : (w.alloc o).alloc o' = Sort.grow w #[o, o'] := by
  rw [Sort.alloc_eq_grow, Sort.alloc_eq_grow, Sort.grow_grow]; rfl
theorem one_alloc (w : World) (o : Obj) : (w.alloc o) = Sort.grow w #[o] := Sort.alloc_eq_grow _ _
theorem below_grow (w : World) (n : Nat) (os : Array Obj) : Below w.heap.size w (Sort.grow (w.drewN n) os) :=
  ⟨rfl, rfl, rfl, by simp [Sort.grow, World.drewN], fun k hk => by
    show (w.heap ++ os)[k]? = w.heap[k]?
    rw [Array.getElem?_append_left hk]⟩
theorem beforeL_any (a b : Nat) (w : World) :
    Calls Try.prog 35 #[.agg #[.int .i64 (xS a), .int .i64 (xE a)], .agg #[.int .i64 (xS b), .int .i64 (xE b)]] w fun e w' => e = .returned (.bool (decide ((a : Int) < (b : Int)))) ∧ ∃ os, w' = Sort.grow w os := by
  have hl := x_lt a b
  obtain ⟨r, hr⟩ : ∃ r, decide ((a : Int) < (b : Int)) = r := ⟨_, rfl⟩
  have hr2 : r = decide (a < b) := by rw [← hr]; congr 1; simp
  rw [hr, hr2]
  clear hr hr2
  generalize xS a = s at hl ⊢
  generalize xE a = t at hl ⊢
  generalize xS b = s' at hl ⊢
  generalize xE b = t' at hl ⊢
  by_cases h1 : s < s'
  · rw [decide_eq_true (hl.1 (Or.inl h1))]
    clear hl
    go_enter Try.func35, Try.ntmps35
    go_wp2_with fail
    go_ret
    exact ⟨rfl, _, two_allocs _ _ _⟩
  · by_cases h2 : s = s'
    · subst h2
      by_cases h3 : t < t'
      · rw [decide_eq_true (hl.1 (Or.inr ⟨rfl, h3⟩))]
        clear hl
        go_enter Try.func35, Try.ntmps35
        go_wp2_with fail
        go_ret
        exact ⟨rfl, _, two_allocs _ _ _⟩
      · rw [decide_eq_false (fun e => by rcases hl.2 e with h | ⟨_, h⟩ <;> omega)]
        clear hl
        go_enter Try.func35, Try.ntmps35
        go_wp2_with fail
        go_ret
        exact ⟨rfl, _, two_allocs _ _ _⟩
    · rw [decide_eq_false (fun e => by rcases hl.2 e with h | ⟨h, _⟩ <;> omega)]
      clear hl
      go_enter Try.func35, Try.ntmps35
      go_wp2_with fail
      go_ret
      exact ⟨rfl, _, two_allocs _ _ _⟩
theorem less_any (dn : Bool) (x y : It) (w : World) :
    Calls Try.prog (lessF dn) #[.agg #[.int .i64 x.1, .int .i64 (xS x.2), .int .i64 (xE x.2)], .agg #[.int .i64 y.1, .int .i64 (xS y.2), .int .i64 (xE y.2)]] w fun e w' => e = .returned (.bool (decide (kI dn x < kI dn y))) ∧ ∃ q os, w' = Sort.grow (w.drewN q) os := by
  obtain ⟨x0, a⟩ := x
  obtain ⟨y0, b⟩ := y
  have HR := Lib.hid (fun w => beforeL_any a b w)
  show Calls Try.prog 34 _ w _
  show Calls Try.prog _ _ w fun e w' => e = .returned (.bool (decide ((a : Int) < (b : Int)))) ∧ _
  generalize decide ((a : Int) < (b : Int)) = r at HR ⊢
  have xa := xS_bd
  generalize xS a = s at HR ⊢
  generalize xE a = t at HR ⊢
  generalize xS b = s' at HR ⊢
  generalize xE b = t' at HR ⊢
  clear xa
  go_enter Try.func34, Try.ntmps34
  go_wp2_with fail
  refine (HR.out _).mono ?_
  rintro e w' ⟨rfl, os, rfl⟩
  go_wp2_with fail
  go_ret
  exact ⟨rfl, 0, _, by rw [two_allocs, Sort.grow_grow]; rfl⟩
theorem less_enters (dn : Bool) (args : Array Value) (w : World) : (callFunc (lessF dn) args).run Try.prog w = .ok (.enter (lessF dn) args) w :=
  enters_of Try.func34 (by kernel_rfl) rfl args w

/-- What a step leaves as it was: every block but those of S. -/
structure Keep (S : Nat → Prop) (w w' : World) : Prop where
  os : w'.os = w.os
  tape : w'.tape = w.tape
  output : w'.output = w.output
  size : w.heap.size ≤ w'.heap.size
  block : ∀ k, k < w.heap.size → ¬ S k → w'.heap[k]? = w.heap[k]?
theorem Keep.refl (S : Nat → Prop) (w : World) : Keep S w w := ⟨rfl, rfl, rfl, Nat.le_refl _, fun _ _ _ => rfl⟩
theorem Keep.below {S : Nat → Prop} {w w' : World} (h : Keep S w w') {B : Nat} (hS : ∀ k, S k → B ≤ k) (hB : B ≤ w.heap.size) : Below B w w' :=
  ⟨h.os, h.tape, h.output, h.size, fun k hk => h.block k (by omega) fun e => by have := hS k e; omega⟩
theorem Keep.ofBelow {S : Nat → Prop} {w w' : World} (h : Below w.heap.size w w') : Keep S w w' := ⟨h.os, h.tape, h.output, h.size, fun k hk _ => h.block k hk⟩
theorem Keep.ofGrown {S : Nat → Prop} {w w' : World} {row : Option Nat} (h : w.grownBy w' row) (hS : ∀ k, row = some k → S k) : Keep S w w' :=
  ⟨h.os, h.tape, h.output, h.size, fun k hk hn => h.block k hk fun e => hn (hS k e.symm)⟩
theorem Keep.trans {S S' : Nat → Prop} {a b c : World} (h : Keep S a b) (h' : Keep S' b c) (hS : ∀ k, S' k → S k ∨ a.heap.size ≤ k) : Keep S a c :=
  ⟨h'.os.trans h.os, h'.tape.trans h.tape, h'.output.trans h.output, Nat.le_trans h.size h'.size, fun k hk hn =>
    (h'.block k (Nat.lt_of_lt_of_le hk h.size) fun e => by rcases hS k e with e | e; exact hn e; omega).trans (h.block k hk hn)⟩
theorem Keep.step {S : Nat → Prop} {a b c : World} (h : Keep S a b) (h' : Keep S b c) : Keep S a c := h.trans h' fun k e => Or.inl e
theorem Keep.on {S : Nat → Prop} {a b c : World} (h : Keep S a b) (h' : Below b.heap.size b c) : Keep S a c := h.step (Keep.ofBelow h')
theorem Keep.mono {S S' : Nat → Prop} {a b : World} (h : Keep S a b) (hS : ∀ k, S k → S' k) : Keep S' a b := ⟨h.os, h.tape, h.output, h.size, fun k hk hn => h.block k hk fun e => hn (hS k e)⟩
theorem Keep.drewN {S : Nat → Prop} {w w' : World} (h : Keep S w w') (n : Nat) : Keep S w (w'.drewN n) := ⟨h.os, h.tape, h.output, h.size, h.block⟩
theorem Keep.drew {S : Nat → Prop} {w w' : World} (h : Keep S w w') : Keep S w w'.drew := ⟨h.os, h.tape, h.output, h.size, h.block⟩
theorem Keep.alloc {S : Nat → Prop} {w w' : World} (h : Keep S w w') (o : Obj) : Keep S w (w'.alloc o) :=
  h.trans (S' := fun _ => False) (Keep.ofGrown (World.grownBy_alloc w' o none) (fun k e => by cases e)) (fun k e => e.elim)
theorem Keep.set {S : Nat → Prop} {w w' : World} (h : Keep S w w') (a : Addr) (u : Value) (hS : S a.block) : Keep S w (w'.setCell a u) :=
  h.trans (S' := S) (Keep.ofGrown (row := some a.block) ⟨rfl, rfl, rfl, by simp, fun k hk hne => heap_setCell_other w' a k u (fun e => hne (by rw [e]))⟩ (fun k e => by cases e; exact hS)) (fun k e => Or.inl e)
theorem Keep.set' {S : Nat → Prop} {w w' : World} (h : Keep S w w') (a : Addr) (u : Value) (hS : S a.block ∨ w.heap.size ≤ a.block) : Keep S w (w'.setCell a u) :=
  h.trans (S' := fun k => k = a.block) (Keep.ofGrown (row := some a.block) ⟨rfl, rfl, rfl, by simp, fun k hk hne => heap_setCell_other w' a k u (fun e => hne (by rw [e]))⟩ (fun k e => by cases e; rfl)) (fun k e => by subst e; exact hS)
theorem Keep.grown {S : Nat → Prop} {w w1 w2 : World} {row : Option Nat} (h : Keep S w w1) (hg : w1.grownBy w2 row) (hS : ∀ k, row = some k → S k ∨ w.heap.size ≤ k) : Keep S w w2 :=
  h.trans (S' := fun k => row = some k) (Keep.ofGrown hg (fun k e => e)) hS
theorem Keep.cell {S : Nat → Prop} {w w' : World} (h : Keep S w w') {p : Addr} (hp : p.block < w.heap.size) (hn : ¬ S p.block) : w'.cell? p = w.cell? p := World.cell?_of_block (w := w) (h.block p.block hp hn)
theorem Keep.frozen {S : Nat → Prop} {w w' : World} (h : Keep S w w') {p : Addr} (hp : p.block < w.heap.size) (hn : ¬ S p.block) : w'.frozen? p = w.frozen? p := World.frozen?_of_block (w := w) (h.block p.block hp hn)

/-- Block g holds n entries, those of h; there is room for cap. -/
def HpR (w : World) (g n cap : Nat) (h : Nat → It × Nat) : Prop := n ≤ cap ∧ cap ≤ maxLen ∧ ∃ cur : Array Value, w.heap[g]? = some (.cells cur 84 (0, 0)) ∧ cur.size = cap * 4 ∧
  ∀ j, j < n → cur[j * 4]? = some (.int .i64 (h j).1.1) ∧ cur[j * 4 + 1]? = some (.int .i64 (xS (h j).1.2)) ∧ cur[j * 4 + 2]? = some (.int .i64 (xE (h j).1.2)) ∧ cur[j * 4 + 3]? = some (.int .i64 ((h j).2 : Int))
theorem HpR.lt {w : World} {g n cap : Nat} {h : Nat → It × Nat} (H : HpR w g n cap h) : g < w.heap.size := by
  obtain ⟨_, _, cur, h1, _⟩ := H
  exact (Array.getElem?_eq_some_iff.1 h1).1
theorem HpR.cell {w : World} {g n cap j : Nat} {h : Nat → It × Nat} (H : HpR w g n cap h) (hj : j < n) :
    w.cell? ⟨g, j * 4, none⟩ = some (.int .i64 (h j).1.1) ∧ w.cell? ⟨g, j * 4 + 1, none⟩ = some (.int .i64 (xS (h j).1.2)) ∧ w.cell? ⟨g, j * 4 + 2, none⟩ = some (.int .i64 (xE (h j).1.2)) ∧ w.cell? ⟨g, j * 4 + 3, none⟩ = some (.int .i64 ((h j).2 : Int)) := by
  obtain ⟨_, _, cur, h1, h2, h3⟩ := H
  obtain ⟨a0, a1, a2, a3⟩ := h3 j hj
  exact ⟨(cell_of_row w g _ cur _ _ h1).trans a0, (cell_of_row w g _ cur _ _ h1).trans a1, (cell_of_row w g _ cur _ _ h1).trans a2, (cell_of_row w g _ cur _ _ h1).trans a3⟩
theorem HpR.frozen {w : World} {g n cap : Nat} {h : Nat → It × Nat} (H : HpR w g n cap h) (j : Nat) : w.frozen? ⟨g, j, none⟩ = false := by
  obtain ⟨_, _, cur, h1, _⟩ := H
  simp [World.frozen?, h1]
theorem HpR.keep {w w' : World} {g n cap : Nat} {h : Nat → It × Nat} {S : Nat → Prop} (H : HpR w g n cap h) (hk : Keep S w w') (hS : ¬ S g) : HpR w' g n cap h := by
  have hlt := H.lt
  obtain ⟨h0, h1, cur, h2, h3⟩ := H
  exact ⟨h0, h1, cur, (hk.block g hlt hS).trans h2, h3⟩
theorem HpR.below {w w' : World} {g n cap : Nat} {h : Nat → It × Nat} (H : HpR w g n cap h) (hb : Below w.heap.size w w') : HpR w' g n cap h :=
  H.keep (Keep.ofBelow (S := fun _ => False) hb) (fun e => e)
theorem HpR.drew {w : World} {g n cap : Nat} {h : Nat → It × Nat} (H : HpR w g n cap h) : HpR w.drew g n cap h := H
theorem HpR.drewN {w : World} {g n cap : Nat} {h : Nat → It × Nat} (H : HpR w g n cap h) (q : Nat) : HpR (w.drewN q) g n cap h := H
/-- The world with entry i written. -/
def putE (w : World) (g i : Nat) (x : It × Nat) : World := (((w.setCell ⟨g, i * 4, none⟩ (.int .i64 x.1.1)).setCell ⟨g, i * 4 + 1, none⟩ (.int .i64 (xS x.1.2))).setCell ⟨g, i * 4 + 2, none⟩ (.int .i64 (xE x.1.2))).setCell ⟨g, i * 4 + 3, none⟩ (.int .i64 (x.2 : Int))
theorem set_row {w : World} {g j : Nat} {cur : Array Value} {e : TypeId} (u : Value) (h : w.heap[g]? = some (.cells cur e (0, 0))) : (w.setCell ⟨g, j, none⟩ u).heap[g]? = some (.cells (cur.setIfInBounds j u) e (0, 0)) := by
  simp [World.setCell, Array.getElem?_modify, h]
theorem HpR.put {w : World} {g n m cap i : Nat} {h h' : Nat → It × Nat} (H : HpR w g n cap h) (x : It × Nat) (hi : i < cap) (hm : m ≤ cap) (hh : ∀ t, t < m → if t = i then h' t = x else t < n ∧ h' t = h t) : HpR (putE w g i x) g m cap h' := by
  obtain ⟨h0, h1, cur, h2, h3, h4⟩ := H
  refine ⟨hm, h1, _, set_row _ (set_row _ (set_row _ (set_row _ h2))), by simp [h3], fun j hj => ?_⟩
  have hj2 := hh j hj
  by_cases e : j = i
  · subst e
    rw [if_pos rfl] at hj2
    rw [hj2]
    refine ⟨?_, ?_, ?_, ?_⟩
    · rw [Array.getElem?_setIfInBounds, if_neg (by omega), Array.getElem?_setIfInBounds, if_neg (by omega), Array.getElem?_setIfInBounds, if_neg (by omega), Array.getElem?_setIfInBounds, if_pos rfl, if_pos (by first | (rw [h3]; omega) | (simp [h3]; omega))]
    · rw [Array.getElem?_setIfInBounds, if_neg (by omega), Array.getElem?_setIfInBounds, if_neg (by omega), Array.getElem?_setIfInBounds, if_pos rfl, if_pos (by first | (rw [h3]; omega) | (simp [h3]; omega))]
    · rw [Array.getElem?_setIfInBounds, if_neg (by omega), Array.getElem?_setIfInBounds, if_pos rfl, if_pos (by first | (rw [h3]; omega) | (simp [h3]; omega))]
    · rw [Array.getElem?_setIfInBounds, if_pos rfl, if_pos (by first | (rw [h3]; omega) | (simp [h3]; omega))]
  · rw [if_neg e] at hj2
    rw [hj2.2]
    obtain ⟨a0, a1, a2, a3⟩ := h4 j hj2.1
    refine ⟨?_, ?_, ?_, ?_⟩
    · rw [Array.getElem?_setIfInBounds, if_neg (by omega), Array.getElem?_setIfInBounds, if_neg (by omega), Array.getElem?_setIfInBounds, if_neg (by omega), Array.getElem?_setIfInBounds, if_neg (by omega), a0]
    · rw [Array.getElem?_setIfInBounds, if_neg (by omega), Array.getElem?_setIfInBounds, if_neg (by omega), Array.getElem?_setIfInBounds, if_neg (by omega), Array.getElem?_setIfInBounds, if_neg (by omega), a1]
    · rw [Array.getElem?_setIfInBounds, if_neg (by omega), Array.getElem?_setIfInBounds, if_neg (by omega), Array.getElem?_setIfInBounds, if_neg (by omega), Array.getElem?_setIfInBounds, if_neg (by omega), a2]
    · rw [Array.getElem?_setIfInBounds, if_neg (by omega), Array.getElem?_setIfInBounds, if_neg (by omega), Array.getElem?_setIfInBounds, if_neg (by omega), Array.getElem?_setIfInBounds, if_neg (by omega), a3]
theorem HpR.swap {w : World} {g n cap i j : Nat} {h : Nat → It × Nat} (H : HpR w g n cap h) (hi : i < n) (hj : j < n) : HpR (putE (putE w g i (h j)) g j (h i)) g n cap (swp h i j) := by
  have hc := H.1
  have h1 : HpR (putE w g i (h j)) g n cap (fun t => if t = i then h j else h t) := H.put (h j) (by omega) hc fun t ht => by
    by_cases e : t = i
    · simp [e]
    · simp [e, ht]
  refine h1.put (h i) (by omega) hc fun t ht => ?_
  by_cases e : t = j
  · subst e; rw [if_pos rfl, swp_r]
  · rw [if_neg e]
    refine ⟨ht, ?_⟩
    by_cases e2 : t = i
    · subst e2; rw [swp_l, if_pos rfl]
    · rw [swp_o h e2 e, if_neg e2]
theorem Keep.putE {S : Nat → Prop} {w w' : World} (h : Keep S w w') (g i : Nat) (x : It × Nat) (hS : S g) : Keep S w (putE w' g i x) := (((h.set _ _ hS).set _ _ hS).set _ _ hS).set _ _ hS
end Go.Proofs.Ythomklpaafnjhaa
