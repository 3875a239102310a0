/-
  Sorting windows with Go's sort, copying them, appending to a row of them. Condition: lists of at most 1000 windows.
-/
import Derived.Test.YtkiedopknoekpaaDoorClkC
import Derived.Test.YtkiedopknoekpaaDoorShelf
namespace Go.Proofs.YtkiedopknoekpaaDoor
open Go.RowKit Go.Sort
set_option linter.unusedVariables false

/-- A window's two cells. -/
def encW (x : Win) : List Value := [.int .i64 x.1, .int .i64 x.2]
def flatW : List Win → List Value
  | [] => []
  | x :: l => .int .i64 x.1 :: .int .i64 x.2 :: flatW l
theorem flatW_length (l : List Win) : (flatW l).length = l.length * 2 := by
  induction l with
  | nil => rfl
  | cons x l ih => simp only [flatW, List.length_cons, ih]; omega
theorem flatW_append (l m : List Win) : flatW (l ++ m) = flatW l ++ flatW m := by
  induction l with
  | nil => rfl
  | cons x l ih => simp only [List.cons_append, flatW, ih]
theorem flatW_get (l : List Win) (k : Nat) (hk : k < l.length) : (flatW l)[k * 2]? = some (.int .i64 (l.getD k (0, 0)).1) ∧ (flatW l)[k * 2 + 1]? = some (.int .i64 (l.getD k (0, 0)).2) := by
  induction l generalizing k with
  | nil => exact absurd hk (Nat.not_lt_zero k)
  | cons x l ih =>
    cases k with
    | zero => exact ⟨rfl, rfl⟩
    | succ k =>
      have := ih k (by simpa using hk)
      rw [show (k + 1) * 2 = k * 2 + 1 + 1 by omega]
      simpa [flatW] using this
theorem flatW_at (l : List Win) (t : Nat) (ht : t < l.length * 2) : (flatW l)[t]? = some (encW l.toArray[t / 2]!)[t % 2]! := by
  have h1 : t / 2 < l.length := by omega
  obtain ⟨g0, g1⟩ := flatW_get l (t / 2) h1
  have e : l.toArray[t / 2]! = l.getD (t / 2) (0, 0) := by
    rw [getElem!_pos _ _ (by simpa using h1)]
    simp [h1]
  rw [e]
  rcases Nat.mod_two_eq_zero_or_one t with c | c
  · rw [c, show t = t / 2 * 2 by omega, Nat.mul_div_cancel _ (by decide : 0 < 2), g0]; rfl
  · rw [c, show t = t / 2 * 2 + 1 by omega]
    have : (t / 2 * 2 + 1) / 2 = t / 2 := by omega
    rw [this, g1]; rfl
theorem flatW_one (l : List Win) : ∀ v ∈ flatW l, v.oneCell' = true := by
  induction l with
  | nil => intro v hv; cases hv
  | cons x l ih =>
    intro v hv
    rcases List.mem_cons.1 hv with rfl | hv
    · rfl
    · rcases List.mem_cons.1 hv with rfl | hv
      · rfl
      · exact ih v hv

theorem loads_of (w : World) (b o : Nat) (l : List Win) (hc : ∀ k, k < l.length → w.cell? ⟨b, o + k * 2, none⟩ = some (.int .i64 (l.getD k (0, 0)).1) ∧ w.cell? ⟨b, o + k * 2 + 1, none⟩ = some (.int .i64 (l.getD k (0, 0)).2)) :
    ∀ j v, (flatW l)[j]? = some v → w.cell? ((⟨b, o, none⟩ : Addr).add j) = some v := fun j v hj => by
  have hadd : (⟨b, o, none⟩ : Addr).add j = ⟨b, o + j, none⟩ := by unfold Addr.add; split <;> simp_all
  have hlt : j < l.length * 2 := by
    rcases Nat.lt_or_ge j (flatW l).length with h | h
    · rwa [flatW_length] at h
    · rw [List.getElem?_eq_none h] at hj; cases hj
  obtain ⟨c0, c1⟩ := hc (j / 2) (by omega)
  obtain ⟨g0, g1⟩ := flatW_get l (j / 2) (by omega)
  rw [hadd]
  rcases Nat.mod_two_eq_zero_or_one j with c | c
  · rw [show j = j / 2 * 2 by omega, g0] at hj
    rw [show j = j / 2 * 2 by omega, c0]; exact hj
  · rw [show j = j / 2 * 2 + 1 by omega, g1] at hj
    rw [show o + j = o + j / 2 * 2 + 1 by omega, c1]; exact hj

/-- copy of l.length windows into a row of so many. -/
theorem run_copy_wins (w : World) (dT sT ty elem : TypeId) (g n cap cap' : Nat) (A : Option Addr) (l : List Win)
    (hu : Tryd.prog.underlying dT = some (.slice elem)) (hs : (Tryd.prog.info? elem).map (·.size) = some 2) (hl : l.length = n) (hA : WsR w A l)
    (hc : ∀ j, j < n * 2 → (w.cell? ⟨g, j, none⟩).isSome = true) (hf : ∀ j, j < n * 2 → w.frozen? ⟨g, j, none⟩ = false) :
    (Builtin.copy_ #[dT, sT] ty #[.slice (some ⟨g, 0, none⟩) n cap, .slice A n cap']).run Tryd.prog w = .ok (goInt n) (w.setCells g 0 (flatW l)) := by
  subst hl
  cases hq : Tryd.prog.info? elem with
  | none => simp [hq] at hs
  | some i =>
    have hi : i.size = 2 := by simpa [hq] using hs
    by_cases h0 : l.length = 0
    · have : l = [] := List.eq_nil_of_length_eq_zero h0
      subst this
      have hld : ∀ (x : Addr), (loadCells x 0).run Tryd.prog w = .ok #[] w := fun x => by simpa using run_loadCells_list (P := Tryd.prog) w x [] (by simp)
      cases A <;> simp [Builtin.copy_, run_underlying hu, Builtin.lenOf, Builtin.firstCells, sizeOf, typeInfo, hq, storeCells, hld, flatW, World.setCells]
    · obtain ⟨b, o, rfl, _, hcell⟩ := hA (by omega)
      have hld := run_loadCells_list (P := Tryd.prog) w ⟨b, o, none⟩ (flatW l) (loads_of w b o l hcell)
      have hst := run_storeCells_cells (P := Tryd.prog) g 0 (flatW l) 0 w (by rw [flatW_length]; simpa using hc) (by rw [flatW_length]; simpa using hf) (flatW_one l)
      rw [flatW_length] at hld
      simp [Builtin.copy_, run_underlying hu, Builtin.lenOf, Builtin.firstCells, sizeOf, typeInfo, hq, hi, hld, hst]

theorem below_setCells {B g : Nat} (hg : B ≤ g) : ∀ (vs : List Value) (o : Nat) (w : World), Below B w (w.setCells g o vs)
  | [], o, w => Below.refl _ _
  | v :: r, o, w => by
    rw [World.setCells]
    exact ((Below.refl B w).setCell (p := ⟨g, o, none⟩) hg v).trans (below_setCells hg r (o + 1) _)

theorem wpList_copy_wins {w : World} {ops : Array Oper} {rest : List Oper} {o : Oper} {a : Act} {Q : Exit → Act → World → Prop} (hgd : o.guard = none) (d s : Operand) (dT sT : TypeId)
    (ho : o.op = .call { callee := .builtin .copy, args := #[d, s], argTypes := #[dT, sT] }) (elem : TypeId) (hu : Tryd.prog.underlying dT = some (.slice elem)) (hsz : (Tryd.prog.info? elem).map (·.size) = some 2)
    (g n cap cap' : Nat) (A : Option Addr) (hd : a.eval d = .slice (some ⟨g, 0, none⟩) n cap) (hs : a.eval s = .slice A n cap') (l : List Win) (hl : l.length = n) (hA : WsR w A l)
    (hc : ∀ j, j < n * 2 → (w.cell? ⟨g, j, none⟩).isSome = true) (hf : ∀ j, j < n * 2 → w.frozen? ⟨g, j, none⟩ = false) (hgl : g < w.heap.size)
    (B : Nat) (w0 : World) (hb : Below B w0 w) (hBg : B ≤ g)
    (h : ∀ w', Hid (HoldsK encW 2 w' g 0 l.toArray) → Below B w0 w' → g < w'.heap.size → wpList Tryd.prog ops Q rest (a.put o.dst (goInt n)) w') : wpList Tryd.prog ops Q (o :: rest) a w := by
  refine wpList_plain hgd fun K hK => ?_
  have hrun := run_copy_wins w dT sT o.type elem g n cap cap' A l hu hsz hl hA hc hf
  unfold Oper.wp
  simp [execOp, ho, resolve, invoke, builtin, hd, hs, hrun, Result.andThen]
  refine hK _ _ (h _ (fun t ht => ?_) (hb.trans (below_setCells hBg _ _ _)) (by rw [size_setCells]; exact hgl))
  rw [size_flatK] at ht
  have htl : t < l.length * 2 := by simpa using ht
  have hin := World.cell?_setCells_in g (flatW l) 0 w (fun j hj => by rw [flatW_length, hl] at hj; simpa using hc j hj) t (by rw [flatW_length]; exact htl)
  refine ⟨?_, by rw [World.frozen?_setCells]; simpa using hf t (by rw [← hl]; exact htl)⟩
  rw [hin, get_flatK _ _ _ _ ht]
  have := flatW_at l t htl
  rw [List.getElem?_eq_getElem (by rw [flatW_length]; exact htl)] at this
  exact this

set_option maxHeartbeats 1000000 in
/-- The function handed to the sort. -/
theorem closure_any (x y : Win) (W : World) : Calls Tryd.prog 51 #[.agg #[.int .i64 x.1, .int .i64 x.2], .agg #[.int .i64 y.1, .int .i64 y.2]] W fun e w' => e = .returned (.int .i64 (lo x y)) ∧ ∃ q os', w' = grow (W.drewN q) os' := by
  have hcon := fun W' => Tryd.cmp_Compare_int x.1 y.1 W'
  have e : Lib.compareInt x.1 y.1 = lo x y := rfl
  rw [e] at hcon
  generalize lo x y = r at hcon ⊢
  clear e
  go_enter Tryd.func51, Tryd.ntmps51
  go_wp2_with (go_at_call 52; refine (hcon _).mono ?_; rintro e w' ⟨rfl, rfl⟩)
  go_ret
  exact ⟨rfl, 0, _, by rw [alloc_eq_grow, alloc_eq_grow, grow_grow]; rfl⟩

theorem below_sorted (w : World) (blk n : Nat) (d : Array Win) (os : Array Obj) (B : Nat) (hB : B ≤ blk) (hs : B ≤ w.heap.size) : Below B w (sortWorldK encW 2 w blk 0 n d os) := by
  unfold sortWorldK putRowK putRow mapBlock Sort.ahead grow
  refine ⟨rfl, rfl, rfl, by simp, fun k hk => ?_⟩
  show ((w.heap.modify blk _) ++ os)[k]? = w.heap[k]?
  rw [Array.getElem?_append_left (by simpa using Nat.lt_of_lt_of_le hk hs), Array.getElem?_modify, if_neg (by omega)]

/-- A row of windows in a block of the call's own: what is known of it. -/
def RowW (w : World) (blk : Nat) (l : List Win) : Prop := ∀ k, k < l.length → (w.cell? ⟨blk, k * 2, none⟩ = some (.int .i64 (l.getD k (0, 0)).1) ∧ w.cell? ⟨blk, k * 2 + 1, none⟩ = some (.int .i64 (l.getD k (0, 0)).2))
theorem RowW.below {w w' : World} {blk B : Nat} {l : List Win} (h : RowW w blk l) (hb : Below B w w') (hB : blk < B) : RowW w' blk l := fun k hk => by
  rw [hb.cell (p := ⟨blk, k * 2, none⟩) hB, hb.cell (p := ⟨blk, k * 2 + 1, none⟩) hB]
  exact h k hk

theorem isAggW (w : World) : (isAgg (Tryd.sortW_ren.t 24)).run Tryd.prog w = .ok true w := Tryd.isAgg23 w
theorem sizeOfW (w : World) : (Go.sizeOf (Tryd.sortW_ren.t 24)).run Tryd.prog w = .ok 2 w := Tryd.sizeOf23 w

theorem sortedRow {w w' : World} {g : Nat} {d : Array Win} (h : HoldsK encW 2 w g 0 d) : RowW w g d.toList := fun k hk => by
  have hk' : k < d.size := by simpa using hk
  obtain ⟨a0, _⟩ := HoldsK.cell h hk' (c := 0) (by decide)
  obtain ⟨a1, _⟩ := HoldsK.cell h hk' (c := 1) (by decide)
  have e : d[k]! = d.toList.getD k (0, 0) := by rw [getElem!_pos d k hk']; simp [hk']
  rw [e] at a0 a1
  rw [Nat.zero_add, Nat.add_zero] at a0
  rw [Nat.zero_add] at a1
  exact ⟨a0, a1⟩

/-- Go's sort over a row of windows: the same windows, sorted by From. -/
theorem sort_any (g cap : Nat) (l : List Win) (w : World) (hl : l.length ≤ 1000) (hH : HoldsK encW 2 w g 0 l.toArray) (hg : g < w.heap.size) (B : Nat) (hB : B ≤ g) :
    Calls Tryd.prog 50 #[.slice (some ⟨g, 0, none⟩) l.length cap, .func (.func 51) #[] #[]] w fun e w' =>
      e = .returned (.tuple #[]) ∧ ∃ s : List Win, s.length = l.length ∧ Asc s ∧ (∀ x, x ∈ s ↔ x ∈ l) ∧ RowW w' g s ∧ Below B w w' := by
  have eg : ∀ args w, (callFunc 51 args).run Tryd.prog w = .ok (.enter 51 args) w := enters_of Tryd.func51 (by kernel_rfl) rfl
  have hcon := AnyQ.slices_SortFunc Tryd.sortW 2 isAggW sizeOfW encW (fun _ => rfl) (fun x v hv => by simp [encW] at hv; rcases hv with rfl | rfl <;> rfl) lo swoLo 51 #[] g 0 cap l.toArray w eg
    (fun _ _ _ _ x y => closure_any x y _) hH hg (by simp; omega)
  rw [List.size_toArray] at hcon
  refine hcon.mono fun e w' ⟨he, d', n, os, hp, hs, hw⟩ => ⟨he, d'.toList, ?_⟩
  have hz : l.length = l.toArray.size := by simp
  rw [hz] at hp hs
  obtain ⟨h1, h2, h3⟩ := sorted_asc l.toArray d' hp hs
  refine ⟨by simpa using h1, h2, by simpa using h3, ?_, ?_⟩
  · rw [hw]
    exact sortedRow (w' := w) (holdsK_sortWorldK_c encW 2 w g 0 l.toArray d' n os hH hg h1)
  · rw [hw]
    exact below_sorted w g n d' os B hB (by omega)
end Go.Proofs.YtkiedopknoekpaaDoor
