/-
  Turned edges; the contracts of Clone and of entrances. Condition: a network that Check passes.
-/
import Derived.Test.YthomklpaafnjhaaRdI
namespace Go.Proofs.Ythomklpaafnjhaa
open Go.RowKit
set_option linter.unusedVariables false

/-- An edge driven backwards. -/
def trn (e : Ed) : Ed := ⟨e.t, e.f, e.s⟩
def trnL (l : List Ed) : List Ed := l.map trn
theorem trnL_length (l : List Ed) : (trnL l).length = l.length := by unfold trnL; simp
theorem trnL_get (l : List Ed) (k : Nat) (h : k < l.length) : (trnL l).getD k ed0 = trn (l.getD k ed0) := by unfold trnL; simp [h]
theorem OkL.trn {N : Nat} {l : List Ed} (h : OkL N l) : OkL N (trnL l) := fun i hi => by
  rw [trnL_length] at hi
  rw [trnL_get l i hi]
  obtain ⟨h1, h2, h3, h4, h5⟩ := h i hi
  exact ⟨h3, h4, h1, h2, h5⟩
theorem arcs_trn (l : List Ed) : arcs (trnL l) = rev (arcs l) := by
  unfold arcs trnL rev
  rw [List.map_map, List.map_map]
  rfl
theorem rev_rev (G : List Arc) : rev (rev G) = G := by
  unfold rev
  rw [List.map_map]
  exact List.map_id _
/-- The first k edges are turned. -/
def trnK (l : List Ed) (k : Nat) : List Ed := (trnL l).take k ++ l.drop k
theorem trnK_zero (l : List Ed) : trnK l 0 = l := by unfold trnK; simp
theorem trnK_all (l : List Ed) : trnK l l.length = trnL l := by
  unfold trnK
  rw [List.take_of_length_le (by rw [trnL_length]; exact Nat.le_refl _), List.drop_of_length_le (Nat.le_refl _), List.append_nil]
theorem trnK_length (l : List Ed) (k : Nat) (h : k ≤ l.length) : (trnK l k).length = l.length := by
  unfold trnK
  rw [List.length_append, List.length_take, List.length_drop, trnL_length]
  omega
theorem trnK_get (l : List Ed) (k j : Nat) (hk : k ≤ l.length) (h : j < l.length) : (trnK l k).getD j ed0 = if j < k then trn (l.getD j ed0) else l.getD j ed0 := by
  unfold trnK
  rw [List.getD_eq_getElem?_getD]
  by_cases e : j < k
  · rw [if_pos e, List.getElem?_append_left (by rw [List.length_take, trnL_length]; omega), List.getElem?_take_of_lt e, ← List.getD_eq_getElem?_getD, trnL_get l j h]
  · rw [if_neg e, List.getElem?_append_right (by rw [List.length_take, trnL_length]; omega), List.length_take, trnL_length, List.getElem?_drop, ← List.getD_eq_getElem?_getD]
    congr 1
    omega
theorem OwnA.empty {e : TypeId} {w : World} {base g : Nat} (hb : base ≤ g) (h : w.heap[g]? = some (.cells #[] e (0, 0))) : OwnA e w base (.slice (some ⟨g, 0, none⟩) 0 0) [] :=
  ⟨rfl, Or.inr ⟨g, 0, #[], rfl, hb, h, Nat.le_refl _, by unfold maxLen; omega, rfl, rfl⟩⟩
theorem slice_nil_eq (a : Addr) (n c : Nat) (w : World) : (binOp .eql 22 (.slice (some a) n c) (.slice none 0 0)).run Try.prog w = .ok (.bool false) w := by kernel_rfl
theorem slice_nil_eq0 (n c : Nat) (w : World) : (binOp .eql 22 (.slice none n c) (.slice none 0 0)).run Try.prog w = .ok (.bool true) w := by kernel_rfl

set_option maxRecDepth 100000 in
theorem clone_any (A : Option Addr) (m c : Nat) (l : List Ed) (w : World) (hm : l.length = m) (hm6 : m ≤ 600) (hA : EdR w A l) :
    Calls Try.prog 40 #[.slice A m c] w fun e w' => ∃ B d, e = .returned (.slice B m d) ∧ OwnA 43 w' w.heap.size (.slice B m d) l ∧ Below w.heap.size w w' := by
  have HM := Lib.hid hm
  have HA := Lib.hid hA
  clear hm hA
  cases A with
  | none =>
    have hl : l = [] := by
      cases l with
      | nil => rfl
      | cons x l => obtain ⟨b, o, h, _⟩ := HA.out (by simp); cases h
    have hm0 : m = 0 := by rw [← HM.out, hl]; rfl
    subst hm0
    have hq := slice_nil_eq0 0 c
    go_enter Try.func40, Try.ntmps40
    go_wp2_with fail
    go_ret
    exact ⟨none, 0, rfl, by rw [hl]; exact OwnA.nil _ _ _, Below.refl _ _⟩
  | some a =>
    have hq := slice_nil_eq a m c
    go_enter Try.func40, Try.ntmps40
    go_wp2_with (at_builtin; refine wpList_append_eds triE rfl _ _ rfl w.heap.size _ [] l m HM.out rfl (OwnA.empty (Nat.le_refl _) (heap_alloc_new w _)) (some a) c rfl (HA.out.below (below_alloc _ _)) (by simp) (by omega) (by simp) ?_)
    intro v4 w4 hO4 hg4 hat4
    obtain ⟨B, d, hv, hd, _⟩ := hO4.out.form
    rw [HM.out] at hv
    subst hv
    have HO4 : Hid (OwnA 43 w4 w.heap.size (.slice B m d) l) := hO4
    have HB4 : Hid (Below w.heap.size w w4) := Lib.hid ((below_alloc w (.cells #[] 43)).grown hg4.out (by simp) (fun k e => by
      simp [Value.ownBlock] at e
      omega))
    clear hO4 hg4 hat4
    go_wp2_with fail
    go_ret
    exact ⟨B, d, rfl, HO4.out, HB4.out⟩

/-- Block g holds the triples l; there may be room behind. -/
def TrB (w : World) (g : Nat) (l : List Ed) : Prop := ∃ cur : Array Value, w.heap[g]? = some (.cells cur 43 (0, 0)) ∧ l.length * 3 ≤ cur.size ∧
  ∀ k, k < l.length → cur[k * 3]? = some (.int .i64 (l.getD k ed0).f) ∧ cur[k * 3 + 1]? = some (.int .i64 (l.getD k ed0).t) ∧ cur[k * 3 + 2]? = some (.int .i64 (l.getD k ed0).s)
theorem TrB.lt {w : World} {g : Nat} {l : List Ed} (h : TrB w g l) : g < w.heap.size := by
  obtain ⟨cur, h1, _⟩ := h
  exact (Array.getElem?_eq_some_iff.1 h1).1
theorem TrB.cell {w : World} {g k : Nat} {l : List Ed} (h : TrB w g l) (hk : k < l.length) : w.cell? ⟨g, k * 3, none⟩ = some (.int .i64 (l.getD k ed0).f) ∧ w.cell? ⟨g, k * 3 + 1, none⟩ = some (.int .i64 (l.getD k ed0).t) ∧ w.cell? ⟨g, k * 3 + 2, none⟩ = some (.int .i64 (l.getD k ed0).s) := by
  obtain ⟨cur, h1, _, h2⟩ := h
  obtain ⟨a0, a1, a2⟩ := h2 k hk
  exact ⟨(cell_of_row w g _ cur _ _ h1).trans a0, (cell_of_row w g _ cur _ _ h1).trans a1, (cell_of_row w g _ cur _ _ h1).trans a2⟩
theorem TrB.frozen {w : World} {g : Nat} {l : List Ed} (h : TrB w g l) (j : Nat) : w.frozen? ⟨g, j, none⟩ = false := by
  obtain ⟨cur, h1, _⟩ := h
  simp [World.frozen?, h1]
theorem TrB.keep {w w' : World} {g : Nat} {l : List Ed} {S : Nat → Prop} (h : TrB w g l) (hk : Keep S w w') (hS : ¬ S g) : TrB w' g l := by
  have hlt := h.lt
  obtain ⟨cur, h1, h2⟩ := h
  exact ⟨cur, (hk.block g hlt hS).trans h1, h2⟩
theorem TrB.below {w w' : World} {g : Nat} {l : List Ed} (h : TrB w g l) (hb : Below w.heap.size w w') : TrB w' g l := h.keep (Keep.ofBelow (S := fun _ => False) hb) (fun e => e)
theorem TrB.read {w : World} {g : Nat} {l : List Ed} (h : TrB w g l) : EdR w (some ⟨g, 0, none⟩) l := fun _ => ⟨g, 0, rfl, h.lt, fun k hk => by rw [Nat.zero_add]; exact h.cell hk⟩
theorem TrB.turn {w : World} {g k : Nat} {l : List Ed} (h : TrB w g (trnK l k)) (hk : k < l.length) : TrB ((w.setCell ⟨g, k * 3, none⟩ (.int .i64 (l.getD k ed0).t)).setCell ⟨g, k * 3 + 1, none⟩ (.int .i64 (l.getD k ed0).f)) g (trnK l (k + 1)) := by
  have hl := trnK_length l k (by omega)
  have hl1 := trnK_length l (k + 1) (by omega)
  obtain ⟨cur, h1, h2, h3⟩ := h
  refine ⟨_, set_row _ (set_row _ h1), by rw [hl1]; simpa [hl] using h2, fun j hj => ?_⟩
  rw [hl1] at hj
  obtain ⟨a0, a1, a2⟩ := h3 j (by omega)
  rw [trnK_get l k j (by omega) hj] at a0 a1 a2
  rw [trnK_get l (k + 1) j (by omega) hj]
  by_cases e : j = k
  · subst e
    rw [if_neg (by omega)] at a2
    rw [if_pos (by omega)]
    refine ⟨?_, ?_, ?_⟩
    · rw [Array.getElem?_setIfInBounds, if_neg (by omega), Array.getElem?_setIfInBounds, if_pos rfl, if_pos (by omega)]; rfl
    · rw [Array.getElem?_setIfInBounds, if_pos rfl, if_pos (by simp; omega)]; rfl
    · rw [Array.getElem?_setIfInBounds, if_neg (by omega), Array.getElem?_setIfInBounds, if_neg (by omega), a2]; rfl
  · have e2 : (if j < k + 1 then trn (l.getD j ed0) else l.getD j ed0) = (if j < k then trn (l.getD j ed0) else l.getD j ed0) := by
      by_cases e3 : j < k
      · rw [if_pos e3, if_pos (by omega)]
      · rw [if_neg e3, if_neg (by omega)]
    rw [e2]
    refine ⟨?_, ?_, ?_⟩
    · rw [Array.getElem?_setIfInBounds, if_neg (by omega), Array.getElem?_setIfInBounds, if_neg (by omega), a0]
    · rw [Array.getElem?_setIfInBounds, if_neg (by omega), Array.getElem?_setIfInBounds, if_neg (by omega), a1]
    · rw [Array.getElem?_setIfInBounds, if_neg (by omega), Array.getElem?_setIfInBounds, if_neg (by omega), a2]
theorem OwnA.block {w : World} {base m : Nat} {B : Option Addr} {d : Nat} {l : List Ed} (h : OwnA 43 w base (.slice B m d) l) (hl : l.length = m) (h0 : 0 < m) : ∃ g, B = some ⟨g, 0, none⟩ ∧ base ≤ g ∧ TrB w g l := by
  have hx : w.ownsRow base 43 3 (.slice B m d) l.length (flatE l) := h
  obtain ⟨_, h2⟩ := h
  rcases h2 with ⟨_, h2⟩ | ⟨g, cap, cur, hv, hb, hg, hn, hm, hs, ht⟩
  · omega
  · injection hv with hB _ _
    refine ⟨g, hB, hb, cur, hg, by omega, fun k hk => ?_⟩
    obtain ⟨g0, g1, g2⟩ := flatE_get l k hk
    have key : ∀ t, t < l.length * 3 → cur[t]? = (flatE l)[t]? := fun t ht2 => by
      rw [← ht, List.getElem?_take_of_lt ht2, Array.getElem?_toList]
    rw [key _ (by omega), key _ (by omega), key _ (by omega)]
    exact ⟨g0, g1, g2⟩
end Go.Proofs.Ythomklpaafnjhaa
