/-
  Plain facts of the items that a list of keys makes, sorted; a row of bools in memory. No condition.
-/
import Derived.Test.YtkbfpkejogdieaaPqQ
import Derived.Laws.OwnMore
namespace Go.Proofs.Ytkbfpkejogdieaa
open Go.RowKit
set_option linter.unusedVariables false

theorem itF_ge (t : Int) (l : List Int) : ∀ e ∈ itF t l, t ≤ e.2 := by
  induction l generalizing t with
  | nil => intro e he; cases he
  | cons k l ih =>
    intro e he
    rcases List.mem_cons.1 he with rfl | he
    · exact Int.le_refl _
    · have := ih (t + 1) e he; omega
theorem itF_tags (t : Int) (l : List Int) : (itF t l).Pairwise (fun a b => a.2 < b.2) := by
  induction l generalizing t with
  | nil => exact List.Pairwise.nil
  | cons k l ih => exact List.pairwise_cons.2 ⟨fun e he => by have := itF_ge (t + 1) l e he; show t < e.2; omega, ih (t + 1)⟩
theorem itF_mem (l : List Int) : ∀ (t : Int) (e : It), e ∈ itF t l → ∃ i : Nat, i < l.length ∧ e = (l.getD i 0, t + (i : Int)) := by
  induction l with
  | nil => intro t e he; cases he
  | cons k l ih =>
    intro t e he
    rcases List.mem_cons.1 he with rfl | he
    · exact ⟨0, by simp, by simp⟩
    · obtain ⟨i, hi, rfl⟩ := ih (t + 1) e he
      refine ⟨i + 1, by simpa using hi, ?_⟩
      simp only [List.getD_cons_succ]
      rw [show t + 1 + (i : Int) = t + ((i + 1 : Nat) : Int) by omega]
/-- In the order up: by keys, then by tags. -/
def RR (a b : It) : Prop := a.1 < b.1 ∨ (a.1 = b.1 ∧ a.2 < b.2)
theorem kI_up (x : It) : kI false x = x.1 := rfl
theorem insR_pair (x : It) (V : List It) (h : V.Pairwise RR) (hx : ∀ v ∈ V, v.2 < x.2) : (insR (kI false) x V).Pairwise RR := by
  induction V with
  | nil => exact List.pairwise_singleton _ _
  | cons y V ih =>
    obtain ⟨h1, h2⟩ := List.pairwise_cons.1 h
    unfold insR
    rw [kI_up, kI_up]
    split
    · rename_i hc
      refine List.pairwise_cons.2 ⟨fun z hz => ?_, h⟩
      rcases List.mem_cons.1 hz with rfl | hz
      · exact Or.inl hc
      · have := h1 z hz
        unfold RR at *; omega
    · rename_i hc
      refine List.pairwise_cons.2 ⟨fun z hz => ?_, ih h2 (fun v hv => hx v (List.mem_cons_of_mem _ hv))⟩
      rcases List.mem_cons.1 ((insR_perm x V).mem_iff.1 hz) with rfl | hz
      · have := hx y List.mem_cons_self
        unfold RR; omega
      · exact h1 z hz
theorem foldl_pair (l : List It) : ∀ V : List It, V.Pairwise RR → l.Pairwise (fun a b => a.2 < b.2) → (∀ v ∈ V, ∀ x ∈ l, v.2 < x.2) → (l.foldl (fun V x => insR (kI false) x V) V).Pairwise RR := by
  induction l with
  | nil => intro V h _ _; exact h
  | cons x l ih =>
    intro V h hl hV
    obtain ⟨l1, l2⟩ := List.pairwise_cons.1 hl
    rw [List.foldl_cons]
    refine ih _ (insR_pair x V h (fun v hv => hV v hv x List.mem_cons_self)) l2 fun v hv y hy => ?_
    rcases List.mem_cons.1 ((insR_perm x V).mem_iff.1 hv) with rfl | hv
    · exact l1 y hy
    · exact hV v hv y (List.mem_cons_of_mem _ hy)
/-- What the values of a queue are that was filled with these keys. -/
structure Srt (ks : List Int) (V : List It) (n : Nat) : Prop where
  len : V.length = n
  all : ∀ i, i < n → ∃ t : Nat, t < n ∧ V.getD i (0, 0) = (ks.getD t 0, (t : Int))
  ord : ∀ i, 0 < i → i < n → RR (V.getD (i - 1) (0, 0)) (V.getD i (0, 0))
  dst : ∀ i j, j < i → i < n → (V.getD j (0, 0)).2 ≠ (V.getD i (0, 0)).2
theorem srt_of (ks : List Int) (n : Nat) (hn : ks.length = n) : Srt ks (stS (kI false) (itF 0 ks)) n := by
  have hp := stS_perm (k := kI false) (itF 0 ks)
  have hl : (stS (kI false) (itF 0 ks)).length = n := by rw [stS_length, itF_length, hn]
  have hs : (stS (kI false) (itF 0 ks)).Pairwise RR := foldl_pair _ [] List.Pairwise.nil (itF_tags 0 ks) (fun v hv => by cases hv)
  have hnd : ((stS (kI false) (itF 0 ks)).map Prod.snd).Nodup := by
    refine (List.Perm.nodup_iff (hp.map Prod.snd)).2 ?_
    unfold List.Nodup
    rw [List.pairwise_map]
    exact List.Pairwise.imp (fun h => by omega) (itF_tags 0 ks)
  generalize stS (kI false) (itF 0 ks) = V at hp hl hs hnd
  have hg : ∀ i, (hi : i < n) → V.getD i (0, 0) = V[i]'(by omega) := fun i hi => by simp [List.getD, hl, hi]
  refine ⟨hl, fun i hi => ?_, fun i h0 hi => ?_, fun i j hji hi => ?_⟩
  · obtain ⟨t, ht, e⟩ := itF_mem ks 0 (V.getD i (0, 0)) (hp.mem_iff.1 (by rw [hg i hi]; exact List.getElem_mem _))
    exact ⟨t, by omega, by rw [e]; simp⟩
  · rw [hg i hi, hg (i - 1) (by omega)]
    exact List.pairwise_iff_getElem.1 hs (i - 1) i (by omega) (by omega) (by omega)
  · rw [hg i hi, hg j (by omega)]
    have := List.pairwise_iff_getElem.1 hnd j i (by simp; omega) (by simp; omega) hji
    simpa using this
/-- Which tags are among the first i values. -/
def seenB (V : List It) (i t : Nat) : Bool := (V.take i).any (fun x => x.2 == (t : Int))
theorem seenB_zero (V : List It) (t : Nat) : seenB V 0 t = false := by simp [seenB]
theorem seenB_succ {ks : List Int} {V : List It} {n : Nat} (h : Srt ks V n) (i t s : Nat) (hi : i < n) (ht : (V.getD i (0, 0)).2 = (t : Int)) : seenB V (i + 1) s = if s = t then true else seenB V i s := by
  unfold seenB
  rw [List.take_succ_eq_append_getElem (by rw [h.len]; exact hi), List.any_append]
  have e : V[i]'(by rw [h.len]; exact hi) = V.getD i (0, 0) := by simp [List.getD, h.len, hi]
  rw [e]
  simp only [List.any_cons, List.any_nil, Bool.or_false]
  rw [ht]
  by_cases c : s = t
  · subst c; simp
  · rw [if_neg c]
    have : ((t : Int) == (s : Int)) = false := by simp; omega
    rw [this, Bool.or_false]
theorem seenB_new {ks : List Int} {V : List It} {n : Nat} (h : Srt ks V n) (i t : Nat) (hi : i < n) (ht : (V.getD i (0, 0)).2 = (t : Int)) : seenB V i t = false := by
  unfold seenB
  rw [List.any_eq_false]
  intro x hx
  obtain ⟨j, hj, rfl⟩ := List.getElem_of_mem hx
  rw [List.length_take] at hj
  have hd := h.dst i j (by omega) hi
  have e : (V.take i)[j]'(by rw [List.length_take]; exact hj) = V.getD j (0, 0) := by
    rw [List.getElem_take]; simp [List.getD, show j < V.length by omega]
  rw [e]
  simp only [beq_iff_eq]
  rw [ht] at hd
  exact hd

/-- A row of n bools in block g. -/
def BRow (w : World) (g n : Nat) (f : Nat → Bool) : Prop := ∃ cur : Array Value, w.heap[g]? = some (.cells cur 4 (0, 0)) ∧ ∀ j, j < n → cur[j]? = some (.bool (f j))
theorem BRow.lt {w : World} {g n : Nat} {f : Nat → Bool} (h : BRow w g n f) : g < w.heap.size := by
  obtain ⟨cur, h1, _⟩ := h
  exact (Array.getElem?_eq_some_iff.1 h1).1
theorem BRow.cell {w : World} {g n j : Nat} {f : Nat → Bool} (h : BRow w g n f) (hj : j < n) : w.cell? ⟨g, j, none⟩ = some (.bool (f j)) := by
  obtain ⟨cur, h1, h2⟩ := h
  exact (cell_of_row w g j cur _ _ h1).trans (h2 j hj)
theorem BRow.frozen {w : World} {g n : Nat} {f : Nat → Bool} (h : BRow w g n f) (j : Nat) : w.frozen? ⟨g, j, none⟩ = false := by
  obtain ⟨cur, h1, _⟩ := h
  simp [World.frozen?, h1]
theorem BRow.set {w : World} {g n t : Nat} {f f' : Nat → Bool} (h : BRow w g n f) (b : Bool) (ht : t < n) (hf : ∀ s, f' s = if s = t then b else f s) : BRow (w.setCell ⟨g, t, none⟩ (.bool b)) g n f' := by
  obtain ⟨cur, h1, h2⟩ := h
  refine ⟨_, set_row _ h1, fun j hj => ?_⟩
  have h3 := h2 j hj
  rw [hf]
  by_cases e : j = t
  · subst e
    have := (Array.getElem?_eq_some_iff.1 h3).1
    rw [if_pos rfl, Array.getElem?_setIfInBounds, if_pos rfl, if_pos this]
  · rw [if_neg e, Array.getElem?_setIfInBounds, if_neg (fun e2 => e e2.symm)]
    exact h3
theorem BRow.drewN {w : World} {g n : Nat} {f : Nat → Bool} (h : BRow w g n f) (q : Nat) : BRow (w.drewN q) g n f := h
theorem info_bool : (Try.prog.info? 4).map (fun i => (i.zero, i.size, i.bytes)) = some (some (.bool false), 1, 1) := by kernel_rfl
theorem make_bools (n : Nat) (hn : n ≤ 4096) (w : World) : (Instr.makeSlice 33 (.int .i64 (n : Int)) (.int .i64 (n : Int))).run Try.prog w = .ok (.slice (some ⟨w.heap.size, 0, none⟩) n n) (w.alloc (.cells (madeCells #[.bool false] n) 4)) := by
  obtain ⟨i, hi, hz0, hz1, hz2⟩ := info_parts info_bool
  have h := run_make w 33 4 i (.bool false) Try.underlying33 hi hz0 .i64 .i64 (n : Int) (n : Int) (by omega) (by omega) (by rw [hz2]; omega) (by omega)
  rw [hz1] at h
  have e : (Value.bool false).cells = #[.bool false] := rfl
  rw [e] at h
  simpa using h
theorem BRow.made (w : World) (n : Nat) (f : Nat → Bool) (hf : ∀ j, f j = false) : BRow (w.alloc (.cells (madeCells #[.bool false] n) 4)) w.heap.size n f := by
  refine ⟨_, heap_alloc_new w _, fun j hj => ?_⟩
  rw [hf, ← Array.getElem?_toList, toList_madeCells_one, List.getElem?_replicate, if_pos hj]
end Go.Proofs.Ytkbfpkejogdieaa
