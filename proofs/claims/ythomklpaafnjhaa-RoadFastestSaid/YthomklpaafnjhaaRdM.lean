/-
  Rows of integers that the call owns; the contract of follow. Condition: a network that Check passes, and a way.
-/
import Derived.Test.YthomklpaafnjhaaRdL
import Derived.Deep.RegionHeld3
namespace Go.Proofs.Ythomklpaafnjhaa
open Go.RowKit
set_option linter.unusedVariables false

def ic (n : Int) : Value := .int .i64 n
/-- A row of integers that the call owns. -/
def OwnI (w : World) (base : Nat) (v : Value) (l : List Int) : Prop := w.ownsRow base 3 1 v l.length (l.map ic)
theorem OwnI.nil (w : World) (base : Nat) : OwnI w base (.slice none 0 0) [] := World.ownsRow_nil _ _ _ _
theorem OwnI.keep {w w' : World} {base : Nat} {v : Value} {l : List Int} {S : Nat → Prop} (h : OwnI w base v l) (hb : Keep S w w') (hS : ∀ g, v.ownBlock = some g → ¬ S g) : OwnI w' base v l := by
  have hlt := World.ownsRow.lt h
  obtain ⟨h1, h2⟩ := h
  refine ⟨h1, ?_⟩
  rcases h2 with h2 | ⟨g, cap, cur, hv, hg, hh, r⟩
  · exact Or.inl h2
  · subst hv
    exact Or.inr ⟨g, cap, cur, rfl, hg, (hb.block g (hlt g rfl).2 (hS g rfl)).trans hh, r⟩
theorem OwnI.below {w w' : World} {base : Nat} {v : Value} {l : List Int} (h : OwnI w base v l) (hb : Below w.heap.size w w') : OwnI w' base v l := h.keep (Keep.ofBelow (S := fun _ => False) hb) (fun _ _ e => e)
theorem OwnI.ge {w : World} {base : Nat} {v : Value} {l : List Int} (h : OwnI w base v l) : ∀ k, v.ownBlock = some k → base ≤ k ∧ k < w.heap.size := fun k hk => World.ownsRow.lt h k hk
theorem OwnI.form {w : World} {base : Nat} {v : Value} {l : List Int} (h : OwnI w base v l) : ∃ A cap, v = .slice A l.length cap ∧ l.length ≤ cap ∧ IntR w A l ∧ ∀ a, A = some a → base ≤ a.block := by
  have h0 : w.ownsRow base 3 1 v l.length (l.map ic) := h
  have hlt := World.ownsRow.lt h
  obtain ⟨_, h⟩ := h
  rcases h with ⟨rfl, h2⟩ | ⟨g, cap, cur, rfl, hb, hg, hn, hm, hs, ht⟩
  · exact ⟨none, 0, by rw [h2], by omega, fun hh => by omega, fun a ha => by cases ha⟩
  · refine ⟨some ⟨g, 0, none⟩, cap, rfl, hn, fun _ => ⟨g, 0, rfl, (hlt g rfl).2, fun k hk => ?_⟩, fun a ha => by cases ha; exact hb⟩
    rw [Nat.zero_add, h0.cellAt k (by omega)]
    simp [hk, ic]
theorem info_int : (Try.prog.info? 3).map (fun i => (i.zero, i.size, i.bytes)) = some (some (.int .i64 0), 1, 8) := by kernel_rfl
theorem wpList_append_int {w : World} {ops : Array Oper} {rest : List Oper} {o : Oper} {a : Act} {Q : Exit → Act → World → Prop} (hgd : o.guard = none) (s x : Operand)
    (ho : o.op = .call { callee := .builtin .append, args := #[s, x], argTypes := #[27, 27] })
    (base : Nat) (v : Value) (l : List Int) (hs : a.eval s = v) (hown : OwnI w base v l) (blk c : Nat) (t : Int) (hx : a.eval x = .slice (some ⟨blk, 0, none⟩) 1 c) (h0 : w.cell? ⟨blk, 0, none⟩ = some (.int .i64 t))
    (hlen : l.length ≤ 100000) (hbase : base ≤ w.heap.size)
    (h : ∀ v' w', Hid (OwnI w' base v' (l ++ [t])) → Hid (w.grownBy w' v.ownBlock) → wpList Try.prog ops Q rest (a.put o.dst v') w') : wpList Try.prog ops Q (o :: rest) a w := by
  obtain ⟨ii, hii, hz0, hz1, hz2⟩ := info_parts info_int
  refine wpList_plain hgd fun K hK => ?_
  obtain ⟨v', w', hrun, h2, h3, _, _⟩ := run_append_own_at (P := Try.prog) w base 27 o.type 3 ii (.int .i64 0) 1 8 Try.underlying27 hii hz0 hz1 hz2 rfl (by decide) v l.length (l.map ic) hown ⟨blk, 0, none⟩ 1 c [ic t] rfl
    (fun j u hj => by
      rw [Addr.add_lit, Nat.zero_add]
      match j, hj with
      | 0, hj => simp at hj; subst hj; exact h0)
    (fun u hu => by simp at hu; subst hu; rfl) (by unfold maxLen; omega) (by omega) hbase
  unfold Oper.wp execOp
  simp only [ho, resolve, invoke, builtin, Sem.run_bind, Sem.run_pure, Result.andThen_ok, List.map_toArray, List.map_cons, List.map_nil, hs, hx, hrun]
  refine hK _ _ (h v' w' ?_ h3)
  show w'.ownsRow base 3 1 v' (l ++ [t]).length ((l ++ [t]).map ic)
  rw [List.map_append, List.length_append]
  exact h2
/-- make of no integers, with room for some. -/
theorem make_room (c : Nat) (hc : c ≤ 4096) (w : World) : (Instr.makeSlice 27 (.int .i64 0) (.int .i64 (c : Int))).run Try.prog w = .ok (.slice (some ⟨w.heap.size, 0, none⟩) 0 c) (w.alloc (.cells (madeCells #[.int .i64 0] c) 3)) := by
  obtain ⟨i, hi, hz0, hz1, hz2⟩ := info_parts info_int
  have h := run_make w 27 3 i (.int .i64 0) Try.underlying27 hi hz0 .i64 .i64 0 (c : Int) (by omega) (by omega) (by rw [hz2]; omega) (by omega)
  rw [hz1] at h
  have e : (Value.int .i64 0).cells = #[.int .i64 0] := rfl
  rw [e] at h
  simpa using h
theorem OwnI.room (w : World) (c : Nat) (hc : c ≤ 4096) : OwnI (w.alloc (.cells (madeCells #[.int .i64 0] c) 3)) w.heap.size (.slice (some ⟨w.heap.size, 0, none⟩) 0 c) [] :=
  ⟨rfl, Or.inr ⟨w.heap.size, c, _, rfl, Nat.le_refl _, heap_alloc_new w _, Nat.zero_le _, by unfold maxLen; omega, by rw [size_madeCells, Nat.mul_one], by simp⟩⟩
theorem find_take (xs : List Ed) (f : Ed → Bool) (j : Nat) (h : j < xs.length) (hn : (xs.take j).find? f = none) : (f (xs.getD j ed0) = true → xs.find? f = some (xs.getD j ed0)) ∧ (f (xs.getD j ed0) = false → (xs.take (j + 1)).find? f = none) := by
  have e : xs.take (j + 1) = xs.take j ++ [xs.getD j ed0] := by rw [List.take_succ_eq_append_getElem h]; simp [h]
  have e2 : xs = xs.take j ++ (xs.getD j ed0 :: xs.drop (j + 1)) := by
    rw [← drop_at h, List.take_append_drop]
  refine ⟨fun hf => ?_, fun hf => ?_⟩
  · rw [e2, List.find?_append, hn, List.find?_cons, ← e2, hf]; rfl
  · rw [e, List.find?_append, hn, List.find?_cons, hf]; rfl
end Go.Proofs.Ythomklpaafnjhaa
