/-
  Appending two windows, and whole lists of windows, to a row of the call's own. Condition: rows of at most 1000 windows.
-/
import Derived.Test.YtkiedopknoekpaaDoorClkP
namespace Go.Proofs.YtkiedopknoekpaaDoor
open Go.RowKit
set_option linter.unusedVariables false

theorem wpList_append_two {w : World} {ops : Array Oper} {rest : List Oper} {o : Oper} {a : Act} {Q : Exit → Act → World → Prop} (hgd : o.guard = none) (s x : Operand)
    (ho : o.op = .call { callee := .builtin .append, args := #[s, x], argTypes := #[30, 30] })
    (base : Nat) (v : Value) (out : List Win) (hs : a.eval s = v) (hown : OwnW w base v out) (blk c : Nat) (p q p' q' : Int) (hx : a.eval x = .slice (some ⟨blk, 0, none⟩) 2 c)
    (h0 : w.cell? ⟨blk, 0, none⟩ = some (.int .i64 p)) (h1 : w.cell? ⟨blk, 1, none⟩ = some (.int .i64 q)) (h2 : w.cell? ⟨blk, 2, none⟩ = some (.int .i64 p')) (h3 : w.cell? ⟨blk, 3, none⟩ = some (.int .i64 q'))
    (hlen : out.length ≤ 1000) (w0 : World) (hB : Below base w0 w) (hbase : base ≤ w.heap.size)
    (h : ∀ v' w', Hid (OwnW w' base v' (out ++ [(p, q), (p', q')])) → Below base w0 w' → wpList Tryd.prog ops Q rest (a.put o.dst v') w') : wpList Tryd.prog ops Q (o :: rest) a w := by
  obtain ⟨ii, hii, hz0, hz1, hz2⟩ := info_parts info_win
  refine wpList_append_own_at w hgd s x 30 ho base 23 ii (.agg #[.int .i64 0, .int .i64 0]) 2 16 Tryd.underlying30 hii hz0 hz1 hz2 rfl (by decide) v out.length (flatW out) hs hown ⟨blk, 0, none⟩ 2 c [.int .i64 p, .int .i64 q, .int .i64 p', .int .i64 q'] hx rfl
    (fun j u hj => ?_) (fun u hu => ?_) (by unfold maxLen; omega) (by omega) hbase (fun v' w' ho' hg _ _ => h v' w' ?_ (hB.grown hg hbase hown.ge))
  · match j, hj with
    | 0, hj => simp at hj; subst hj; exact h0
    | 1, hj => simp at hj; subst hj; exact h1
    | 2, hj => simp at hj; subst hj; exact h2
    | 3, hj => simp at hj; subst hj; exact h3
  · simp at hu
    rcases hu with rfl | rfl | rfl | rfl <;> rfl
  · show w'.ownsRow base 23 2 v' (out ++ [(p, q), (p', q')]).length (flatW (out ++ [(p, q), (p', q')]))
    rw [flatW_append, List.length_append]
    exact ho'

theorem run_append_wins (w : World) (base : Nat) (ty : TypeId) (v : Value) (out l : List Win) (hown : OwnW w base v out) (A : Option Addr) (c : Nat) (hA : WsR w A l)
    (hlen : out.length ≤ 1000) (hl : l.length ≤ 1000) (hbase : base ≤ w.heap.size) :
    ∃ v' w', (Builtin.append_ #[30, 30] ty #[v, .slice A l.length c]).run Tryd.prog w = .ok v' w' ∧ OwnW w' base v' (out ++ l) ∧ w.grownBy w' v.ownBlock := by
  obtain ⟨ii, hii, hz0, hz1, hz2⟩ := info_parts info_win
  by_cases h0 : l.length = 0
  · have : l = [] := List.eq_nil_of_length_eq_zero h0
    subst this
    have hr : (Builtin.append_ #[30, 30] ty #[v, .slice A 0 c]).run Tryd.prog w = .ok v w ∨ ∃ ad, A = some ad := by
      cases A with
      | some ad => exact Or.inr ⟨ad, rfl⟩
      | none =>
        refine Or.inl ?_
        rcases hown.2 with ⟨rfl, hx⟩ | ⟨g, cap, cur, rfl, _, _, hnc, _⟩
        · simp [Builtin.append_, run_underlying Tryd.underlying30, sizeOf, typeInfo, hii, Builtin.lenOf, Builtin.firstCells]
        · simp [Builtin.append_, run_underlying Tryd.underlying30, sizeOf, typeInfo, hii, Builtin.lenOf, Builtin.firstCells, hnc, storeCells]
    rcases hr with hr | ⟨ad, rfl⟩
    · exact ⟨v, w, hr, by rw [List.append_nil]; exact hown, World.grownBy.refl w _⟩
    · obtain ⟨v', w', hrun, g2, g3, _, _⟩ := run_append_own_at (P := Tryd.prog) w base 30 ty 23 ii (.agg #[.int .i64 0, .int .i64 0]) 2 16 Tryd.underlying30 hii hz0 hz1 hz2 rfl (by decide) v out.length (flatW out) hown ad 0 c [] rfl (fun j u hj => by simp at hj) (fun u hu => by cases hu) (by unfold maxLen; omega) (by omega) hbase
      refine ⟨v', w', hrun, ?_, g3⟩
      rw [List.append_nil] at g2 ⊢
      exact g2
  · obtain ⟨b, o, rfl, _, hcell⟩ := hA (by omega)
    obtain ⟨v', w', hrun, g2, g3, _, _⟩ := run_append_own_at (P := Tryd.prog) w base 30 ty 23 ii (.agg #[.int .i64 0, .int .i64 0]) 2 16 Tryd.underlying30 hii hz0 hz1 hz2 rfl (by decide) v out.length (flatW out) hown ⟨b, o, none⟩ l.length c (flatW l) (flatW_length l) (loads_of w b o l hcell) (flatW_one l) (by unfold maxLen; omega) (by omega) hbase
    refine ⟨v', w', hrun, ?_, g3⟩
    unfold OwnW
    rw [flatW_append, List.length_append]
    exact g2

theorem wpList_append_wins {w : World} {ops : Array Oper} {rest : List Oper} {o : Oper} {a : Act} {Q : Exit → Act → World → Prop} (hgd : o.guard = none) (s x : Operand)
    (ho : o.op = .call { callee := .builtin .append, args := #[s, x], argTypes := #[30, 30] })
    (base : Nat) (v : Value) (out l : List Win) (n : Nat) (hn : l.length = n) (hs : a.eval s = v) (hown : OwnW w base v out) (A : Option Addr) (c : Nat) (hx : a.eval x = .slice A n c) (hA : WsR w A l)
    (hlen : out.length ≤ 1000) (hl : l.length ≤ 1000) (w0 : World) (hB : Below base w0 w) (hbase : base ≤ w.heap.size)
    (h : ∀ v' w', Hid (OwnW w' base v' (out ++ l)) → Below base w0 w' → wpList Tryd.prog ops Q rest (a.put o.dst v') w') : wpList Tryd.prog ops Q (o :: rest) a w := by
  subst hn
  refine wpList_plain hgd fun K hK => ?_
  obtain ⟨v', w', hr, h2, h3⟩ := run_append_wins w base o.type v out l hown A c hA hlen hl hbase
  unfold Oper.wp execOp
  simp only [ho, resolve, invoke, builtin, Sem.run_bind, Sem.run_pure, Result.andThen_ok, List.map_toArray, List.map_cons, List.map_nil, hs, hx, hr]
  exact hK _ _ (h v' w' h2 (hB.grown h3 hbase hown.ge))
theorem OwnW.read {w : World} {v : Value} {l : List Win} {base : Nat} (h : OwnW w base v l) : ∃ A cap, v = .slice A l.length cap ∧ WsR w A l := by
  obtain ⟨A, cap, e, hr, _⟩ := h.ret (Below.refl w.heap.size w)
  injection e with e
  exact ⟨A, cap, e, hr⟩
theorem OwnW.lit (w : World) : OwnW (w.alloc (.cells #[] 23)) w.heap.size (.slice (some ⟨w.heap.size, 0, none⟩) 0 0) [] :=
  World.ownsRow_lit w #[] 0 (Nat.le_refl _) (by unfold maxLen; omega) rfl

/-- Each window twice, the last first. -/
def dupR (l : List Win) : List Win := l.reverse.flatMap fun x => [x, x]
theorem dupR_cons (x : Win) (l : List Win) : dupR (x :: l) = dupR l ++ [x, x] := by simp [dupR]
theorem dupR_mem (x : Win) (l : List Win) : x ∈ dupR l ↔ x ∈ l := by simp [dupR]
theorem dupR_len (l : List Win) : (dupR l).length = 2 * l.length := by
  induction l with
  | nil => rfl
  | cons x l ih => rw [dupR_cons, List.length_append, ih]; simp; omega
theorem dupR_all (l : List Win) (h : allB l = true) : allB (dupR l) = true := List.all_eq_true.2 fun x hx => allB_mem h x ((dupR_mem x l).1 hx)
theorem dupR_nf (l : List Win) (h : allB l = true) : nf (dupR l) = nf l := nf_eq (dupR_all l h) (nf_nf h).1 fun t => ((nf_nf h).2 t).trans (hasB_mem (fun x => (dupR_mem x l).symm) t)
end Go.Proofs.YtkiedopknoekpaaDoor
