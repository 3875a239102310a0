/-
  A queue of ways in memory; append onto its heap; the contracts of New and Len. Condition: as each says.
-/
import Derived.Test.YthomklpaafnjhaaReE
import Derived.Deep.RegionLaw
namespace Go.Proofs.Ythomklpaafnjhaa
open Go.RowKit
set_option linter.unusedVariables false

theorem info_ent : (Try.prog.info? 84).map (fun i => (i.zero, i.size, i.bytes)) = some (some (.agg #[.int .i64 0, .int .i64 0, .int .i64 0, .int .i64 0]), 4, 32) := by kernel_rfl

/-- The heap of a queue: nothing yet, or a block. -/
def HpV (w : World) (v : Value) (n : Nat) (h : Nat → It × Nat) : Prop := (v = .slice none 0 0 ∧ n = 0) ∨ ∃ g cap, v = .slice (some ⟨g, 0, none⟩) n cap ∧ HpR w g n cap h
theorem HpV.keep {w w' : World} {v : Value} {n : Nat} {h : Nat → It × Nat} {S : Nat → Prop} (H : HpV w v n h) (hk : Keep S w w') (hS : ∀ g, v.ownBlock = some g → ¬ S g) : HpV w' v n h := by
  rcases H with H | ⟨g, cap, rfl, H⟩
  · exact Or.inl H
  · exact Or.inr ⟨g, cap, rfl, H.keep hk (hS g rfl)⟩
theorem HpV.lt {w : World} {v : Value} {n : Nat} {h : Nat → It × Nat} (H : HpV w v n h) : ∀ g, v.ownBlock = some g → g < w.heap.size := fun g e => by
  rcases H with ⟨rfl, _⟩ | ⟨g', cap, rfl, H⟩
  · cases e
  · simp [Value.ownBlock] at e; subst e; exact H.lt
theorem HpV.form {w : World} {v : Value} {n : Nat} {h : Nat → It × Nat} (H : HpV w v n h) : ∃ A cap, v = .slice A n cap := by
  rcases H with ⟨rfl, rfl⟩ | ⟨g', cap, rfl, H⟩
  · exact ⟨none, 0, rfl⟩
  · exact ⟨_, cap, rfl⟩
/-- h with x behind the first n. -/
def putN (h : Nat → It × Nat) (n : Nat) (x : It × Nat) : Nat → It × Nat := fun t => if t = n then x else h t
theorem run_append_ent (w : World) (ty : TypeId) (v : Value) (n : Nat) (h : Nat → It × Nat) (H : HpV w v n h) (x : It × Nat) (blk c : Nat)
    (h0 : w.cell? ⟨blk, 0, none⟩ = some (.int .i64 x.1.1)) (h1 : w.cell? ⟨blk, 1, none⟩ = some (.int .i64 (xS x.1.2))) (h2 : w.cell? ⟨blk, 2, none⟩ = some (.int .i64 (xE x.1.2))) (h3 : w.cell? ⟨blk, 3, none⟩ = some (.int .i64 (x.2 : Int))) (hn : n ≤ 1000000) :
    ∃ g cap w', (Builtin.append_ #[80, 80] ty #[v, .slice (some ⟨blk, 0, none⟩) 1 c]).run Try.prog w = .ok (.slice (some ⟨g, 0, none⟩) (n + 1) cap) w' ∧
      HpR w' g (n + 1) cap (putN h n x) ∧ w.grownBy w' v.ownBlock ∧ (v.ownBlock = some g ∨ g = w.heap.size) := by
  obtain ⟨ii, hii, hz0, hz1, hz2⟩ := info_parts info_ent
  have hown : ∃ xs : List Value, w.ownsRow 0 84 4 v n xs ∧ xs.length = n * 4 ∧ ∀ j, j < n → xs[j * 4]? = some (.int .i64 (h j).1.1) ∧ xs[j * 4 + 1]? = some (.int .i64 (xS (h j).1.2)) ∧ xs[j * 4 + 2]? = some (.int .i64 (xE (h j).1.2)) ∧ xs[j * 4 + 3]? = some (.int .i64 ((h j).2 : Int)) := by
    rcases H with ⟨rfl, rfl⟩ | ⟨g, cap, rfl, hc, hm, cur, e1, e2, e3⟩
    · exact ⟨[], World.ownsRow_nil _ _ _ _, rfl, fun j hj => absurd hj (Nat.not_lt_zero j)⟩
    · have hl : (cur.toList.take (n * 4)).length = n * 4 := by
        rw [List.length_take, Array.length_toList, e2]
        omega
      refine ⟨cur.toList.take (n * 4), ⟨hl, Or.inr ⟨g, cap, cur, rfl, Nat.zero_le _, e1, hc, hm, e2, rfl⟩⟩, hl, fun j hj => ?_⟩
      obtain ⟨a0, a1, a2, a3⟩ := e3 j hj
      rw [List.getElem?_take_of_lt (by omega), List.getElem?_take_of_lt (by omega), List.getElem?_take_of_lt (by omega), List.getElem?_take_of_lt (by omega), Array.getElem?_toList, Array.getElem?_toList, Array.getElem?_toList, Array.getElem?_toList]
      exact ⟨a0, a1, a2, a3⟩
  obtain ⟨xs, hown, hxl, hxs⟩ := hown
  obtain ⟨v', w', hr, g2, g3, g4, g5⟩ := run_append_own_at (P := Try.prog) w 0 80 ty 84 ii (.agg #[.int .i64 0, .int .i64 0, .int .i64 0, .int .i64 0]) 4 32 Try.underlying80 hii hz0 hz1 hz2 rfl (by decide) v n xs hown ⟨blk, 0, none⟩ 1 c [.int .i64 x.1.1, .int .i64 (xS x.1.2), .int .i64 (xE x.1.2), .int .i64 (x.2 : Int)] rfl
    (fun j u hj => by
      match j, hj with
      | 0, hj => simp at hj; subst hj; exact h0
      | 1, hj => simp at hj; subst hj; exact h1
      | 2, hj => simp at hj; subst hj; exact h2
      | 3, hj => simp at hj; subst hj; exact h3)
    (fun u hu => by
      simp at hu
      rcases hu with rfl | rfl | rfl | rfl <;> rfl) (by unfold maxLen; omega) (by omega) (Nat.zero_le _)
  rcases g2.2 with ⟨_, e⟩ | ⟨g, cap, cur, rfl, _, e1, e2, e3, e4, e5⟩
  · omega
  · refine ⟨g, cap, w', hr, ⟨e2, e3, cur, e1, e4, fun j hj => ?_⟩, g3, ?_⟩
    · have key : ∀ t, t < (n + 1) * 4 → cur[t]? = (xs ++ [.int .i64 x.1.1, .int .i64 (xS x.1.2), .int .i64 (xE x.1.2), .int .i64 (x.2 : Int)])[t]? := fun t ht => by
        rw [← e5, List.getElem?_take_of_lt ht, Array.getElem?_toList]
      rw [key _ (by omega), key _ (by omega), key _ (by omega), key _ (by omega)]
      unfold putN
      by_cases e : j = n
      · subst e
        rw [if_pos rfl, List.getElem?_append_right (by omega), List.getElem?_append_right (by omega), List.getElem?_append_right (by omega), List.getElem?_append_right (by omega), hxl]
        simp
      · rw [if_neg e, List.getElem?_append_left (by omega), List.getElem?_append_left (by omega), List.getElem?_append_left (by omega), List.getElem?_append_left (by omega)]
        exact hxs j (by omega)
    · rcases g5 with g5 | g5
      · left; rw [← g5]; rfl
      · right; simp [Value.ownBlock] at g5; exact g5
theorem step_append_ent {ops : Array Oper} {o : Oper} {a : Act} {w : World} {K : Act → World → Prop} {Q : Exit → Act → World → Prop} {E : Prop} (hg : o.guard = none) (s x : Operand)
    (hop : o.op = .call { callee := .builtin .append, args := #[s, x], argTypes := #[80, 80] })
    (v : Value) (n : Nat) (h : Nat → It × Nat) (y : It × Nat) (blk c : Nat) (hs : a.eval s = v) (H : HpV w v n h) (hx : a.eval x = .slice (some ⟨blk, 0, none⟩) 1 c)
    (h0 : w.cell? ⟨blk, 0, none⟩ = some (.int .i64 y.1.1)) (h1 : w.cell? ⟨blk, 1, none⟩ = some (.int .i64 (xS y.1.2))) (h2 : w.cell? ⟨blk, 2, none⟩ = some (.int .i64 (xE y.1.2))) (h3 : w.cell? ⟨blk, 3, none⟩ = some (.int .i64 (y.2 : Int))) (hn : n ≤ 1000000)
    (hK : ∀ g cap w', Hid (HpR w' g (n + 1) cap (putN h n y)) → Hid (w.grownBy w' v.ownBlock) → Hid (v.ownBlock = some g ∨ g = w.heap.size) → K (a.put o.dst (.slice (some ⟨g, 0, none⟩) (n + 1) cap)) w') :
    if Region.wanted o (yielded ops a.tmps) = true then Oper.wp Try.prog o a w K Q else E := by
  have hw : Region.wanted o (yielded ops a.tmps) = true := by simp [Region.wanted, hg]
  rw [if_pos hw]
  obtain ⟨g, cap, w', hr, e1, e2, e3⟩ := run_append_ent w o.type v n h H y blk c h0 h1 h2 h3 hn
  unfold Oper.wp execOp
  simp only [hop, resolve, invoke, builtin, Sem.run_bind, Sem.run_pure, Result.andThen_ok, List.map_toArray, List.map_cons, List.map_nil, hs, hx, hr]
  exact hK g cap w' e1 e2 e3

/-- Block b holds cells, none of them frozen. -/
def BlkC (w : World) (b : Nat) : Prop := ∃ cur t, w.heap[b]? = some (.cells cur t (0, 0))
theorem BlkC.lt {w : World} {b : Nat} (h : BlkC w b) : b < w.heap.size := by
  obtain ⟨cur, t, h⟩ := h
  exact (Array.getElem?_eq_some_iff.1 h).1
theorem BlkC.keep {w w' : World} {b : Nat} {S : Nat → Prop} (h : BlkC w b) (hk : Keep S w w') (hS : ¬ S b) : BlkC w' b := by
  have hl := h.lt
  obtain ⟨cur, t, h⟩ := h
  exact ⟨cur, t, (hk.block b hl hS).trans h⟩
theorem BlkC.set {w : World} {b : Nat} (h : BlkC w b) (g j : Nat) (u : Value) : BlkC (w.setCell ⟨g, j, none⟩ u) b := by
  obtain ⟨cur, t, h⟩ := h
  by_cases e : b = g
  · subst e; exact ⟨_, t, set_row u h⟩
  · exact ⟨cur, t, (heap_setCell_other w ⟨g, j, none⟩ b u (fun e2 => e e2)).trans h⟩
/-- A queue at block b: N values have been pushed, V are in it; S: the blocks that it lies in. -/
structure QR (w : World) (b : Nat) (S : Nat → Prop) (dn : Bool) (N : Nat) (V : List It) : Prop where
  sb : S b
  lt : ∀ k, S k → k < w.heap.size
  c0 : w.cell? ⟨b, 0, none⟩ = some (.func (.func (lessF dn)) #[] #[])
  f1 : w.frozen? ⟨b, 1, none⟩ = false
  c2 : w.cell? ⟨b, 2, none⟩ = some (.int .i64 (N : Int))
  f2 : w.frozen? ⟨b, 2, none⟩ = false
  blk : BlkC w b
  ex : ∃ v n h, w.cell? ⟨b, 1, none⟩ = some v ∧ HpV w v n h ∧ (∀ g, v.ownBlock = some g → S g ∧ g ≠ b) ∧ AQ (kI dn) n h N V ∧ n ≤ N
theorem QR.keep {w w' : World} {b : Nat} {S S' : Nat → Prop} {dn : Bool} {N : Nat} {V : List It} (H : QR w b S dn N V) (hk : Keep S' w w') (hS : ∀ k, S k → ¬ S' k) : QR w' b S dn N V := by
  have hb := H.lt b H.sb
  have hn := hS b H.sb
  obtain ⟨v, n, h, c1, hv, hg, ha⟩ := H.ex
  refine ⟨H.sb, fun k e => Nat.lt_of_lt_of_le (H.lt k e) hk.size, ?_, ?_, ?_, ?_, H.blk.keep hk hn, v, n, h, ?_, hv.keep hk (fun g e => hS g (hg g e).1), hg, ha⟩
  · rw [hk.cell (p := ⟨b, 0, none⟩) hb hn]; exact H.c0
  · rw [hk.frozen (p := ⟨b, 1, none⟩) hb hn]; exact H.f1
  · rw [hk.cell (p := ⟨b, 2, none⟩) hb hn]; exact H.c2
  · rw [hk.frozen (p := ⟨b, 2, none⟩) hb hn]; exact H.f2
  · rw [hk.cell (p := ⟨b, 1, none⟩) hb hn]; exact c1
theorem QR.below {w w' : World} {b : Nat} {S : Nat → Prop} {dn : Bool} {N : Nat} {V : List It} (H : QR w b S dn N V) (hB : Below w.heap.size w w') : QR w' b S dn N V :=
  H.keep (Keep.ofBelow (S := fun _ => False) hB) (fun _ _ e => e)
theorem QR.len {w : World} {b : Nat} {S : Nat → Prop} {dn : Bool} {N : Nat} {V : List It} (H : QR w b S dn N V) : V.length ≤ N ∧ ∃ A cap, w.cell? ⟨b, 1, none⟩ = some (.slice A V.length cap) := by
  obtain ⟨v, n, h, c1, hv, hg, ha, hN⟩ := H.ex
  obtain ⟨A, cap, rfl⟩ := hv.form
  rw [ha.len]
  exact ⟨hN, A, cap, c1⟩

theorem len_any (b : Nat) (S : Nat → Prop) (dn : Bool) (N n : Nat) (V : List It) (w : World) (H : QR w b S dn N V) (hn : V.length = n) :
    Calls Try.prog 50 #[.pointer (some ⟨b, 0, none⟩)] w fun e w' => e = .returned (.int .i64 (n : Int)) ∧ w = w' := by
  obtain ⟨_, A, cap, c1⟩ := H.len
  rw [hn] at c1
  clear H hn
  go_enter Try.func50, Try.ntmps50
  go_wp2_with fail
  go_ret
  exact ⟨rfl, rfl⟩
theorem len_nil (w : World) : Calls Try.prog 50 #[.pointer none] w fun e w' => e = .returned (.int .i64 0) ∧ w = w' := by
  go_enter Try.func50, Try.ntmps50
  go_wp2_with fail
  go_ret
  exact ⟨rfl, rfl⟩

theorem func_nil_eq (f : Nat) (w : World) : (binOp .eql 67 (.func (.func f) #[] #[]) .nilFunc).run Try.prog w = .ok (.bool false) w := by kernel_rfl
theorem new_any (dn : Bool) (w : World) :
    Calls Try.prog 33 #[.func (.func (lessF dn)) #[] #[]] w fun e w' => ∃ b S, e = .returned (.pointer (some ⟨b, 0, none⟩)) ∧ QR w' b S dn 0 [] ∧ (∀ k, S k → w.heap.size ≤ k) ∧ Below w.heap.size w w' := by
  have hq := func_nil_eq (lessF dn)
  generalize hf : lessF dn = f at hq ⊢
  go_enter Try.func33, Try.ntmps33
  go_wp2_with fail
  go_ret
  refine ⟨_, fun k => k = w.heap.size, rfl, ⟨rfl, fun k e => by subst e; simp, ?_, ?_, ?_, ?_, ⟨_, _, heap_alloc_new w _⟩, .slice none 0 0, 0, fun _ => ((0, 0), 0), ?_, Or.inl ⟨rfl, rfl⟩, fun g e => (by cases e), AQ.nil _ _, Nat.le_refl _⟩, fun k e => by omega, (Below.refl _ _).alloc (Nat.le_refl _) _⟩
  · rw [hf, World.cell?_alloc_new]; rfl
  · exact World.frozen?_alloc_new _ _ _ _
  · rw [World.cell?_alloc_new]; rfl
  · exact World.frozen?_alloc_new _ _ _ _
  · rw [World.cell?_alloc_new]; rfl
end Go.Proofs.Ythomklpaafnjhaa
