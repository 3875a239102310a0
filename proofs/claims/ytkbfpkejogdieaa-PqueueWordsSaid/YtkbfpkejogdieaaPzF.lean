/-
  A queue of strings in memory; append onto its heap; the contracts of New and Len. Condition: as each says.
-/
import Derived.Test.YtkbfpkejogdieaaPzE
import Derived.Deep.RegionLaw
namespace Go.Proofs.Ytkbfpkejogdieaa
open Go.RowKit
set_option linter.unusedVariables false

theorem info_ent_z : (Try.prog.info? 69).map (fun i => (i.zero, i.size, i.bytes)) = some (some (.agg #[.string ⟨#[]⟩, .int .i64 0]), 2, 24) := by kernel_rfl

/-- The heap of a queue: nothing yet, or a block. -/
def HpVZ (w : World) (v : Value) (n : Nat) (h : Nat → ByteArray × Nat) : Prop := (v = .slice none 0 0 ∧ n = 0) ∨ ∃ g cap, v = .slice (some ⟨g, 0, none⟩) n cap ∧ HpRZ w g n cap h
theorem HpVZ.keep {w w' : World} {v : Value} {n : Nat} {h : Nat → ByteArray × Nat} {S : Nat → Prop} (H : HpVZ w v n h) (hk : Keep S w w') (hS : ∀ g, v.ownBlock = some g → ¬ S g) : HpVZ w' v n h := by
  rcases H with H | ⟨g, cap, rfl, H⟩
  · exact Or.inl H
  · exact Or.inr ⟨g, cap, rfl, H.keep hk (hS g rfl)⟩
theorem HpVZ.lt {w : World} {v : Value} {n : Nat} {h : Nat → ByteArray × Nat} (H : HpVZ w v n h) : ∀ g, v.ownBlock = some g → g < w.heap.size := fun g e => by
  rcases H with ⟨rfl, _⟩ | ⟨g', cap, rfl, H⟩
  · cases e
  · simp [Value.ownBlock] at e; subst e; exact H.lt
theorem HpVZ.form {w : World} {v : Value} {n : Nat} {h : Nat → ByteArray × Nat} (H : HpVZ w v n h) : ∃ A cap, v = .slice A n cap := by
  rcases H with ⟨rfl, rfl⟩ | ⟨g', cap, rfl, H⟩
  · exact ⟨none, 0, rfl⟩
  · exact ⟨_, cap, rfl⟩
/-- h with x behind the first n. -/
def putNZ (h : Nat → ByteArray × Nat) (n : Nat) (x : ByteArray × Nat) : Nat → ByteArray × Nat := fun t => if t = n then x else h t
theorem run_append_ent_z (w : World) (ty : TypeId) (v : Value) (n : Nat) (h : Nat → ByteArray × Nat) (H : HpVZ w v n h) (x : ByteArray × Nat) (blk c : Nat)
    (h0 : w.cell? ⟨blk, 0, none⟩ = some (.string x.1)) (h1 : w.cell? ⟨blk, 1, none⟩ = some (.int .i64 (x.2 : Int))) (hn : n ≤ 1000000) :
    ∃ g cap w', (Builtin.append_ #[65, 65] ty #[v, .slice (some ⟨blk, 0, none⟩) 1 c]).run Try.prog w = .ok (.slice (some ⟨g, 0, none⟩) (n + 1) cap) w' ∧
      HpRZ w' g (n + 1) cap (putNZ h n x) ∧ w.grownBy w' v.ownBlock ∧ (v.ownBlock = some g ∨ g = w.heap.size) := by
  obtain ⟨ii, hii, hz0, hz1, hz2⟩ := info_parts info_ent_z
  have hown : ∃ xs : List Value, w.ownsRow 0 69 2 v n xs ∧ xs.length = n * 2 ∧ ∀ j, j < n → xs[j * 2]? = some (.string (h j).1) ∧ xs[j * 2 + 1]? = some (.int .i64 ((h j).2 : Int)) := by
    rcases H with ⟨rfl, rfl⟩ | ⟨g, cap, rfl, hc, hm, cur, e1, e2, e3⟩
    · exact ⟨[], World.ownsRow_nil _ _ _ _, rfl, fun j hj => absurd hj (Nat.not_lt_zero j)⟩
    · have hl : (cur.toList.take (n * 2)).length = n * 2 := by
        rw [List.length_take, Array.length_toList, e2]
        omega
      refine ⟨cur.toList.take (n * 2), ⟨hl, Or.inr ⟨g, cap, cur, rfl, Nat.zero_le _, e1, hc, hm, e2, rfl⟩⟩, hl, fun j hj => ?_⟩
      obtain ⟨a0, a1⟩ := e3 j hj
      rw [List.getElem?_take_of_lt (by omega), List.getElem?_take_of_lt (by omega), Array.getElem?_toList, Array.getElem?_toList]
      exact ⟨a0, a1⟩
  obtain ⟨xs, hown, hxl, hxs⟩ := hown
  obtain ⟨v', w', hr, g2, g3, g4, g5⟩ := run_append_own_at (P := Try.prog) w 0 65 ty 69 ii (.agg #[.string ⟨#[]⟩, .int .i64 0]) 2 24 Try.underlying65 hii hz0 hz1 hz2 rfl (by decide) v n xs hown ⟨blk, 0, none⟩ 1 c [.string x.1, .int .i64 (x.2 : Int)] rfl
    (fun j u hj => by
      match j, hj with
      | 0, hj => simp at hj; subst hj; exact h0
      | 1, hj => simp at hj; subst hj; exact h1)
    (fun u hu => by
      simp at hu
      rcases hu with rfl | rfl <;> rfl) (by unfold maxLen; omega) (by omega) (Nat.zero_le _)
  rcases g2.2 with ⟨_, e⟩ | ⟨g, cap, cur, rfl, _, e1, e2, e3, e4, e5⟩
  · omega
  · refine ⟨g, cap, w', hr, ⟨e2, e3, cur, e1, e4, fun j hj => ?_⟩, g3, ?_⟩
    · have key : ∀ t, t < (n + 1) * 2 → cur[t]? = (xs ++ [.string x.1, .int .i64 (x.2 : Int)])[t]? := fun t ht => by
        rw [← e5, List.getElem?_take_of_lt ht, Array.getElem?_toList]
      rw [key _ (by omega), key _ (by omega)]
      unfold putNZ
      by_cases e : j = n
      · subst e
        rw [if_pos rfl, List.getElem?_append_right (by omega), List.getElem?_append_right (by omega), hxl]
        simp
      · rw [if_neg e, List.getElem?_append_left (by omega), List.getElem?_append_left (by omega)]
        exact hxs j (by omega)
    · rcases g5 with g5 | g5
      · left; rw [← g5]; rfl
      · right; simp [Value.ownBlock] at g5; exact g5
theorem step_append_ent_z {ops : Array Oper} {o : Oper} {a : Act} {w : World} {K : Act → World → Prop} {Q : Exit → Act → World → Prop} {E : Prop} (hg : o.guard = none) (s x : Operand)
    (hop : o.op = .call { callee := .builtin .append, args := #[s, x], argTypes := #[65, 65] })
    (v : Value) (n : Nat) (h : Nat → ByteArray × Nat) (y : ByteArray × Nat) (blk c : Nat) (hs : a.eval s = v) (H : HpVZ w v n h) (hx : a.eval x = .slice (some ⟨blk, 0, none⟩) 1 c)
    (h0 : w.cell? ⟨blk, 0, none⟩ = some (.string y.1)) (h1 : w.cell? ⟨blk, 1, none⟩ = some (.int .i64 (y.2 : Int))) (hn : n ≤ 1000000)
    (hK : ∀ g cap w', Hid (HpRZ w' g (n + 1) cap (putNZ h n y)) → Hid (w.grownBy w' v.ownBlock) → Hid (v.ownBlock = some g ∨ g = w.heap.size) → K (a.put o.dst (.slice (some ⟨g, 0, none⟩) (n + 1) cap)) w') :
    if Region.wanted o (yielded ops a.tmps) = true then Oper.wp Try.prog o a w K Q else E := by
  have hw : Region.wanted o (yielded ops a.tmps) = true := by simp [Region.wanted, hg]
  rw [if_pos hw]
  obtain ⟨g, cap, w', hr, e1, e2, e3⟩ := run_append_ent_z w o.type v n h H y blk c h0 h1 hn
  unfold Oper.wp execOp
  simp only [hop, resolve, invoke, builtin, Sem.run_bind, Sem.run_pure, Result.andThen_ok, List.map_toArray, List.map_cons, List.map_nil, hs, hx, hr]
  exact hK g cap w' e1 e2 e3

/-- A queue at block b: N values have been pushed, V are in it; S: the blocks that it lies in. -/
structure QRZ (w : World) (b : Nat) (S : Nat → Prop) (dn : Bool) (N : Nat) (V : List ByteArray) : Prop where
  sb : S b
  lt : ∀ k, S k → k < w.heap.size
  c0 : w.cell? ⟨b, 0, none⟩ = some (.func (.func (lessZ dn)) #[] #[])
  f1 : w.frozen? ⟨b, 1, none⟩ = false
  c2 : w.cell? ⟨b, 2, none⟩ = some (.int .i64 (N : Int))
  f2 : w.frozen? ⟨b, 2, none⟩ = false
  blk : BlkC w b
  ex : ∃ v n h, w.cell? ⟨b, 1, none⟩ = some v ∧ HpVZ w v n h ∧ (∀ g, v.ownBlock = some g → S g ∧ g ≠ b) ∧ AQ (kZ dn) n h N V ∧ n ≤ N
theorem QRZ.keep {w w' : World} {b : Nat} {S S' : Nat → Prop} {dn : Bool} {N : Nat} {V : List ByteArray} (H : QRZ w b S dn N V) (hk : Keep S' w w') (hS : ∀ k, S k → ¬ S' k) : QRZ w' b S dn N V := by
  have hb := H.lt b H.sb
  have hn := hS b H.sb
  obtain ⟨v, n, h, c1, hv, hg, ha⟩ := H.ex
  refine ⟨H.sb, fun k e => Nat.lt_of_lt_of_le (H.lt k e) hk.size, ?_, ?_, ?_, ?_, H.blk.keep hk hn, v, n, h, ?_, hv.keep hk (fun g e => hS g (hg g e).1), hg, ha⟩
  · rw [hk.cell (p := ⟨b, 0, none⟩) hb hn]; exact H.c0
  · rw [hk.frozen (p := ⟨b, 1, none⟩) hb hn]; exact H.f1
  · rw [hk.cell (p := ⟨b, 2, none⟩) hb hn]; exact H.c2
  · rw [hk.frozen (p := ⟨b, 2, none⟩) hb hn]; exact H.f2
  · rw [hk.cell (p := ⟨b, 1, none⟩) hb hn]; exact c1
theorem QRZ.below {w w' : World} {b : Nat} {S : Nat → Prop} {dn : Bool} {N : Nat} {V : List ByteArray} (H : QRZ w b S dn N V) (hB : Below w.heap.size w w') : QRZ w' b S dn N V :=
  H.keep (Keep.ofBelow (S := fun _ => False) hB) (fun _ _ e => e)
theorem QRZ.len {w : World} {b : Nat} {S : Nat → Prop} {dn : Bool} {N : Nat} {V : List ByteArray} (H : QRZ w b S dn N V) : V.length ≤ N ∧ ∃ A cap, w.cell? ⟨b, 1, none⟩ = some (.slice A V.length cap) := by
  obtain ⟨v, n, h, c1, hv, hg, ha, hN⟩ := H.ex
  obtain ⟨A, cap, rfl⟩ := hv.form
  rw [ha.len]
  exact ⟨hN, A, cap, c1⟩

theorem len_z (b : Nat) (S : Nat → Prop) (dn : Bool) (N n : Nat) (V : List ByteArray) (w : World) (H : QRZ w b S dn N V) (hn : V.length = n) :
    Calls Try.prog 28 #[.pointer (some ⟨b, 0, none⟩)] w fun e w' => e = .returned (.int .i64 (n : Int)) ∧ w = w' := by
  obtain ⟨_, A, cap, c1⟩ := H.len
  rw [hn] at c1
  clear H hn
  go_enter Try.func28, Try.ntmps28
  go_wp2_with fail
  go_ret
  exact ⟨rfl, rfl⟩
theorem len_nil_z (w : World) : Calls Try.prog 28 #[.pointer none] w fun e w' => e = .returned (.int .i64 0) ∧ w = w' := by
  go_enter Try.func28, Try.ntmps28
  go_wp2_with fail
  go_ret
  exact ⟨rfl, rfl⟩

theorem func_nil_eq_z (f : Nat) (w : World) : (binOp .eql 52 (.func (.func f) #[] #[]) .nilFunc).run Try.prog w = .ok (.bool false) w := by kernel_rfl
theorem new_z (dn : Bool) (w : World) :
    Calls Try.prog 24 #[.func (.func (lessZ dn)) #[] #[]] w fun e w' => ∃ b S, e = .returned (.pointer (some ⟨b, 0, none⟩)) ∧ QRZ w' b S dn 0 [] ∧ (∀ k, S k → w.heap.size ≤ k) ∧ Below w.heap.size w w' := by
  have hq := func_nil_eq_z (lessZ dn)
  generalize hf : lessZ dn = f at hq ⊢
  go_enter Try.func24, Try.ntmps24
  go_wp2_with fail
  go_ret
  refine ⟨_, fun k => k = w.heap.size, rfl, ⟨rfl, fun k e => by subst e; simp, ?_, ?_, ?_, ?_, ⟨_, _, heap_alloc_new w _⟩, .slice none 0 0, 0, fun _ => (ByteArray.empty, 0), ?_, Or.inl ⟨rfl, rfl⟩, fun g e => (by cases e), AQ.nil _ _, Nat.le_refl _⟩, fun k e => by omega, (Below.refl _ _).alloc (Nat.le_refl _) _⟩
  · rw [hf, World.cell?_alloc_new]; rfl
  · exact World.frozen?_alloc_new _ _ _ _
  · rw [World.cell?_alloc_new]; rfl
  · exact World.frozen?_alloc_new _ _ _ _
  · rw [World.cell?_alloc_new]; rfl
end Go.Proofs.Ytkbfpkejogdieaa
