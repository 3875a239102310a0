/-
  Rows of items in memory; the contracts of the specification's Push and Same. Condition: rows of at most 1000 items.
-/
import Derived.Test.YtkbfpkejogdieaaPqJ
import Derived.Deep.Upon
namespace Go.Proofs.Ytkbfpkejogdieaa
open Go.RowKit
set_option linter.unusedVariables false

/-- A slice at address A reads as the items l. -/
def ItsR (w : World) (A : Option Addr) (l : List It) : Prop := 0 < l.length → ∃ b o, A = some ⟨b, o, none⟩ ∧ b < w.heap.size ∧
  ∀ k, k < l.length → w.cell? ⟨b, o + k * 2, none⟩ = some (.int .i64 (l.getD k (0, 0)).1) ∧ w.cell? ⟨b, o + k * 2 + 1, none⟩ = some (.int .i64 (l.getD k (0, 0)).2)
theorem ItsR.keep {w w' : World} {A : Option Addr} {l : List It} {S : Nat → Prop} (h : ItsR w A l) (hk : Keep S w w') (hS : ∀ a, A = some a → ¬ S a.block) : ItsR w' A l := fun hl => by
  obtain ⟨b, o, rfl, hlt, hc⟩ := h hl
  have hn := hS _ rfl
  refine ⟨b, o, rfl, Nat.lt_of_lt_of_le hlt hk.size, fun k hk2 => ?_⟩
  rw [hk.cell (p := ⟨b, o + k * 2, none⟩) hlt hn, hk.cell (p := ⟨b, o + k * 2 + 1, none⟩) hlt hn]
  exact hc k hk2
theorem ItsR.below {w w' : World} {A : Option Addr} {l : List It} (h : ItsR w A l) (hb : Below w.heap.size w w') : ItsR w' A l := h.keep (Keep.ofBelow (S := fun _ => False) hb) (fun _ _ e => e)
theorem ItsR.nil (w : World) (A : Option Addr) : ItsR w A [] := fun h => absurd h (Nat.lt_irrefl _)
def flatI : List It → List Value
  | [] => []
  | x :: l => .int .i64 x.1 :: .int .i64 x.2 :: flatI l
theorem flatI_length (l : List It) : (flatI l).length = l.length * 2 := by
  induction l with
  | nil => rfl
  | cons x l ih => simp only [flatI, List.length_cons, ih]; omega
theorem flatI_append (l m : List It) : flatI (l ++ m) = flatI l ++ flatI m := by
  induction l with
  | nil => rfl
  | cons x l ih => simp only [List.cons_append, flatI, ih]
theorem flatI_get (l : List It) (k : Nat) (hk : k < l.length) : (flatI l)[k * 2]? = some (.int .i64 (l.getD k (0, 0)).1) ∧ (flatI l)[k * 2 + 1]? = some (.int .i64 (l.getD k (0, 0)).2) := by
  induction l generalizing k with
  | nil => exact absurd hk (Nat.not_lt_zero k)
  | cons x l ih =>
    cases k with
    | zero => exact ⟨rfl, rfl⟩
    | succ k =>
      have := ih k (by simpa using hk)
      rw [show (k + 1) * 2 = k * 2 + 1 + 1 by omega]
      simpa [flatI] using this
theorem flatI_one (l : List It) : ∀ v ∈ flatI l, v.oneCell' = true := by
  induction l with
  | nil => intro v hv; cases hv
  | cons x l ih =>
    intro v hv
    rcases List.mem_cons.1 hv with rfl | hv
    · rfl
    · rcases List.mem_cons.1 hv with rfl | hv
      · rfl
      · exact ih v hv
theorem flatI_loads (w : World) (b o : Nat) (l : List It) (hc : ∀ k, k < l.length → w.cell? ⟨b, o + k * 2, none⟩ = some (.int .i64 (l.getD k (0, 0)).1) ∧ w.cell? ⟨b, o + k * 2 + 1, none⟩ = some (.int .i64 (l.getD k (0, 0)).2)) :
    ∀ j v, (flatI l)[j]? = some v → w.cell? ((⟨b, o, none⟩ : Addr).add j) = some v := fun j v hj => by
  have hadd : (⟨b, o, none⟩ : Addr).add j = ⟨b, o + j, none⟩ := by unfold Addr.add; split <;> simp_all
  have hlt : j < l.length * 2 := by
    rcases Nat.lt_or_ge j (flatI l).length with h | h
    · rwa [flatI_length] at h
    · rw [List.getElem?_eq_none h] at hj; cases hj
  obtain ⟨c0, c1⟩ := hc (j / 2) (by omega)
  obtain ⟨g0, g1⟩ := flatI_get l (j / 2) (by omega)
  rw [hadd]
  rcases Nat.mod_two_eq_zero_or_one j with c | c
  · rw [show j = j / 2 * 2 by omega, g0] at hj
    rw [show j = j / 2 * 2 by omega, c0]; exact hj
  · rw [show j = j / 2 * 2 + 1 by omega, g1] at hj
    rw [show o + j = o + j / 2 * 2 + 1 by omega, c1]; exact hj

theorem info_it : (Try.prog.info? 27).map (fun i => (i.zero, i.size, i.bytes)) = some (some (.agg #[.int .i64 0, .int .i64 0]), 2, 16) := by kernel_rfl
/-- A row of items that the call owns. -/
def OwnT (w : World) (base : Nat) (v : Value) (l : List It) : Prop := w.ownsRow base 27 2 v l.length (flatI l)
theorem OwnT.nil (w : World) (base : Nat) : OwnT w base (.slice none 0 0) [] := World.ownsRow_nil _ _ _ _
theorem OwnT.keep {w w' : World} {base : Nat} {v : Value} {l : List It} {S : Nat → Prop} (h : OwnT w base v l) (hb : Keep S w w') (hS : ∀ g, v.ownBlock = some g → ¬ S g) : OwnT w' base v l := by
  have hlt := World.ownsRow.lt h
  obtain ⟨h1, h2⟩ := h
  refine ⟨h1, ?_⟩
  rcases h2 with h2 | ⟨g, cap, cur, hv, hg, hh, r⟩
  · exact Or.inl h2
  · subst hv
    exact Or.inr ⟨g, cap, cur, rfl, hg, (hb.block g (hlt g rfl).2 (hS g rfl)).trans hh, r⟩
theorem OwnT.below {w w' : World} {base : Nat} {v : Value} {l : List It} (h : OwnT w base v l) (hb : Below w.heap.size w w') : OwnT w' base v l := h.keep (Keep.ofBelow (S := fun _ => False) hb) (fun _ _ e => e)
theorem OwnT.alloc {w : World} {base : Nat} {v : Value} {l : List It} (h : OwnT w base v l) (o : Obj) : OwnT (w.alloc o) base v l := World.ownsRow.alloc h o
theorem OwnT.ge {w : World} {base : Nat} {v : Value} {l : List It} (h : OwnT w base v l) : ∀ k, v.ownBlock = some k → base ≤ k ∧ k < w.heap.size := fun k hk => World.ownsRow.lt h k hk
theorem OwnT.form {w : World} {base : Nat} {v : Value} {l : List It} (h : OwnT w base v l) : ∃ A cap, v = .slice A l.length cap ∧ l.length ≤ cap ∧ ItsR w A l ∧ (∀ a, A = some a → v.ownBlock = some a.block) := by
  have h0 : w.ownsRow base 27 2 v l.length (flatI l) := h
  have hlt := World.ownsRow.lt h
  obtain ⟨_, h⟩ := h
  rcases h with ⟨rfl, h2⟩ | ⟨g, cap, cur, rfl, hb, hg, hn, hm, hs, ht⟩
  · exact ⟨none, 0, by rw [h2], by omega, fun hh => by omega, fun a ha => by cases ha⟩
  · refine ⟨some ⟨g, 0, none⟩, cap, rfl, hn, fun _ => ⟨g, 0, rfl, (hlt g rfl).2, fun k hk => ?_⟩, fun a ha => by cases ha; rfl⟩
    obtain ⟨g0, g1⟩ := flatI_get l k hk
    rw [Nat.zero_add, h0.cellAt (k * 2) (by omega), h0.cellAt (k * 2 + 1) (by omega), g0, g1]
    exact ⟨rfl, rfl⟩
theorem OwnT.kept {w w' : World} {base : Nat} {v : Value} {l : List It} {row : Option Nat} (h : OwnT w base v l) (hg : w.grownBy w' row) (hne : v.ownBlock = none ∨ v.ownBlock ≠ row) : OwnT w' base v l := World.ownsRow.kept h hg hne

/-- append of what a slice holds, nil or not. -/
theorem run_append_its (w : World) (base : Nat) (ty : TypeId) (v : Value) (out l : List It) (n : Nat) (hl : l.length = n) (hown : OwnT w base v out) (A : Option Addr) (c : Nat) (hA : ItsR w A l)
    (hlen : out.length ≤ 10000) (hn : n ≤ 10000) (hbase : base ≤ w.heap.size) :
    ∃ v' w', (Builtin.append_ #[29, 29] ty #[v, .slice A n c]).run Try.prog w = .ok v' w' ∧ OwnT w' base v' (out ++ l) ∧ w.grownBy w' v.ownBlock ∧ (v'.ownBlock = v.ownBlock ∨ v'.ownBlock = some w.heap.size) := by
  subst hl
  obtain ⟨ii, hii, hz0, hz1, hz2⟩ := info_parts info_it
  by_cases h0 : l.length = 0
  · have : l = [] := List.eq_nil_of_length_eq_zero h0
    subst this
    obtain ⟨B, cap, rfl, hcap, _⟩ := hown.form
    refine ⟨_, w, ?_, by rw [List.append_nil]; exact hown, World.grownBy.refl w _, Or.inl rfl⟩
    have hsrc : Src Try.prog ii.size 29 (.slice A 0 c) 0 [] w := by
      cases A with
      | none => exact Src.ofNil w Try.underlying29 c
      | some a => exact Src.ofSlice w Try.underlying29 a 0 c [] (by simp) (fun j u hj => by simp at hj) (fun u hu => by cases hu)
    exact run_append_nothing w 29 29 ty 27 ii Try.underlying29 hii B _ cap hcap (.slice A 0 c) hsrc
  · obtain ⟨b, o, rfl, _, hcell⟩ := hA (by omega)
    obtain ⟨v', w', hrun, g2, g3, _, g5⟩ := run_append_own_at (P := Try.prog) w base 29 ty 27 ii (.agg #[.int .i64 0, .int .i64 0]) 2 16 Try.underlying29 hii hz0 hz1 hz2 rfl (by decide) v out.length (flatI out) hown ⟨b, o, none⟩ l.length c (flatI l) (flatI_length l) (flatI_loads w b o l hcell) (flatI_one l) (by unfold maxLen; omega) (by omega) hbase
    refine ⟨v', w', hrun, ?_, g3, g5⟩
    unfold OwnT
    rw [flatI_append, List.length_append]
    exact g2
theorem wpList_append_its {w : World} {ops : Array Oper} {rest : List Oper} {o : Oper} {a : Act} {Q : Exit → Act → World → Prop} (hgd : o.guard = none) (s x : Operand)
    (ho : o.op = .call { callee := .builtin .append, args := #[s, x], argTypes := #[29, 29] })
    (base : Nat) (v : Value) (out l : List It) (n : Nat) (hn : l.length = n) (hs : a.eval s = v) (hown : OwnT w base v out) (A : Option Addr) (c : Nat) (hx : a.eval x = .slice A n c) (hA : ItsR w A l)
    (hlen : out.length ≤ 10000) (hl : n ≤ 10000) (hbase : base ≤ w.heap.size)
    (h : ∀ v' w', Hid (OwnT w' base v' (out ++ l)) → Hid (w.grownBy w' v.ownBlock) → Hid (v'.ownBlock = v.ownBlock ∨ v'.ownBlock = some w.heap.size) → wpList Try.prog ops Q rest (a.put o.dst v') w') : wpList Try.prog ops Q (o :: rest) a w := by
  refine wpList_plain hgd fun K hK => ?_
  obtain ⟨v', w', hr, h2, h3, h4⟩ := run_append_its w base o.type v out l n hn hown A c hA hlen hl hbase
  unfold Oper.wp execOp
  simp only [ho, resolve, invoke, builtin, Sem.run_bind, Sem.run_pure, Result.andThen_ok, List.map_toArray, List.map_cons, List.map_nil, hs, hx, hr]
  exact hK _ _ (h v' w' h2 h3 h4)
/-- A slice of one item in a new block. -/
theorem ItsR.one {w : World} {blk : Nat} {p q : Int} (h0 : w.cell? ⟨blk, 0, none⟩ = some (.int .i64 p)) (h1 : w.cell? ⟨blk, 1, none⟩ = some (.int .i64 q)) : ItsR w (some ⟨blk, 0, none⟩) [(p, q)] := fun _ => by
  refine ⟨blk, 0, rfl, World.block_lt_of_cell? _ _ h0, fun k hk => ?_⟩
  obtain rfl : k = 0 := by simpa using hk
  exact ⟨h0, h1⟩
theorem grown_below {base : Nat} {w w' : World} {v : Value} {l : List It} (h : OwnT w base v l) (hg : w.grownBy w' v.ownBlock) (hb : base ≤ w.heap.size) : Below base w w' := (Below.refl base w).grown hg hb (fun k hk => (h.ge k hk).1)

set_option maxRecDepth 100000 in
set_option maxHeartbeats 1000000 in
theorem refPush_any (A : Option Addr) (l : List It) (n c : Nat) (x : It) (w : World) (hn : l.length = n) (hl : n ≤ 5000) (h : ItsR w A l) :
    Calls Try.prog 17 #[.slice A n c, .agg #[.int .i64 x.1, .int .i64 x.2]] w fun e w' => ∃ B d, e = .returned (.slice B (n + 1) d) ∧ n + 1 ≤ d ∧ ItsR w' B (l ++ [x]) ∧ Below w.heap.size w w' ∧ ∀ a, B = some a → w.heap.size ≤ a.block := by
  have HN := Lib.hid hn
  have H := Lib.hid h
  obtain ⟨x0, x1⟩ := x
  clear hn h
  go_enter Try.func17, Try.ntmps17
  go_wp2_with (at_builtin; refine wpList_append_its rfl _ _ rfl w.heap.size (.slice none 0 0) [] l n HN.out rfl (OwnT.nil _ _) A c rfl (H.out.below ((Below.refl _ _).alloc (Nat.le_refl _) _)) ?x0 ?x1 ?x2 ?_)
  case x0 => simp
  case x1 => omega
  case x2 => simp
  intro v1 w1 hO1 hg1 hat1
  have hw1 : w.heap.size + 1 ≤ w1.heap.size := by have := hg1.out.size; simpa using this
  have k1 : Keep (fun _ => False) (w.alloc (.cells #[.int .i64 x0, .int .i64 x1] 27)) w1 := (Keep.refl _ _).grown hg1.out (fun k e => by cases e)
  have c0 : w1.cell? ⟨w.heap.size, 0, none⟩ = some (.int .i64 x0) := by rw [k1.cell (p := ⟨w.heap.size, 0, none⟩) (by simp) (fun e => e), World.cell?_alloc_new]; rfl
  have c1 : w1.cell? ⟨w.heap.size, 1, none⟩ = some (.int .i64 x1) := by rw [k1.cell (p := ⟨w.heap.size, 1, none⟩) (by simp) (fun e => e), World.cell?_alloc_new]; rfl
  have K1 : Hid (Keep (fun _ => False) w w1) := Lib.hid ((Keep.alloc0 w _).step k1)
  obtain ⟨B1, d1, hv1, _, _, _⟩ := hO1.out.form
  rw [HN.out] at hv1
  subst hv1
  clear k1
  go_wp2_with (at_builtin; refine wpList_append_its rfl _ _ rfl w.heap.size (.slice B1 n d1) l [(x0, x1)] 1 rfl rfl (hO1.out.alloc _) (some ⟨w1.heap.size, 0, none⟩) 1 rfl (ItsR.one ?y0 ?y1) ?y2 ?y3 ?y4 ?_)
  case y0 => rw [World.cell?_alloc_new]; rfl
  case y1 => rw [World.cell?_alloc_new]; rfl
  case y2 => rw [HN.out]; omega
  case y3 => omega
  case y4 => simp; omega
  intro v2 w2 hO2 hg2 hat2
  obtain ⟨B2, d2, hv2, hd2, hr2, hb2⟩ := hO2.out.form
  have hle : (l ++ [(x0, x1)]).length = n + 1 := by simp [HN.out]
  rw [hle] at hv2 hd2
  subst hv2
  have HF : Hid (ItsR w2 B2 (l ++ [(x0, x1)]) ∧ Below w.heap.size w w2 ∧ ∀ a, B2 = some a → w.heap.size ≤ a.block) := Lib.hid (by
    refine ⟨hr2, ?_, fun a ha => (hO2.out.ge _ (hb2 a ha)).1⟩
    exact (K1.out.below (fun _ e => e.elim) (Nat.le_refl _)).trans ((((Below.refl w.heap.size w1).alloc (by omega) _)).trans (grown_below (hO1.out.alloc _) hg2.out (by simp; omega))))
  clear hr2 hb2 hle
  go_wp2_with fail
  go_ret
  exact ⟨B2, d2, rfl, hd2, HF.out⟩
end Go.Proofs.Ytkbfpkejogdieaa
