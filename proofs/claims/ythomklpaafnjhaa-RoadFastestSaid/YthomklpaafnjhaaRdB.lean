/-
  Rows of triples that the call owns, append onto them; blocks of values; the contract of exits. Condition: a network that Check passes.
-/
import Derived.Test.YthomklpaafnjhaaRdA
import Derived.Deep.RegionLaw
namespace Go.Proofs.Ythomklpaafnjhaa
open Go.RowKit
set_option linter.unusedVariables false

def flatE : List Ed → List Value
  | [] => []
  | x :: l => .int .i64 x.f :: .int .i64 x.t :: .int .i64 x.s :: flatE l
theorem flatE_length (l : List Ed) : (flatE l).length = l.length * 3 := by
  induction l with
  | nil => rfl
  | cons x l ih => simp only [flatE, List.length_cons, ih]; omega
theorem flatE_append (l m : List Ed) : flatE (l ++ m) = flatE l ++ flatE m := by
  induction l with
  | nil => rfl
  | cons x l ih => simp only [List.cons_append, flatE, ih]
theorem flatE_get (l : List Ed) (k : Nat) (hk : k < l.length) : (flatE l)[k * 3]? = some (.int .i64 (l.getD k ed0).f) ∧ (flatE l)[k * 3 + 1]? = some (.int .i64 (l.getD k ed0).t) ∧ (flatE l)[k * 3 + 2]? = some (.int .i64 (l.getD k ed0).s) := by
  induction l generalizing k with
  | nil => exact absurd hk (Nat.not_lt_zero k)
  | cons x l ih =>
    cases k with
    | zero => exact ⟨rfl, rfl, rfl⟩
    | succ k =>
      have := ih k (by simpa using hk)
      rw [show (k + 1) * 3 = k * 3 + 1 + 1 + 1 by omega]
      simpa [flatE] using this
theorem flatE_one (l : List Ed) : ∀ v ∈ flatE l, v.oneCell' = true := by
  induction l with
  | nil => intro v hv; cases hv
  | cons x l ih =>
    intro v hv
    rcases List.mem_cons.1 hv with rfl | hv
    · rfl
    · rcases List.mem_cons.1 hv with rfl | hv
      · rfl
      · rcases List.mem_cons.1 hv with rfl | hv
        · rfl
        · exact ih v hv
theorem flatE_loads (w : World) (b o : Nat) (l : List Ed) (hc : ∀ k, k < l.length → w.cell? ⟨b, o + k * 3, none⟩ = some (.int .i64 (l.getD k ed0).f) ∧ w.cell? ⟨b, o + k * 3 + 1, none⟩ = some (.int .i64 (l.getD k ed0).t) ∧ w.cell? ⟨b, o + k * 3 + 2, none⟩ = some (.int .i64 (l.getD k ed0).s)) :
    ∀ j v, (flatE l)[j]? = some v → w.cell? ((⟨b, o, none⟩ : Addr).add j) = some v := fun j v hj => by
  have hadd : (⟨b, o, none⟩ : Addr).add j = ⟨b, o + j, none⟩ := by unfold Addr.add; split <;> simp_all
  have hlt : j < l.length * 3 := by
    rcases Nat.lt_or_ge j (flatE l).length with h | h
    · rwa [flatE_length] at h
    · rw [List.getElem?_eq_none h] at hj; cases hj
  obtain ⟨c0, c1, c2⟩ := hc (j / 3) (by omega)
  obtain ⟨g0, g1, g2⟩ := flatE_get l (j / 3) (by omega)
  rw [hadd]
  rcases (show j = j / 3 * 3 ∨ j = j / 3 * 3 + 1 ∨ j = j / 3 * 3 + 2 by omega) with c | c | c
  · rw [c, g0] at hj
    rw [c, c0]; exact hj
  · rw [c, g1] at hj
    rw [show o + j = o + j / 3 * 3 + 1 by omega, c1]; exact hj
  · rw [c, g2] at hj
    rw [show o + j = o + j / 3 * 3 + 2 by omega, c2]; exact hj

/-- T: slices of triples e. -/
structure Tri (T e : TypeId) : Prop where
  u : Try.prog.underlying T = some (.slice e)
  i : (Try.prog.info? e).map (fun i => (i.zero, i.size, i.bytes)) = some (some (.agg #[.int .i64 0, .int .i64 0, .int .i64 0]), 3, 24)
theorem triE : Tri 22 43 := ⟨Try.underlying22, by kernel_rfl⟩
theorem triX : Tri 71 73 := ⟨Try.underlying71, by kernel_rfl⟩
/-- A row of triples that the call owns. -/
def OwnA (e : TypeId) (w : World) (base : Nat) (v : Value) (l : List Ed) : Prop := w.ownsRow base e 3 v l.length (flatE l)
theorem OwnA.nil (e : TypeId) (w : World) (base : Nat) : OwnA e w base (.slice none 0 0) [] := World.ownsRow_nil _ _ _ _
theorem OwnA.keep {e : TypeId} {w w' : World} {base : Nat} {v : Value} {l : List Ed} {S : Nat → Prop} (h : OwnA e w base v l) (hb : Keep S w w') (hS : ∀ g, v.ownBlock = some g → ¬ S g) : OwnA e w' base v l := by
  have hlt := World.ownsRow.lt h
  obtain ⟨h1, h2⟩ := h
  refine ⟨h1, ?_⟩
  rcases h2 with h2 | ⟨g, cap, cur, hv, hg, hh, r⟩
  · exact Or.inl h2
  · subst hv
    exact Or.inr ⟨g, cap, cur, rfl, hg, (hb.block g (hlt g rfl).2 (hS g rfl)).trans hh, r⟩
theorem OwnA.below {e : TypeId} {w w' : World} {base : Nat} {v : Value} {l : List Ed} (h : OwnA e w base v l) (hb : Below w.heap.size w w') : OwnA e w' base v l := h.keep (Keep.ofBelow (S := fun _ => False) hb) (fun _ _ e => e)
theorem OwnA.ge {e : TypeId} {w : World} {base : Nat} {v : Value} {l : List Ed} (h : OwnA e w base v l) : ∀ k, v.ownBlock = some k → base ≤ k ∧ k < w.heap.size := fun k hk => World.ownsRow.lt h k hk
theorem OwnA.form {e : TypeId} {w : World} {base : Nat} {v : Value} {l : List Ed} (h : OwnA e w base v l) : ∃ A cap, v = .slice A l.length cap ∧ l.length ≤ cap ∧ EdR w A l ∧ (∀ a, A = some a → v.ownBlock = some a.block) := by
  have h0 : w.ownsRow base e 3 v l.length (flatE l) := h
  have hlt := World.ownsRow.lt h
  obtain ⟨_, h⟩ := h
  rcases h with ⟨rfl, h2⟩ | ⟨g, cap, cur, rfl, hb, hg, hn, hm, hs, ht⟩
  · exact ⟨none, 0, by rw [h2], by omega, fun hh => by omega, fun a ha => by cases ha⟩
  · refine ⟨some ⟨g, 0, none⟩, cap, rfl, hn, fun _ => ⟨g, 0, rfl, (hlt g rfl).2, fun k hk => ?_⟩, fun a ha => by cases ha; rfl⟩
    obtain ⟨g0, g1, g2⟩ := flatE_get l k hk
    rw [Nat.zero_add, h0.cellAt (k * 3) (by omega), h0.cellAt (k * 3 + 1) (by omega), h0.cellAt (k * 3 + 2) (by omega), g0, g1, g2]
    exact ⟨rfl, rfl, rfl⟩
theorem OwnA.kept {e : TypeId} {w w' : World} {base : Nat} {v : Value} {l : List Ed} {row : Option Nat} (h : OwnA e w base v l) (hg : w.grownBy w' row) (hne : v.ownBlock = none ∨ v.ownBlock ≠ row) : OwnA e w' base v l := World.ownsRow.kept h hg hne

/-- append of what a slice holds, nil or not. -/
theorem run_append_eds {T e : TypeId} (ht : Tri T e) (w : World) (base : Nat) (ty : TypeId) (v : Value) (out l : List Ed) (n : Nat) (hl : l.length = n) (hown : OwnA e w base v out) (A : Option Addr) (c : Nat) (hA : EdR w A l)
    (hlen : out.length ≤ 10000) (hn : n ≤ 10000) (hbase : base ≤ w.heap.size) :
    ∃ v' w', (Builtin.append_ #[T, T] ty #[v, .slice A n c]).run Try.prog w = .ok v' w' ∧ OwnA e w' base v' (out ++ l) ∧ w.grownBy w' v.ownBlock ∧ (v'.ownBlock = v.ownBlock ∨ v'.ownBlock = some w.heap.size) := by
  subst hl
  obtain ⟨ii, hii, hz0, hz1, hz2⟩ := info_parts ht.i
  by_cases h0 : l.length = 0
  · have : l = [] := List.eq_nil_of_length_eq_zero h0
    subst this
    obtain ⟨B, cap, rfl, hcap, _⟩ := hown.form
    refine ⟨_, w, ?_, by rw [List.append_nil]; exact hown, World.grownBy.refl w _, Or.inl rfl⟩
    have hsrc : Src Try.prog ii.size T (.slice A 0 c) 0 [] w := by
      cases A with
      | none => exact Src.ofNil w ht.u c
      | some a => exact Src.ofSlice w ht.u a 0 c [] (by simp) (fun j u hj => by simp at hj) (fun u hu => by cases hu)
    exact run_append_nothing w T T ty e ii ht.u hii B _ cap hcap (.slice A 0 c) hsrc
  · obtain ⟨b, o, rfl, _, hcell⟩ := hA (by omega)
    obtain ⟨v', w', hrun, g2, g3, _, g5⟩ := run_append_own_at (P := Try.prog) w base T ty e ii (.agg #[.int .i64 0, .int .i64 0, .int .i64 0]) 3 24 ht.u hii hz0 hz1 hz2 rfl (by decide) v out.length (flatE out) hown ⟨b, o, none⟩ l.length c (flatE l) (flatE_length l) (flatE_loads w b o l hcell) (flatE_one l) (by unfold maxLen; omega) (by omega) hbase
    refine ⟨v', w', hrun, ?_, g3, g5⟩
    unfold OwnA
    rw [flatE_append, List.length_append]
    exact g2
theorem TriR.ed {w : World} {b : Nat} {x : Ed} (h : TriR w b x) : EdR w (some ⟨b, 0, none⟩) [x] := fun _ => by
  refine ⟨b, 0, rfl, World.block_lt_of_cell? _ _ h.c0, fun k hk => ?_⟩
  obtain rfl : k = 0 := by simpa using hk
  exact ⟨h.c0, h.c1, h.c2⟩
theorem TriR.drew {w : World} {b : Nat} {x : Ed} (h : TriR w b x) : TriR w.drew b x := ⟨h.c0, h.c1, h.c2⟩
theorem OwnA.drew {e : TypeId} {w : World} {base : Nat} {v : Value} {l : List Ed} (h : OwnA e w base v l) : OwnA e w.drew base v l := h
theorem step_append_tri {T e : TypeId} (ht : Tri T e) {ops : Array Oper} {o : Oper} {a : Act} {w : World} {K : Act → World → Prop} {Q : Exit → Act → World → Prop} {E : Prop} (hg : o.guard = none) (s x : Operand)
    (hop : o.op = .call { callee := .builtin .append, args := #[s, x], argTypes := #[T, T] })
    (base : Nat) (v : Value) (out : List Ed) (y : Ed) (blk c : Nat) (hs : a.eval s = v) (H : OwnA e w base v out) (hx : a.eval x = .slice (some ⟨blk, 0, none⟩) 1 c)
    (hy : TriR w blk y) (hn : out.length ≤ 10000) (hbase : base ≤ w.heap.size)
    (hK : ∀ A' n' c' w', Hid ((out ++ [y]).length = n') → Hid (OwnA e w' base (.slice A' n' c') (out ++ [y])) → Hid (w.grownBy w' v.ownBlock) → Hid ((Value.slice A' n' c').ownBlock = v.ownBlock ∨ (Value.slice A' n' c').ownBlock = some w.heap.size) → K (a.put o.dst (.slice A' n' c')) w') :
    if Region.wanted o (yielded ops a.tmps) = true then Oper.wp Try.prog o a w K Q else E := by
  have hw : Region.wanted o (yielded ops a.tmps) = true := by simp [Region.wanted, hg]
  rw [if_pos hw]
  obtain ⟨v', w', hr, e1, e2, e3⟩ := run_append_eds ht w base o.type v out [y] 1 rfl H _ c hy.ed hn (by omega) hbase
  unfold Oper.wp execOp
  simp only [hop, resolve, invoke, builtin, Sem.run_bind, Sem.run_pure, Result.andThen_ok, List.map_toArray, List.map_cons, List.map_nil, hs, hx, hr]
  obtain ⟨A', c', rfl, _⟩ := e1.form
  exact hK A' _ c' w' rfl e1 e2 e3
theorem wpList_append_eds {T e : TypeId} (ht : Tri T e) {w : World} {ops : Array Oper} {rest : List Oper} {o : Oper} {a : Act} {Q : Exit → Act → World → Prop} (hgd : o.guard = none) (s x : Operand)
    (ho : o.op = .call { callee := .builtin .append, args := #[s, x], argTypes := #[T, T] })
    (base : Nat) (v : Value) (out l : List Ed) (n : Nat) (hn : l.length = n) (hs : a.eval s = v) (hown : OwnA e w base v out) (A : Option Addr) (c : Nat) (hx : a.eval x = .slice A n c) (hA : EdR w A l)
    (hlen : out.length ≤ 10000) (hl : n ≤ 10000) (hbase : base ≤ w.heap.size)
    (h : ∀ v' w', Hid (OwnA e w' base v' (out ++ l)) → Hid (w.grownBy w' v.ownBlock) → Hid (v'.ownBlock = v.ownBlock ∨ v'.ownBlock = some w.heap.size) → wpList Try.prog ops Q rest (a.put o.dst v') w') : wpList Try.prog ops Q (o :: rest) a w := by
  refine wpList_plain hgd fun K hK => ?_
  obtain ⟨v', w', hr, h2, h3, h4⟩ := run_append_eds ht w base o.type v out l n hn hown A c hA hlen hl hbase
  unfold Oper.wp execOp
  simp only [ho, resolve, invoke, builtin, Sem.run_bind, Sem.run_pure, Result.andThen_ok, List.map_toArray, List.map_cons, List.map_nil, hs, hx, hr]
  exact hK _ _ (h v' w' h2 h3 h4)

/-- A block of n values, one a cell. -/
def Blk (w : World) (g : Nat) (t : TypeId) (n : Nat) (V : Nat → Value) : Prop := ∃ cur : Array Value, w.heap[g]? = some (.cells cur t (0, 0)) ∧ cur.size = n ∧ ∀ j, j < n → cur[j]? = some (V j)
theorem Blk.lt {w : World} {g n : Nat} {t : TypeId} {V : Nat → Value} (h : Blk w g t n V) : g < w.heap.size := by
  obtain ⟨cur, h1, _⟩ := h
  exact (Array.getElem?_eq_some_iff.1 h1).1
theorem Blk.cell {w : World} {g n j : Nat} {t : TypeId} {V : Nat → Value} (h : Blk w g t n V) (hj : j < n) : w.cell? ⟨g, j, none⟩ = some (V j) := by
  obtain ⟨cur, h1, _, h2⟩ := h
  exact (cell_of_row w g _ cur _ _ h1).trans (h2 j hj)
theorem Blk.frozen {w : World} {g n : Nat} {t : TypeId} {V : Nat → Value} (h : Blk w g t n V) (j : Nat) : w.frozen? ⟨g, j, none⟩ = false := by
  obtain ⟨cur, h1, _⟩ := h
  simp [World.frozen?, h1]
theorem Blk.keep {w w' : World} {g n : Nat} {t : TypeId} {V : Nat → Value} {S : Nat → Prop} (h : Blk w g t n V) (hk : Keep S w w') (hS : ¬ S g) : Blk w' g t n V := by
  have hlt := h.lt
  obtain ⟨cur, h1, h2⟩ := h
  exact ⟨cur, (hk.block g hlt hS).trans h1, h2⟩
theorem Blk.below {w w' : World} {g n : Nat} {t : TypeId} {V : Nat → Value} (h : Blk w g t n V) (hb : Below w.heap.size w w') : Blk w' g t n V := h.keep (Keep.ofBelow (S := fun _ => False) hb) (fun e => e)
theorem Blk.set {w : World} {g n i : Nat} {t : TypeId} {V V' : Nat → Value} (h : Blk w g t n V) (u : Value) (hi : i < n) (hV : ∀ j, j < n → V' j = if j = i then u else V j) : Blk (w.setCell ⟨g, i, none⟩ u) g t n V' := by
  obtain ⟨cur, h1, h2, h3⟩ := h
  refine ⟨_, set_row u h1, by simpa using h2, fun j hj => ?_⟩
  rw [hV j hj, Array.getElem?_setIfInBounds]
  by_cases e : j = i
  · subst e; rw [if_pos rfl, if_pos rfl, if_pos (by omega)]
  · rw [if_neg (fun e2 => e e2.symm), if_neg e]; exact h3 j hj
theorem Blk.made (w : World) (n : Nat) (t : TypeId) (z : Value) (V : Nat → Value) (hV : ∀ j, V j = z) : Blk (w.alloc (.cells (madeCells #[z] n) t)) w.heap.size t n V := by
  refine ⟨_, heap_alloc_new w _, by rw [← Array.length_toList, toList_madeCells_one, List.length_replicate], fun j hj => ?_⟩
  rw [hV, ← Array.getElem?_toList, toList_madeCells_one, List.getElem?_replicate, if_pos hj]
/-- make of n values that take one cell. -/
theorem make_one (T t : TypeId) (z : Value) (b : Nat) (hu : Try.prog.underlying T = some (.slice t)) (hi : (Try.prog.info? t).map (fun i => (i.zero, i.size, i.bytes)) = some (some z, 1, b)) (hz : z.cells = #[z]) (hb : b ≤ 64) (n : Nat) (hn : n ≤ 4096) (w : World) :
    (Instr.makeSlice T (.int .i64 (n : Int)) (.int .i64 (n : Int))).run Try.prog w = .ok (.slice (some ⟨w.heap.size, 0, none⟩) n n) (w.alloc (.cells (madeCells #[z] n) t)) := by
  obtain ⟨i, hi, hz0, hz1, hz2⟩ := info_parts hi
  have hbn : b * n ≤ 64 * 4096 := Nat.mul_le_mul hb hn
  have h := run_make w T t i z hu hi hz0 .i64 .i64 (n : Int) (n : Int) (by omega) (by omega) (by rw [hz2]; omega) (by omega)
  rw [hz1, hz] at h
  simpa using h
theorem make_rows (n : Nat) (hn : n ≤ 4096) (w : World) : (Instr.makeSlice 52 (.int .i64 (n : Int)) (.int .i64 (n : Int))).run Try.prog w = .ok (.slice (some ⟨w.heap.size, 0, none⟩) n n) (w.alloc (.cells (madeCells #[.slice none 0 0] n) 71)) :=
  make_one _ _ _ 24 Try.underlying52 (by kernel_rfl) rfl (by omega) n hn w
theorem make_ints (n : Nat) (hn : n ≤ 4096) (w : World) : (Instr.makeSlice 27 (.int .i64 (n : Int)) (.int .i64 (n : Int))).run Try.prog w = .ok (.slice (some ⟨w.heap.size, 0, none⟩) n n) (w.alloc (.cells (madeCells #[.int .i64 0] n) 3)) :=
  make_one _ _ _ 8 Try.underlying27 (by kernel_rfl) rfl (by omega) n hn w

/-- Block g: for each node a row of its own. -/
structure XsO (w : World) (g N B : Nat) (X : Nat → List Ed) (val : Nat → Value) : Prop where
  gB : g < B
  blk : Blk w g 71 N val
  own : ∀ v, v < N → OwnA 73 w B (val v) (X v)
  dis : ∀ u v, u < N → v < N → u ≠ v → (val u).ownBlock = none ∨ (val u).ownBlock ≠ (val v).ownBlock
theorem XsO.below {w w' : World} {g N B : Nat} {X : Nat → List Ed} {val : Nat → Value} (h : XsO w g N B X val) (hb : Below w.heap.size w w') : XsO w' g N B X val :=
  ⟨h.gB, h.blk.below hb, fun v hv => (h.own v hv).below hb, h.dis⟩
theorem XsO.step {w w4 : World} {g N B q : Nat} {X X' : Nat → List Ed} {val : Nat → Value} {v4 : Value} (h : XsO w g N B X val) (hq : q < N) (hO : OwnA 73 w4 B v4 (X' q)) (hg : w.grownBy w4 (val q).ownBlock)
    (hat : v4.ownBlock = (val q).ownBlock ∨ v4.ownBlock = some w.heap.size) (hX : ∀ v, v < N → v ≠ q → X' v = X v) : XsO (w4.setCell ⟨g, q, none⟩ v4) g N B X' (fun v => if v = q then v4 else val v) := by
  have hgB := h.gB
  have hgq : ¬ (val q).ownBlock = some g := fun e => by have := (h.own q hq).ge g e; omega
  have k1 : Keep (fun k => (val q).ownBlock = some k) w w4 := Keep.ofGrown hg (fun k e => e)
  have k2 : Keep (fun k => k = g) w4 (w4.setCell ⟨g, q, none⟩ v4) := (Keep.refl _ _).set _ _ rfl
  refine ⟨hgB, (h.blk.keep k1 hgq).set v4 hq (fun j _ => rfl), fun v hv => ?_, fun u v hu hv huv => ?_⟩
  · by_cases e : v = q
    · subst e
      show OwnA _ _ B (if v = v then v4 else val v) _
      rw [if_pos rfl]
      exact hO.keep k2 (fun k hk e => by have := hO.ge k hk; omega)
    · show OwnA _ _ B (if v = q then v4 else val v) _
      rw [if_neg e, hX v hv e]
      refine ((h.own v hv).kept hg (h.dis v q hv hq e)).keep k2 (fun k hk e2 => ?_)
      have := (h.own v hv).ge k hk
      omega
  · show (if u = q then v4 else val u).ownBlock = none ∨ (if u = q then v4 else val u).ownBlock ≠ (if v = q then v4 else val v).ownBlock
    have hlt : ∀ u, u < N → ∀ k, (val u).ownBlock = some k → k < w.heap.size := fun u hu k hk => ((h.own u hu).ge k hk).2
    by_cases e1 : u = q
    · subst e1
      rw [if_pos rfl, if_neg (fun e => huv e.symm)]
      rcases hat with e | e
      · rw [e]; exact h.dis u v hu hv huv
      · right; rw [e]; intro e2; have := hlt v hv _ e2.symm; omega
    · rw [if_neg e1]
      by_cases e2 : v = q
      · subst e2
        rw [if_pos rfl]
        rcases hat with e | e
        · rw [e]; exact h.dis u v hu hv huv
        · right; rw [e]; intro e2; have := hlt u hu _ e2; omega
      · rw [if_neg e2]; exact h.dis u v hu hv huv
/-- .. to be read. -/
def XsR (w : World) (g N : Nat) (X : Nat → List Ed) : Prop := g < w.heap.size ∧ ∀ v, v < N → ∃ A cap, w.cell? ⟨g, v, none⟩ = some (.slice A (X v).length cap) ∧ EdR w A (X v)
theorem XsR.below {w w' : World} {g N : Nat} {X : Nat → List Ed} (h : XsR w g N X) (hb : Below w.heap.size w w') : XsR w' g N X := by
  refine ⟨Nat.lt_of_lt_of_le h.1 hb.size, fun v hv => ?_⟩
  obtain ⟨A, cap, h1, h2⟩ := h.2 v hv
  exact ⟨A, cap, by rw [hb.cell (p := ⟨g, v, none⟩) h.1]; exact h1, h2.below hb⟩
theorem XsO.read {w : World} {g N B : Nat} {X : Nat → List Ed} {val : Nat → Value} (h : XsO w g N B X val) : XsR w g N X := by
  refine ⟨h.blk.lt, fun v hv => ?_⟩
  obtain ⟨A, cap, e, _, h2, _⟩ := (h.own v hv).form
  exact ⟨A, cap, by rw [h.blk.cell hv, e], h2⟩
end Go.Proofs.Ythomklpaafnjhaa
