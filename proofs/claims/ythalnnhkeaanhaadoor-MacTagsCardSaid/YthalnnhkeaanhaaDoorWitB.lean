/-
  Rows of bytes and of integers in memory, and append onto them. Condition: as each says.
-/
import Derived.Test.YthalnnhkeaanhaaDoorWitA
import Derived.Deep.AppendSrc
import Derived.Deep.Upon
import Derived.Deep.Onto
import Derived.Laws.OwnMore
import Derived.Maps.AppendAt
import Derived.Lib.AppendStr
import Derived.Laws.IdiomStrings
import Derived.Laws.BytesArg
import Derived.ArgAppend
namespace Go.Proofs.YthalnnhkeaanhaaDoor
open Go.RowKit Go.Maps
set_option linter.unusedVariables false

/-- A slice at address A reads as the values vs. -/
def VsR (w : World) (A : Option Addr) (vs : List Value) : Prop := 0 < vs.length → ∃ b o, A = some ⟨b, o, none⟩ ∧ b < w.heap.size ∧
  ∀ k v, vs[k]? = some v → w.cell? ⟨b, o + k, none⟩ = some v
theorem VsR.below {w w' : World} {A : Option Addr} {vs : List Value} (h : VsR w A vs) (hb : Below w.heap.size w w') : VsR w' A vs := fun hl => by
  obtain ⟨b, o, rfl, hlt, hc⟩ := h hl
  refine ⟨b, o, rfl, Nat.lt_of_lt_of_le hlt hb.size, fun k v hk => ?_⟩
  rw [hb.cell (p := ⟨b, o + k, none⟩) hlt]
  exact hc k v hk
theorem VsR.nil (w : World) (A : Option Addr) : VsR w A [] := fun h => absurd h (Nat.lt_irrefl _)
theorem Below.step {a b c : World} (h : Below a.heap.size a b) (k : Below b.heap.size b c) : Below a.heap.size a c := h.trans (k.mono h.size)
theorem Below.drewN {B : Nat} {a w : World} (h : Below B a w) (n : Nat) : Below B a (w.drewN n) := ⟨h.os, h.tape, h.output, h.size, h.block⟩
def bc (c : UInt8) : Value := .int .u8 (c.toNat : Int)
def ic (n : Int) : Value := .int .i64 n
def BytR (w : World) (A : Option Addr) (l : List UInt8) : Prop := VsR w A (l.map bc)
def IntR (w : World) (A : Option Addr) (l : List Int) : Prop := VsR w A (l.map ic)
def WideI (l : List Int) : Prop := ∀ k, k < l.length → -9223372036854775808 ≤ l.getD k 0 ∧ l.getD k 0 ≤ 9223372036854775807
theorem BytR.below {w w' : World} {A : Option Addr} {l : List UInt8} (h : BytR w A l) (hb : Below w.heap.size w w') : BytR w' A l := VsR.below h hb
theorem IntR.below {w w' : World} {A : Option Addr} {l : List Int} (h : IntR w A l) (hb : Below w.heap.size w w') : IntR w' A l := VsR.below h hb
theorem BytR.at {w : World} {A : Option Addr} {l : List UInt8} (h : BytR w A l) (h0 : 0 < l.length) : ∃ b o, A = some ⟨b, o, none⟩ ∧ b < w.heap.size ∧
    ∀ k, k < l.length → w.cell? ⟨b, o + k, none⟩ = some (.int .u8 ((l.getD k 0).toNat : Int)) := by
  obtain ⟨b, o, rfl, hlt, hc⟩ := h (by simpa using h0)
  refine ⟨b, o, rfl, hlt, fun k hk => hc k _ ?_⟩
  simp [hk, bc]
theorem IntR.at {w : World} {A : Option Addr} {l : List Int} (h : IntR w A l) (h0 : 0 < l.length) : ∃ b o, A = some ⟨b, o, none⟩ ∧ b < w.heap.size ∧
    ∀ k, k < l.length → w.cell? ⟨b, o + k, none⟩ = some (.int .i64 (l.getD k 0)) := by
  obtain ⟨b, o, rfl, hlt, hc⟩ := h (by simpa using h0)
  refine ⟨b, o, rfl, hlt, fun k hk => hc k _ ?_⟩
  simp [hk, ic]

/-- A row of bytes (of integers) that the call owns. -/
def OwnB (w : World) (base : Nat) (v : Value) (l : List UInt8) : Prop := w.ownsRow base 5 1 v l.length (l.map bc)
def OwnI (w : World) (base : Nat) (v : Value) (l : List Int) : Prop := w.ownsRow base 3 1 v l.length (l.map ic)
theorem OwnB.nil (w : World) (base : Nat) : OwnB w base (.slice none 0 0) [] := World.ownsRow_nil _ _ _ _
theorem OwnI.nil (w : World) (base : Nat) : OwnI w base (.slice none 0 0) [] := World.ownsRow_nil _ _ _ _
theorem ownsRow_below {w w' : World} {base B : Nat} {e : TypeId} {v : Value} {n : Nat} {xs : List Value} (h : w.ownsRow base e 1 v n xs) (hb : Below B w w') (hB : ∀ g, v.ownBlock = some g → g < B) : w'.ownsRow base e 1 v n xs := by
  obtain ⟨h1, h2⟩ := h
  refine ⟨h1, ?_⟩
  rcases h2 with h2 | ⟨g, cap, cur, hv, hg, hh, r⟩
  · exact Or.inl h2
  · subst hv
    exact Or.inr ⟨g, cap, cur, rfl, hg, (hb.block g (hB g rfl)).trans hh, r⟩
theorem OwnB.below {w w' : World} {base : Nat} {v : Value} {l : List UInt8} (h : OwnB w base v l) (hb : Below w.heap.size w w') : OwnB w' base v l := ownsRow_below h hb (fun g hg => (World.ownsRow.lt h g hg).2)
theorem OwnI.below {w w' : World} {base : Nat} {v : Value} {l : List Int} (h : OwnI w base v l) (hb : Below w.heap.size w w') : OwnI w' base v l := ownsRow_below h hb (fun g hg => (World.ownsRow.lt h g hg).2)
theorem OwnB.alloc {w : World} {base : Nat} {v : Value} {l : List UInt8} (h : OwnB w base v l) (o : Obj) : OwnB (w.alloc o) base v l := World.ownsRow.alloc h o
theorem OwnI.alloc {w : World} {base : Nat} {v : Value} {l : List Int} (h : OwnI w base v l) (o : Obj) : OwnI (w.alloc o) base v l := World.ownsRow.alloc h o
theorem OwnB.mono {w : World} {base base' : Nat} {v : Value} {l : List UInt8} (h : OwnB w base v l) (hb : base' ≤ base) : OwnB w base' v l := World.ownsRow.mono h hb
theorem OwnI.mono {w : World} {base base' : Nat} {v : Value} {l : List Int} (h : OwnI w base v l) (hb : base' ≤ base) : OwnI w base' v l := World.ownsRow.mono h hb
theorem ownsRow_vs {w : World} {base : Nat} {e : TypeId} {v : Value} {n : Nat} {xs : List Value} (h : w.ownsRow base e 1 v n xs) : ∃ A cap, v = .slice A n cap ∧ n ≤ cap ∧ VsR w A xs := by
  have h0 := h
  have hlt := World.ownsRow.lt h
  obtain ⟨hx, h⟩ := h
  rcases h with ⟨rfl, h2⟩ | ⟨g, cap, cur, rfl, hb, hg, hn, hm, hs, ht⟩
  · exact ⟨none, 0, by rw [h2], by omega, fun hh => by rw [hx] at hh; omega⟩
  · refine ⟨some ⟨g, 0, none⟩, cap, rfl, hn, fun _ => ⟨g, 0, rfl, (hlt g rfl).2, fun k u hk => ?_⟩⟩
    have hk2 : k < n * 1 := by
      have := (List.getElem?_eq_some_iff.1 hk).1
      omega
    rw [Nat.zero_add, h0.cellAt k hk2, hk]
theorem OwnB.form {w : World} {base : Nat} {v : Value} {l : List UInt8} (h : OwnB w base v l) : ∃ A cap, v = .slice A l.length cap ∧ l.length ≤ cap ∧ BytR w A l := ownsRow_vs h
theorem OwnI.form {w : World} {base : Nat} {v : Value} {l : List Int} (h : OwnI w base v l) : ∃ A cap, v = .slice A l.length cap ∧ l.length ≤ cap ∧ IntR w A l := ownsRow_vs h

theorem info_u8 : (Tryd.prog.info? 5).map (fun i => (i.zero, i.size, i.bytes)) = some (some (.int .u8 0), 1, 1) := by kernel_rfl
theorem info_int : (Tryd.prog.info? 3).map (fun i => (i.zero, i.size, i.bytes)) = some (some (.int .i64 0), 1, 8) := by kernel_rfl
theorem one_bc (l : List UInt8) : ∀ u ∈ l.map bc, u.oneCell' = true := fun u hu => by
  obtain ⟨s, _, rfl⟩ := List.mem_map.1 hu
  rfl
theorem one_ic (l : List Int) : ∀ u ∈ l.map ic, u.oneCell' = true := fun u hu => by
  obtain ⟨s, _, rfl⟩ := List.mem_map.1 hu
  rfl

/-- append of what a slice holds, nil or not, onto an own row. -/
theorem run_append_vs (w : World) (t ty e : TypeId) (i : TypeInfo) (z : Value) (bytes : Nat) (ht : Tryd.prog.underlying t = some (.slice e)) (hi : Tryd.prog.info? e = some i) (hz : i.zero = some z) (hsize : i.size = 1) (hby : i.bytes = bytes) (hzs : z.cells.size = 1)
    (base : Nat) (v : Value) (n : Nat) (xs ys : List Value) (hown : w.ownsRow base e 1 v n xs) (A : Option Addr) (m c : Nat) (hm : ys.length = m) (hr : VsR w A ys) (h1 : ∀ u ∈ ys, u.oneCell' = true)
    (h63 : n + m ≤ maxLen) (hbytes : (n + m) * bytes ≤ 140737488355328) (hbase : base ≤ w.heap.size) :
    ∃ v' w', (Builtin.append_ #[t, t] ty #[v, .slice A m c]).run Tryd.prog w = .ok v' w' ∧ w'.ownsRow base e 1 v' (n + m) (xs ++ ys) ∧ Below base w w' := by
  by_cases h0 : m = 0
  · subst h0
    obtain rfl : ys = [] := List.eq_nil_of_length_eq_zero hm
    obtain ⟨B, cap, rfl, hcap, _⟩ := ownsRow_vs hown
    refine ⟨_, w, ?_, by simpa using hown, Below.refl _ _⟩
    have hsrc : Src Tryd.prog i.size t (.slice A 0 c) 0 [] w := by
      cases A with
      | none => exact Src.ofNil w ht c
      | some a => exact Src.ofSlice w ht a 0 c [] (by simp) (fun j u hj => by simp at hj) (fun u hu => by cases hu)
    exact run_append_nothing w t t ty e i ht hi B n cap hcap (.slice A 0 c) hsrc
  · obtain ⟨b, o, rfl, hlt, hc⟩ := hr (by omega)
    obtain ⟨v', w', hrun, h2, h3, _, _⟩ := run_append_own_at (P := Tryd.prog) w base t ty e i z 1 bytes ht hi hz hsize hby hzs (by decide) v n xs hown ⟨b, o, none⟩ m c ys (by omega) (fun j u hj => by rw [Addr.add_lit]; exact hc j u hj) h1 h63 hbytes hbase
    exact ⟨v', w', hrun, h2, (Below.refl base w).grown h3 hbase (fun k hk => (World.ownsRow.lt hown k hk).1)⟩

theorem wpList_append_bytes {w : World} {ops : Array Oper} {rest : List Oper} {o : Oper} {a : Act} {Q : Exit → Act → World → Prop} (hgd : o.guard = none) (s x : Operand)
    (ho : o.op = .call { callee := .builtin .append, args := #[s, x], argTypes := #[25, 25] })
    (base : Nat) (v : Value) (l l2 : List UInt8) (hs : a.eval s = v) (hown : OwnB w base v l) (A : Option Addr) (m c : Nat) (hm : l2.length = m) (hx : a.eval x = .slice A m c) (hr : BytR w A l2)
    (hlen : l.length + m ≤ 1000000) (hbase : base ≤ w.heap.size)
    (h : ∀ v' w', Hid (OwnB w' base v' (l ++ l2)) → Below base w w' → wpList Tryd.prog ops Q rest (a.put o.dst v') w') : wpList Tryd.prog ops Q (o :: rest) a w := by
  obtain ⟨ii, hii, hz0, hz1, hz2⟩ := info_parts info_u8
  refine wpList_plain hgd fun K hK => ?_
  obtain ⟨v', w', hrun, h2, h3⟩ := run_append_vs w 25 o.type 5 ii (.int .u8 0) 1 Tryd.underlying25 hii hz0 hz1 hz2 rfl base v l.length (l.map bc) (l2.map bc) hown A m c (by rw [List.length_map]; exact hm) hr (one_bc l2) (by unfold maxLen; omega) (by omega) hbase
  unfold Oper.wp execOp
  simp only [ho, resolve, invoke, builtin, Sem.run_bind, Sem.run_pure, Result.andThen_ok, List.map_toArray, List.map_cons, List.map_nil, hs, hx, hrun]
  refine hK _ _ (h v' w' ?_ h3)
  show w'.ownsRow base 5 1 v' (l ++ l2).length ((l ++ l2).map bc)
  rw [List.map_append, List.length_append, hm]
  exact h2
theorem wpList_append_int {w : World} {ops : Array Oper} {rest : List Oper} {o : Oper} {a : Act} {Q : Exit → Act → World → Prop} (hgd : o.guard = none) (s x : Operand)
    (ho : o.op = .call { callee := .builtin .append, args := #[s, x], argTypes := #[29, 29] })
    (base : Nat) (v : Value) (l : List Int) (hs : a.eval s = v) (hown : OwnI w base v l) (blk c : Nat) (t : Int) (hx : a.eval x = .slice (some ⟨blk, 0, none⟩) 1 c) (h0 : w.cell? ⟨blk, 0, none⟩ = some (.int .i64 t))
    (hlen : l.length ≤ 100000) (hbase : base ≤ w.heap.size)
    (h : ∀ v' w', Hid (OwnI w' base v' (l ++ [t])) → Below base w w' → wpList Tryd.prog ops Q rest (a.put o.dst v') w') : wpList Tryd.prog ops Q (o :: rest) a w := by
  obtain ⟨ii, hii, hz0, hz1, hz2⟩ := info_parts info_int
  refine wpList_plain hgd fun K hK => ?_
  have hr : VsR w (some ⟨blk, 0, none⟩) [ic t] := fun _ => ⟨blk, 0, rfl, World.block_lt_of_cell? _ _ h0, fun k v hk => by
    match k, hk with
    | 0, hk => simp at hk; subst hk; exact h0⟩
  obtain ⟨v', w', hrun, h2, h3⟩ := run_append_vs w 29 o.type 3 ii (.int .i64 0) 8 Tryd.underlying29 hii hz0 hz1 hz2 rfl base v l.length (l.map ic) [ic t] hown _ 1 c rfl hr (fun u hu => by simp at hu; subst hu; rfl) (by unfold maxLen; omega) (by omega) hbase
  unfold Oper.wp execOp
  simp only [ho, resolve, invoke, builtin, Sem.run_bind, Sem.run_pure, Result.andThen_ok, List.map_toArray, List.map_cons, List.map_nil, hs, hx, hrun]
  refine hK _ _ (h v' w' ?_ h3)
  show w'.ownsRow base 3 1 v' (l ++ [t]).length ((l ++ [t]).map ic)
  rw [List.map_append, List.length_append]
  exact h2
theorem wpList_append_text {w : World} {ops : Array Oper} {rest : List Oper} {o : Oper} {a : Act} {Q : Exit → Act → World → Prop} (hgd : o.guard = none) (s x : Operand)
    (ho : o.op = .call { callee := .builtin .append, args := #[s, x], argTypes := #[25, 9] })
    (base : Nat) (v : Value) (l : List UInt8) (hs : a.eval s = v) (hown : OwnB w base v l) (t : ByteArray) (hx : a.eval x = .string t)
    (hlen : l.length + t.size ≤ 1000000) (hbase : base ≤ w.heap.size)
    (h : ∀ v' w', Hid (OwnB w' base v' (l ++ t.data.toList)) → Below base w w' → wpList Tryd.prog ops Q rest (a.put o.dst v') w') : wpList Tryd.prog ops Q (o :: rest) a w := by
  obtain ⟨ii, hii, hz0, hz1, hz2⟩ := info_parts info_u8
  refine Lib.wpList_append_own_string w hgd s x 25 9 ho base 5 ii Tryd.underlying25 Tryd.underlying9 hii hz0 hz1 hz2 v l.length (l.map bc) hs hown t hx (by unfold maxLen; omega) (by omega) hbase ?_
  intro v' w' ho' hg _
  refine h v' w' ?_ ((Below.refl base w).grown hg hbase (fun k hk => (World.ownsRow.lt hown k hk).1))
  show w'.ownsRow base 5 1 v' (l ++ t.data.toList).length ((l ++ t.data.toList).map bc)
  rw [List.map_append, List.length_append]
  have e : t.data.toList.length = t.size := by rw [Array.length_toList]; rfl
  rw [e]
  exact ho'

/-- A row that the call owns, or a slice without room behind it. -/
def SlotB (w : World) (base : Nat) (v : Value) (l : List UInt8) : Prop := OwnB w base v l ∨ ∃ A, v = .slice A l.length l.length ∧ BytR w A l
theorem SlotB.below {w w' : World} {base : Nat} {v : Value} {l : List UInt8} (h : SlotB w base v l) (hb : Below w.heap.size w w') : SlotB w' base v l := by
  rcases h with h | ⟨A, rfl, h⟩
  · exact Or.inl (h.below hb)
  · exact Or.inr ⟨A, rfl, h.below hb⟩
theorem SlotB.alloc {w : World} {base : Nat} {v : Value} {l : List UInt8} (h : SlotB w base v l) (o : Obj) : SlotB (w.alloc o) base v l := h.below ((Below.refl _ _).alloc (Nat.le_refl _) _)
theorem wpList_append_byte {w : World} {ops : Array Oper} {rest : List Oper} {o : Oper} {a : Act} {Q : Exit → Act → World → Prop} (hgd : o.guard = none) (s x : Operand)
    (ho : o.op = .call { callee := .builtin .append, args := #[s, x], argTypes := #[25, 25] })
    (base : Nat) (v : Value) (l : List UInt8) (hs : a.eval s = v) (hown : SlotB w base v l) (blk c : Nat) (t : UInt8) (hx : a.eval x = .slice (some ⟨blk, 0, none⟩) 1 c) (h0 : w.cell? ⟨blk, 0, none⟩ = some (.int .u8 (t.toNat : Int)))
    (hlen : l.length ≤ 100000) (hbase : base ≤ w.heap.size)
    (h : ∀ v' w', Hid (OwnB w' base v' (l ++ [t])) → Below base w w' → wpList Tryd.prog ops Q rest (a.put o.dst v') w') : wpList Tryd.prog ops Q (o :: rest) a w := by
  obtain ⟨ii, hii, hz0, hz1, hz2⟩ := info_parts info_u8
  have hr : VsR w (some ⟨blk, 0, none⟩) [bc t] := fun _ => ⟨blk, 0, rfl, World.block_lt_of_cell? _ _ h0, fun k v hk => by
    match k, hk with
    | 0, hk => simp at hk; subst hk; exact h0⟩
  have go : ∀ v, a.eval s = v → OwnB w base v l → wpList Tryd.prog ops Q (o :: rest) a w := fun v hs hown => by
    exact wpList_append_bytes hgd s x ho base v l [t] hs hown (some ⟨blk, 0, none⟩) 1 c rfl hx hr (by omega) hbase h
  rcases hown with hown | ⟨A, rfl, hA⟩
  · exact go v hs hown
  · cases A with
    | none =>
      have hl0 : l = [] := by
        rcases Nat.eq_zero_or_pos l.length with h1 | h1
        · exact List.eq_nil_of_length_eq_zero h1
        · obtain ⟨b, o', e, _⟩ := BytR.at hA h1
          cases e
      subst hl0
      exact go _ hs (OwnB.nil w base)
    | some ad =>
      refine wpList_append_grows w hgd s x 25 ho 5 ii (.int .u8 0) 1 1 Tryd.underlying25 hii hz0 hz1 hz2 rfl (by decide) (some ad) l.length l.length (l.map bc) hs (fun e => by cases e) (by simp)
        (fun b hb j u hj => ?_) ⟨blk, 0, none⟩ 1 c [bc t] hx rfl (fun j u hj => ?_) (fun u hu => by simp at hu; subst hu; rfl) (by omega) (by unfold maxLen; omega) (by omega) (fun v' w' ho' hg => h v' w' ?_ ?_)
      · injection hb with hb
        subst hb
        have hj2 := (List.getElem?_eq_some_iff.1 hj).1
        obtain ⟨b, o', e, _, hc⟩ := hA (by omega)
        injection e with e
        subst e
        rw [Addr.add_lit]
        exact hc j u hj
      · rw [Addr.add_lit]
        match j, hj with
        | 0, hj => simp at hj; subst hj; exact h0
      · show w'.ownsRow base 5 1 v' (l ++ [t]).length ((l ++ [t]).map bc)
        rw [List.map_append, List.length_append]
        exact World.ownsRow.mono ho' hbase
      · exact (Below.refl base w).grown hg hbase (fun k hk => by cases hk)

/-- string(b). -/
theorem run_string_of (w : World) (A : Option Addr) (l : List UInt8) (m c : Nat) (hm : l.length = m) (h : BytR w A l) : (convert 25 9 (.slice A m c)).run Tryd.prog w = .ok (.string ⟨l.toArray⟩) w := by
  subst hm
  cases A with
  | none =>
    have hl0 : l = [] := by
      rcases Nat.eq_zero_or_pos l.length with h1 | h1
      · exact List.eq_nil_of_length_eq_zero h1
      · obtain ⟨b, o', e, _⟩ := BytR.at h h1
        cases e
    subst hl0
    exact run_convert_bytes_nil w 25 5 Tryd.underlying25 Tryd.underlying5 0 c 9 Tryd.underlying9
  | some ad =>
    refine run_convert_bytes_back w 25 9 5 ad c l Tryd.underlying25 Tryd.underlying5 Tryd.underlying9 fun j hj => ?_
    obtain ⟨b, o', e, _, hc⟩ := h (by simp; omega)
    injection e with e
    subst e
    rw [Addr.add_lit]
    exact hc j _ (by simp [hj, bc])
/-- A part of a slice. -/
theorem BytR.part {w : World} {b o : Nat} {l : List UInt8} (h : BytR w (some ⟨b, o, none⟩) l) (i n : Nat) : BytR w (some ⟨b, o + i, none⟩) ((l.drop i).take n) := fun hl => by
  have hl2 : i < l.length := by
    simp at hl
    omega
  obtain ⟨b', o', e, hlt, hc⟩ := h (by simp; omega)
  injection e with e
  injection e with e1 e2 e3
  subst e1 e2
  refine ⟨b, o + i, rfl, hlt, fun k v hk => ?_⟩
  rw [Nat.add_assoc]
  refine hc (i + k) v ?_
  have hk2 := (List.getElem?_eq_some_iff.1 hk).1
  simp at hk2
  rw [← hk, List.getElem?_map, List.getElem?_map, List.getElem?_take_of_lt (by omega), List.getElem?_drop]
end Go.Proofs.YthalnnhkeaanhaaDoor
