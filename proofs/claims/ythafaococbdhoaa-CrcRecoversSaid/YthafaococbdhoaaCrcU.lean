/-
  Two rows built side by side by append; plain facts of the ends of frames. Condition: as each says.
-/
import Derived.Test.YthafaococbdhoaaCrcT
namespace Go.Proofs.Ythafaococbdhoaa
open Go.RowKit Go.Maps
set_option linter.unusedVariables false

theorem kinds_ne {w w' : World} {base base2 : Nat} {e e2 : TypeId} {v u : Value} {n n2 : Nat} {xs ys : List Value} (h : w.ownsRow base e 1 v n xs) (h2 : w.ownsRow base2 e2 1 u n2 ys) (hne : e2 ≠ e) (hg : w.grownBy w' v.ownBlock) : w'.ownsRow base2 e2 1 u n2 ys := by
  refine World.ownsRow.kept h2 hg ?_
  rcases hub : u.ownBlock with _ | g
  · exact Or.inl rfl
  · refine Or.inr fun e => ?_
    obtain ⟨c1, f1, k1⟩ := Lib.ownsRow_kind h2 g hub
    obtain ⟨c2, f2, k2⟩ := Lib.ownsRow_kind h g e.symm
    rw [k1] at k2
    injection k2 with k2
    injection k2 with _ k2
    exact hne k2
theorem run_append_vsG (w : World) (t ty e : TypeId) (i : TypeInfo) (z : Value) (bytes : Nat) (ht : Try.prog.underlying t = some (.slice e)) (hi : Try.prog.info? e = some i) (hz : i.zero = some z) (hsize : i.size = 1) (hby : i.bytes = bytes) (hzs : z.cells.size = 1)
    (base : Nat) (v : Value) (n : Nat) (xs ys : List Value) (hown : w.ownsRow base e 1 v n xs) (A : Option Addr) (m c : Nat) (hm : ys.length = m) (hr : VsR w A ys) (h1 : ∀ u ∈ ys, u.oneCell' = true)
    (h63 : n + m ≤ maxLen) (hbytes : (n + m) * bytes ≤ 140737488355328) (hbase : base ≤ w.heap.size) :
    ∃ v' w', (Builtin.append_ #[t, t] ty #[v, .slice A m c]).run Try.prog w = .ok v' w' ∧ w'.ownsRow base e 1 v' (n + m) (xs ++ ys) ∧ w.grownBy w' v.ownBlock := by
  by_cases h0 : m = 0
  · subst h0
    obtain rfl : ys = [] := List.eq_nil_of_length_eq_zero hm
    obtain ⟨B, cap, rfl, hcap, _⟩ := ownsRow_vs hown
    refine ⟨_, w, ?_, by simpa using hown, World.grownBy.refl w _⟩
    have hsrc : Src Try.prog i.size t (.slice A 0 c) 0 [] w := by
      cases A with
      | none => exact Src.ofNil w ht c
      | some a => exact Src.ofSlice w ht a 0 c [] (by simp) (fun j u hj => by simp at hj) (fun u hu => by cases hu)
    exact run_append_nothing w t t ty e i ht hi B n cap hcap (.slice A 0 c) hsrc
  · obtain ⟨b, o, rfl, hlt, hc⟩ := hr (by omega)
    obtain ⟨v', w', hrun, h2, h3, _, _⟩ := run_append_own_at (P := Try.prog) w base t ty e i z 1 bytes ht hi hz hsize hby hzs (by decide) v n xs hown ⟨b, o, none⟩ m c ys (by omega) (fun j u hj => by rw [Addr.add_lit]; exact hc j u hj) h1 h63 hbytes hbase
    exact ⟨v', w', hrun, h2, h3⟩
theorem wpList_append_bytesI {w : World} {ops : Array Oper} {rest : List Oper} {o : Oper} {a : Act} {Q : Exit → Act → World → Prop} (hgd : o.guard = none) (s x : Operand)
    (ho : o.op = .call { callee := .builtin .append, args := #[s, x], argTypes := #[22, 22] })
    (base : Nat) (v : Value) (l l2 : List UInt8) (hs : a.eval s = v) (hown : OwnB w base v l) (A : Option Addr) (m c : Nat) (hm : l2.length = m) (hx : a.eval x = .slice A m c) (hr : BytR w A l2) (u : Value) (L : List Int) (hu : OwnI w base u L)
    (hlen : l.length + m ≤ 1000000) (hbase : base ≤ w.heap.size)
    (h : ∀ v' w', Hid (OwnB w' base v' (l ++ l2)) → Hid (OwnI w' base u L) → Below base w w' → wpList Try.prog ops Q rest (a.put o.dst v') w') : wpList Try.prog ops Q (o :: rest) a w := by
  obtain ⟨ii, hii, hz0, hz1, hz2⟩ := info_parts info_u8
  refine wpList_plain hgd fun K hK => ?_
  obtain ⟨v', w', hrun, h2, h3⟩ := run_append_vsG w 22 o.type 5 ii (.int .u8 0) 1 Try.underlying22 hii hz0 hz1 hz2 rfl base v l.length (l.map bc) (l2.map bc) hown A m c (by rw [List.length_map]; exact hm) hr (one_bc l2) (by unfold maxLen; omega) (by omega) hbase
  unfold Oper.wp execOp
  simp only [ho, resolve, invoke, builtin, Sem.run_bind, Sem.run_pure, Result.andThen_ok, List.map_toArray, List.map_cons, List.map_nil, hs, hx, hrun]
  refine hK _ _ (h v' w' ?_ (kinds_ne hown hu (by decide) h3) ((Below.refl base w).grown h3 hbase (fun k hk => (World.ownsRow.lt hown k hk).1)))
  show w'.ownsRow base 5 1 v' (l ++ l2).length ((l ++ l2).map bc)
  rw [List.map_append, List.length_append, hm]
  exact h2
theorem wpList_append_intB {w : World} {ops : Array Oper} {rest : List Oper} {o : Oper} {a : Act} {Q : Exit → Act → World → Prop} (hgd : o.guard = none) (s x : Operand)
    (ho : o.op = .call { callee := .builtin .append, args := #[s, x], argTypes := #[37, 37] })
    (base : Nat) (v : Value) (l : List Int) (hs : a.eval s = v) (hown : OwnI w base v l) (blk c : Nat) (t : Int) (hx : a.eval x = .slice (some ⟨blk, 0, none⟩) 1 c) (h0 : w.cell? ⟨blk, 0, none⟩ = some (.int .i64 t)) (u : Value) (L : List UInt8) (hu : OwnB w base u L)
    (hlen : l.length ≤ 100000) (hbase : base ≤ w.heap.size)
    (h : ∀ v' w', Hid (OwnI w' base v' (l ++ [t])) → Hid (OwnB w' base u L) → Below base w w' → wpList Try.prog ops Q rest (a.put o.dst v') w') : wpList Try.prog ops Q (o :: rest) a w := by
  obtain ⟨ii, hii, hz0, hz1, hz2⟩ := info_parts info_int
  refine wpList_plain hgd fun K hK => ?_
  have hr : VsR w (some ⟨blk, 0, none⟩) [ic t] := fun _ => ⟨blk, 0, rfl, World.block_lt_of_cell? _ _ h0, fun k v hk => by
    match k, hk with
    | 0, hk => simp at hk; subst hk; exact h0⟩
  obtain ⟨v', w', hrun, h2, h3⟩ := run_append_vsG w 37 o.type 3 ii (.int .i64 0) 8 Try.underlying37 hii hz0 hz1 hz2 rfl base v l.length (l.map ic) [ic t] hown _ 1 c rfl hr (fun u hu => by simp at hu; subst hu; rfl) (by unfold maxLen; omega) (by omega) hbase
  unfold Oper.wp execOp
  simp only [ho, resolve, invoke, builtin, Sem.run_bind, Sem.run_pure, Result.andThen_ok, List.map_toArray, List.map_cons, List.map_nil, hs, hx, hrun]
  refine hK _ _ (h v' w' ?_ (kinds_ne hown hu (by decide) h3) ((Below.refl base w).grown h3 hbase (fun k hk => (World.ownsRow.lt hown k hk).1)))
  show w'.ownsRow base 3 1 v' (l ++ [t]).length ((l ++ [t]).map ic)
  rw [List.map_append, List.length_append]
  exact h2

theorem BytR.pre' {w : World} {A : Option Addr} {l : List UInt8} (h : BytR w A l) (n : Nat) : BytR w A (l.take n) := fun hl => by
  have hl2 : 0 < l.length := by
    simp at hl
    omega
  obtain ⟨b, o, rfl, hlt, hc⟩ := h (by simpa using hl2)
  refine ⟨b, o, rfl, hlt, fun k v hk => ?_⟩
  have hk2 := (List.getElem?_eq_some_iff.1 hk).1
  simp at hk2
  refine hc k v ?_
  rw [← hk, List.getElem?_map, List.getElem?_map, List.getElem?_take_of_lt (by omega)]
/-- The lengths of the contents, added up. -/
def tot : List (List UInt8) → Nat
  | [] => 0
  | C :: L => C.length + tot L
theorem tot_append : ∀ (L M : List (List UInt8)), tot (L ++ M) = tot L + tot M
  | [], M => by rw [List.nil_append, tot, Nat.zero_add]
  | C :: L, M => by rw [List.cons_append, tot, tot_append L M, tot, Nat.add_assoc]
theorem take_snocL (L : List (List UInt8)) (k : Nat) (h : k < L.length) : L.take (k + 1) = L.take k ++ [L.getD k []] := by
  rw [List.take_succ_eq_append_getElem h]
  simp [h]
theorem tot_take {L : List (List UInt8)} {k : Nat} (h : k < L.length) : tot (L.take (k + 1)) = tot (L.take k) + (L.getD k []).length := by
  rw [take_snocL L k h, tot_append, tot, tot, Nat.add_zero]
theorem frs_take {L : List (List UInt8)} {k : Nat} (h : k < L.length) : frs (L.take (k + 1)) = frs (L.take k) ++ fr (L.getD k []) := by
  rw [take_snocL L k h, frs_snoc]
theorem tot_mem : ∀ {L : List (List UInt8)} {C : List UInt8}, C ∈ L → C.length ≤ tot L
  | D :: L, C, h => by
    rw [tot]
    rcases List.mem_cons.1 h with rfl | h
    · omega
    · have := tot_mem h
      omega
theorem tot_get (L : List (List UInt8)) (k : Nat) : (L.getD k []).length ≤ tot L := by
  by_cases h : k < L.length
  · have e : L.getD k [] = L[k] := by simp [h]
    rw [e]
    exact tot_mem (List.getElem_mem h)
  · have e : L.getD k [] = [] := by
      simp only [List.getD]
      rw [List.getElem?_eq_none (by omega)]
      rfl
    rw [e]
    simp
theorem tot_take_le : ∀ (L : List (List UInt8)) (k : Nat), tot (L.take k) ≤ tot L
  | [], k => by simp
  | C :: L, 0 => by simp [tot]
  | C :: L, k + 1 => by
    have := tot_take_le L k
    rw [List.take_succ_cons, tot, tot]
    omega
theorem frs_len : ∀ (L : List (List UInt8)), tot L ≤ 1000000 → (frs L).length ≤ tot L + 14 * L.length
  | [], _ => by simp [frs]
  | C :: L, h => by
    rw [tot] at h
    have h1 := frs_len L (by omega)
    have h2 := enc_ten (n := (C.length : Int)) (by omega) (by omega)
    rw [frs, List.length_append, fr_len, tot, List.length_cons]
    omega
theorem frs_take_le (L : List (List UInt8)) (k : Nat) : (frs (L.take k)).length ≤ (frs L).length := by
  have h : frs L = frs (L.take k) ++ frs (L.drop k) := by rw [← frs_append, List.take_append_drop]
  rw [h, List.length_append]
  omega
/-- The ends of the frames. -/
def ends (L : List (List UInt8)) (k : Nat) : List Int := (List.range k).map fun i => ((frs (L.take (i + 1))).length : Int)
theorem ends_len (L : List (List UInt8)) (k : Nat) : (ends L k).length = k := by simp [ends]
theorem ends_snoc (L : List (List UInt8)) (k : Nat) : ends L (k + 1) = ends L k ++ [((frs (L.take (k + 1))).length : Int)] := by
  unfold ends
  rw [List.range_succ, List.map_append]
  rfl
theorem ends_get (L : List (List UInt8)) {k i : Nat} (h : i < k) : (ends L k).getD i 0 = ((frs (L.take (i + 1))).length : Int) := by
  unfold ends
  simp [h]
end Go.Proofs.Ythafaococbdhoaa
