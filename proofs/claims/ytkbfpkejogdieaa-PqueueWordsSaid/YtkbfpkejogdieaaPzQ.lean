/-
  Rows of strings in memory. Condition: as each says.
-/
import Derived.Test.YtkbfpkejogdieaaPzP
import Derived.Test.YtkbfpkejogdieaaPqQ
namespace Go.Proofs.Ytkbfpkejogdieaa
open Go.RowKit
set_option linter.unusedVariables false

theorem StR.keep {S : Nat → Prop} {w w' : World} {A : Option Addr} {l : List ByteArray} (h : StR w A l) (hb : Keep S w w') (hS : ∀ a, A = some a → ¬ S a.block) : StR w' A l := fun hl => by
  obtain ⟨b, o, rfl, hlt, hc⟩ := h hl
  refine ⟨b, o, rfl, Nat.lt_of_lt_of_le hlt hb.size, fun k hk => ?_⟩
  rw [hb.cell (p := ⟨b, o + k, none⟩) hlt (hS ⟨b, o, none⟩ rfl)]
  exact hc k hk
theorem StR.below {w w' : World} {A : Option Addr} {l : List ByteArray} (h : StR w A l) (hb : Below w.heap.size w w') : StR w' A l := h.keep (Keep.ofBelow (S := fun _ => False) hb) (fun _ _ e => e)
/-- A row of strings that the call owns. -/
def OwnS (w : World) (base : Nat) (v : Value) (l : List ByteArray) : Prop := w.ownsRow base 9 1 v l.length (l.map Value.string)
theorem OwnS.nil (w : World) (base : Nat) : OwnS w base (.slice none 0 0) [] := World.ownsRow_nil _ _ _ _
theorem OwnS.keep {w w' : World} {base : Nat} {v : Value} {l : List ByteArray} {S : Nat → Prop} (h : OwnS w base v l) (hb : Keep S w w') (hS : ∀ g, v.ownBlock = some g → ¬ S g) : OwnS w' base v l := by
  have hlt := World.ownsRow.lt h
  obtain ⟨h1, h2⟩ := h
  refine ⟨h1, ?_⟩
  rcases h2 with h2 | ⟨g, cap, cur, hv, hg, hh, r⟩
  · exact Or.inl h2
  · subst hv
    exact Or.inr ⟨g, cap, cur, rfl, hg, (hb.block g (hlt g rfl).2 (hS g rfl)).trans hh, r⟩
theorem OwnS.ge {w : World} {base : Nat} {v : Value} {l : List ByteArray} (h : OwnS w base v l) : ∀ k, v.ownBlock = some k → base ≤ k ∧ k < w.heap.size := fun k hk => World.ownsRow.lt h k hk
theorem OwnS.alloc {w : World} {base : Nat} {v : Value} {l : List ByteArray} (h : OwnS w base v l) (o : Obj) : OwnS (w.alloc o) base v l := World.ownsRow.alloc h o
theorem OwnS.form {w : World} {base : Nat} {v : Value} {l : List ByteArray} (h : OwnS w base v l) : ∃ A cap, v = .slice A l.length cap ∧ StR w A l ∧ (∀ a, A = some a → v.ownBlock = some a.block) := by
  have h0 : w.ownsRow base 9 1 v l.length (l.map Value.string) := h
  have hlt := World.ownsRow.lt h
  obtain ⟨_, h⟩ := h
  rcases h with ⟨rfl, h2⟩ | ⟨g, cap, cur, rfl, hb, hg, hn, hm, hs, ht⟩
  · exact ⟨none, 0, by rw [h2], fun hh => by omega, fun a ha => by cases ha⟩
  · refine ⟨some ⟨g, 0, none⟩, cap, rfl, fun _ => ⟨g, 0, rfl, (hlt g rfl).2, fun k hk => ?_⟩, fun a ha => by cases ha; rfl⟩
    rw [Nat.zero_add, h0.cellAt k (by omega)]
    simp [hk]
theorem info_str : (Try.prog.info? 9).map (fun i => (i.zero, i.size, i.bytes)) = some (some (.string ⟨#[]⟩), 1, 16) := by kernel_rfl
theorem wpList_append_str {w : World} {ops : Array Oper} {rest : List Oper} {o : Oper} {a : Act} {Q : Exit → Act → World → Prop} (hgd : o.guard = none) (s x : Operand)
    (ho : o.op = .call { callee := .builtin .append, args := #[s, x], argTypes := #[49, 49] })
    (base : Nat) (v : Value) (N : List ByteArray) (hs : a.eval s = v) (hown : OwnS w base v N) (blk c : Nat) (t : ByteArray) (hx : a.eval x = .slice (some ⟨blk, 0, none⟩) 1 c)
    (h0 : w.cell? ⟨blk, 0, none⟩ = some (.string t)) (hlen : N.length ≤ 100000) (hbase : base ≤ w.heap.size)
    (h : ∀ v' w', Hid (OwnS w' base v' (N ++ [t])) → Hid (w.grownBy w' v.ownBlock) → wpList Try.prog ops Q rest (a.put o.dst v') w') : wpList Try.prog ops Q (o :: rest) a w := by
  obtain ⟨ii, hii, hz0, hz1, hz2⟩ := info_parts info_str
  refine wpList_append_own_at w hgd s x 49 ho base 9 ii (.string ⟨#[]⟩) 1 16 Try.underlying49 hii hz0 hz1 hz2 rfl (by decide) v N.length (N.map Value.string) hs hown ⟨blk, 0, none⟩ 1 c [.string t] hx rfl
    (fun j u hj => ?_) (fun u hu => ?_) (by unfold maxLen; omega) (by omega) hbase (fun v' w' ho' hg _ hat => h v' w' ?_ hg)
  · match j, hj with
    | 0, hj => simp at hj; subst hj; exact h0
  · simp at hu
    subst hu
    rfl
  · show w'.ownsRow base 9 1 v' (N ++ [t]).length ((N ++ [t]).map Value.string)
    rw [List.map_append, List.length_append]
    exact ho'
theorem new_w (w : World) :
    Calls Try.prog 24 #[.func (.func 25) #[] #[]] w fun e w' => ∃ b S, e = .returned (.pointer (some ⟨b, 0, none⟩)) ∧ QRZ w' b S false 0 [] ∧ (∀ k, S k → w.heap.size ≤ k) ∧ Below w.heap.size w w' := new_z false w
/-- What the inner loop knows behind the first i words: a longer word, and the least such. -/
def Lst (l : List ByteArray) (s i : Nat) (some_ : Bool) (least : Nat) : Prop :=
  (some_ = true → s < least ∧ (∃ j, j < i ∧ (l.getD j ByteArray.empty).size = least) ∧ ∀ j, j < i → s < (l.getD j ByteArray.empty).size → least ≤ (l.getD j ByteArray.empty).size) ∧
  (some_ = false → ∀ j, j < i → (l.getD j ByteArray.empty).size ≤ s)
theorem Lst.zero (l : List ByteArray) (s : Nat) : Lst l s 0 false 0 := ⟨fun e => (by cases e), fun _ j hj => absurd hj (Nat.not_lt_zero j)⟩
theorem Lst.skip {l : List ByteArray} {s i least : Nat} {q : Bool} (h : Lst l s i q least) (hx : (l.getD i ByteArray.empty).size ≤ s ∨ (q = true ∧ least ≤ (l.getD i ByteArray.empty).size)) : Lst l s (i + 1) q least := by
  refine ⟨fun e => ?_, fun e j hj => ?_⟩
  · obtain ⟨h1, ⟨j, h2, h3⟩, h4⟩ := h.1 e
    refine ⟨h1, ⟨j, by omega, h3⟩, fun j hj hs => ?_⟩
    by_cases c : j = i
    · subst c
      rcases hx with hx | hx
      · omega
      · exact hx.2
    · exact h4 j (by omega) hs
  · by_cases c : j = i
    · subst c
      rcases hx with hx | hx
      · exact hx
      · rw [e] at hx; exact absurd hx.1 (by decide)
    · exact h.2 e j (by omega)
theorem Lst.take {l : List ByteArray} {s i least : Nat} {q : Bool} (h : Lst l s i q least) (hs : s < (l.getD i ByteArray.empty).size) (hx : q = false ∨ (l.getD i ByteArray.empty).size < least) : Lst l s (i + 1) true (l.getD i ByteArray.empty).size := by
  refine ⟨fun _ => ⟨hs, ⟨i, by omega, rfl⟩, fun j hj hj2 => ?_⟩, fun e => by cases e⟩
  by_cases c : j = i
  · subst c; exact Nat.le_refl _
  · rcases hx with hx | hx
    · have := h.2 hx j (by omega); omega
    · cases q with
      | false => have := h.2 rfl j (by omega); omega
      | true => have := (h.1 rfl).2.2 j (by omega) hj2; omega
theorem mem_getD {l : List ByteArray} {x : ByteArray} (h : x ∈ l) : ∃ j, j < l.length ∧ l.getD j ByteArray.empty = x := by
  obtain ⟨j, hj, rfl⟩ := List.getElem_of_mem h
  exact ⟨j, hj, by simp [hj]⟩
theorem Lst.next {l : List ByteArray} {s least : Nat} (h : Lst l s l.length true least) : cl l (s + 1) = cl l least := by
  obtain ⟨h1, _, h3⟩ := h.1 rfl
  refine cl_jump l (s + 1) least (fun x hx hs => ?_) (by omega)
  obtain ⟨j, hj, rfl⟩ := mem_getD hx
  exact h3 j hj (by omega)
theorem Lst.last {l : List ByteArray} {s least : Nat} (h : Lst l s l.length false least) : cl l (s + 1) = l.length := by
  refine cl_all l (s + 1) fun x hx => ?_
  obtain ⟨j, hj, rfl⟩ := mem_getD hx
  have := h.2 rfl j hj
  omega
theorem str_eq' (s : ByteArray) : (s.toList == s.toList) = true := beq_self_eq_true _
end Go.Proofs.Ytkbfpkejogdieaa
