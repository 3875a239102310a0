/-
  Plain facts of the queue's work on a network: exits, what is known between two rounds, its end. No program is named here. No condition.
-/
import Derived.Test.YthomklpaafnjhaaRdPlain
namespace Go.Proofs.Ythomklpaafnjhaa
open Go.RowKit
set_option linter.unusedVariables false

/-- The exits of node v among the first n edges. -/
def exT (l : List Ed) (v : Int) (n : Nat) : List Ed := (List.range n).filterMap fun i => if (l.getD i ed0).f = v then some ⟨(i : Int), (l.getD i ed0).t, (l.getD i ed0).s⟩ else none
theorem exT_zero (l : List Ed) (v : Int) : exT l v 0 = [] := rfl
theorem exT_hit (l : List Ed) (n : Nat) : exT l (l.getD n ed0).f (n + 1) = exT l (l.getD n ed0).f n ++ [⟨(n : Int), (l.getD n ed0).t, (l.getD n ed0).s⟩] := by
  unfold exT; rw [List.range_succ, List.filterMap_append]; simp
theorem exT_miss (l : List Ed) (v : Int) (n : Nat) (h : (l.getD n ed0).f ≠ v) : exT l v (n + 1) = exT l v n := by
  unfold exT
  rw [List.range_succ, List.filterMap_append, List.filterMap_cons, if_neg h]
  simp
theorem exT_mem {l : List Ed} {v : Int} {n : Nat} {x : Ed} : x ∈ exT l v n ↔ ∃ i, i < n ∧ (l.getD i ed0).f = v ∧ x = ⟨(i : Int), (l.getD i ed0).t, (l.getD i ed0).s⟩ := by
  unfold exT
  rw [List.mem_filterMap]
  constructor
  · rintro ⟨i, h1, h2⟩
    split at h2
    · rename_i e; exact ⟨i, List.mem_range.1 h1, e, (Option.some.inj h2).symm⟩
    · cases h2
  · rintro ⟨i, h1, h2, rfl⟩
    exact ⟨i, List.mem_range.2 h1, by rw [if_pos h2]⟩
theorem exT_length (l : List Ed) (v : Int) : ∀ n, (exT l v n).length ≤ n := by
  intro n
  induction n with
  | zero => exact Nat.le_refl _
  | succ n ih =>
    by_cases h : (l.getD n ed0).f = v
    · subst h; rw [exT_hit, List.length_append, List.length_singleton]; omega
    · rw [exT_miss l v n h]; omega

/-- The edges of a network of N nodes. -/
def OkL (N : Nat) (l : List Ed) : Prop := ∀ i, i < l.length → 0 ≤ (l.getD i ed0).f ∧ (l.getD i ed0).f < (N : Int) ∧ 0 ≤ (l.getD i ed0).t ∧ (l.getD i ed0).t < (N : Int) ∧ 1 ≤ (l.getD i ed0).s ∧ (l.getD i ed0).s ≤ 1000
theorem mem_arcs {l : List Ed} {a : Arc} : a ∈ arcs l ↔ ∃ i, i < l.length ∧ a = arc (l.getD i ed0) := by
  unfold arcs
  rw [List.mem_map]
  constructor
  · rintro ⟨e, h, rfl⟩
    obtain ⟨i, hi, rfl⟩ := List.mem_iff_getElem.1 h
    exact ⟨i, hi, by simp [hi]⟩
  · rintro ⟨i, hi, rfl⟩
    exact ⟨l.getD i ed0, by simp [hi], rfl⟩
theorem OkL.net {N : Nat} {l : List Ed} (h : OkL N l) : Net N (arcs l) := fun u v w e => by
  obtain ⟨i, hi, e⟩ := mem_arcs.1 e
  obtain ⟨h1, h2, h3, h4, h5, h6⟩ := h i hi
  unfold arc at e
  simp only [Prod.mk.injEq] at e
  obtain ⟨rfl, rfl, rfl⟩ := e
  omega
theorem arc_at {l : List Ed} {i : Nat} (hi : i < l.length) : ((l.getD i ed0).f.toNat, (l.getD i ed0).t.toNat, (l.getD i ed0).s.toNat) ∈ arcs l := mem_arcs.2 ⟨i, hi, rfl⟩

/-- The exits pushed, one by one, on a queue; n: the length as far as the node. -/
def pushX (n : Nat) (V : List It) (xs : List Ed) : List It := xs.foldl (fun V x => insR (kI false) (x.t, up1 n x.s.toNat) V) V
theorem pushX_snoc (n : Nat) (V : List It) (xs : List Ed) (x : Ed) : pushX n V (xs ++ [x]) = insR (kI false) (x.t, up1 n x.s.toNat) (pushX n V xs) := by
  unfold pushX; rw [List.foldl_append]; rfl
theorem insR_mem {x y : It} {l : List It} : y ∈ insR (kI false) x l ↔ y = x ∨ y ∈ l := by
  rw [(insR_perm x l).mem_iff, List.mem_cons]
theorem pushX_mem (n : Nat) (y : It) : ∀ (xs : List Ed) (V : List It), y ∈ pushX n V xs ↔ y ∈ V ∨ ∃ x ∈ xs, y = (x.t, up1 n x.s.toNat) := by
  intro xs
  unfold pushX
  induction xs with
  | nil => intro V; simp
  | cons x xs ih =>
    intro V
    rw [List.foldl_cons, ih, insR_mem]
    simp only [List.mem_cons]
    constructor
    · rintro ((h | h) | ⟨z, h1, h2⟩)
      · exact Or.inr ⟨x, Or.inl rfl, h⟩
      · exact Or.inl h
      · exact Or.inr ⟨z, Or.inr h1, h2⟩
    · rintro (h | ⟨z, rfl | h1, h2⟩)
      · exact Or.inl (Or.inr h)
      · exact Or.inl (Or.inl h2)
      · exact Or.inr ⟨z, h1, h2⟩
theorem pushX_length (n : Nat) : ∀ (xs : List Ed) (V : List It), (pushX n V xs).length = V.length + xs.length := by
  intro xs
  unfold pushX
  induction xs with
  | nil => intro V; rfl
  | cons x xs ih => intro V; rw [List.foldl_cons, ih, insR_length, List.length_cons]; omega
/-- The shortest ones first. -/
def SrtV (V : List It) : Prop := V.Pairwise fun x y => x.2 ≤ y.2
theorem SrtV.ins {V : List It} (h : SrtV V) (x : It) : SrtV (insR (kI false) x V) := by
  unfold SrtV at *
  induction V with
  | nil => exact List.pairwise_singleton _ _
  | cons y V ih =>
    obtain ⟨h1, h2⟩ := List.pairwise_cons.1 h
    unfold insR
    split
    · rename_i hc
      have hc' : x.2 < y.2 := by unfold kI at hc; omega
      refine List.pairwise_cons.2 ⟨fun z hz => ?_, h⟩
      rcases List.mem_cons.1 hz with rfl | hz
      · omega
      · have := h1 z hz; omega
    · rename_i hc
      have hc' : y.2 ≤ x.2 := by unfold kI at hc; omega
      refine List.pairwise_cons.2 ⟨fun z hz => ?_, ih h2⟩
      rcases insR_mem.1 hz with rfl | hz
      · exact hc'
      · exact h1 z hz
theorem srt_pushX (n : Nat) : ∀ (xs : List Ed) (V : List It), SrtV V → SrtV (pushX n V xs) := by
  intro xs
  unfold pushX
  induction xs with
  | nil => intro V h; exact h
  | cons x xs ih => intro V h; exact ih _ (h.ins _)

/-- What is known between two rounds: L has the nodes that are done, V is in the queue. -/
structure Dj (l : List Ed) (N a : Nat) (D L : Nat → Option Nat) (V : List It) : Prop where
  set : ∀ v n, L v = some n → D v = some n
  way : ∀ x ∈ V, 0 ≤ x.1 ∧ ∃ s k, Wk (arcs l) a x.1.toNat s k ∧ x.2 = ln s k ∧ k ≤ N
  start : L a = none → ((a : Int), 0) ∈ V
  out : ∀ u v w n, (u, v, w) ∈ arcs l → L u = some n → L v = none → ((v : Int), up1 n w) ∈ V
  srt : SrtV V
theorem Dj.begin (l : List Ed) (N a : Nat) (D : Nat → Option Nat) : Dj l N a D (fun _ => none) [((a : Int), 0)] where
  set := fun v n h => by cases h
  way := fun x hx => by
    obtain rfl := List.mem_singleton.1 hx
    exact ⟨by simp, 0, 0, by simpa using Wk.nil, rfl, Nat.zero_le _⟩
  start := fun _ => List.mem_singleton.2 rfl
  out := fun u v w n _ h => by cases h
  srt := List.pairwise_singleton _ _
theorem Dj.cover {l : List Ed} {N a : Nat} {D L : Nat → Option Nat} {V : List It} (H : Dj l N a D L V) (hD : Ds (arcs l) a D) {z s k : Nat} (h : Wk (arcs l) a z s k) :
    (∃ n, L z = some n ∧ n ≤ ln s k) ∨ ∃ x ∈ V, x.2 ≤ ln s k := by
  induction h with
  | nil =>
    cases hL : L a with
    | none => exact Or.inr ⟨_, H.start hL, Nat.zero_le _⟩
    | some n =>
      have h1 := hD a
      rw [H.set a n hL] at h1
      have := h1.unique (IsD.self _ a)
      cases this
      exact Or.inl ⟨0, rfl, Nat.zero_le _⟩
  | @snoc u z w s k h e ih =>
    have hle : ln s k ≤ ln (s + w) (k + 1) := by unfold ln; omega
    rcases ih with ⟨n, h1, h2⟩ | ⟨x, h1, h2⟩
    · cases hL : L z with
      | some m =>
        have h3 := hD z
        rw [H.set z m hL] at h3
        exact Or.inl ⟨m, rfl, h3.2 _ _ (Wk.snoc h e)⟩
      | none => exact Or.inr ⟨_, H.out u z w n e h1 hL, by show up1 n w ≤ _; rw [← up1_ln]; unfold up1; omega⟩
    · exact Or.inr ⟨x, h1, by omega⟩
theorem Dj.skip {l : List Ed} {N a : Nat} {D L : Nat → Option Nat} {x : It} {V : List It} (H : Dj l N a D L (x :: V)) {n0 : Nat} (h : L x.1.toNat = some n0) : Dj l N a D L V where
  set := H.set
  way := fun y hy => H.way y (List.mem_cons_of_mem _ hy)
  start := fun h0 => by
    rcases List.mem_cons.1 (H.start h0) with e | e
    · rw [← e] at h; simp [h0] at h
    · exact e
  out := fun u v w n he hu hv => by
    rcases List.mem_cons.1 (H.out u v w n he hu hv) with e | e
    · rw [← e] at h; simp [hv] at h
    · exact e
  srt := (List.pairwise_cons.1 H.srt).2
theorem Dj.settle {l : List Ed} {N a : Nat} {D L : Nat → Option Nat} {x : It} {V : List It} (H : Dj l N a D L (x :: V)) (hD : Ds (arcs l) a D) (h : L x.1.toNat = none) : D x.1.toNat = some x.2 := by
  obtain ⟨_, s, k, h1, h2, _⟩ := H.way x List.mem_cons_self
  have h3 := hD x.1.toNat
  cases hd : D x.1.toNat with
  | none => rw [hd] at h3; exact absurd h1 (h3 s k)
  | some m =>
    rw [hd] at h3
    have h4 := h3.2 _ _ h1
    obtain ⟨⟨s', k', h5, h6⟩, _⟩ := h3
    rcases H.cover hD h5 with ⟨n, h7, _⟩ | ⟨y, h7, h8⟩
    · rw [h] at h7; cases h7
    · have h9 : x.2 ≤ y.2 := by
        rcases List.mem_cons.1 h7 with rfl | h7
        · exact Nat.le_refl _
        · exact (List.pairwise_cons.1 H.srt).1 y h7
      congr 1; omega
theorem Dj.next {l : List Ed} {N a : Nat} {D L : Nat → Option Nat} {x : It} {V : List It} (H : Dj l N a D L (x :: V)) (hN : OkL N l) (ha : a < N) (hD : Ds (arcs l) a D) (h : L x.1.toNat = none) :
    Dj l N a D (upd L x.1.toNat (some x.2)) (pushX x.2 V (exT l x.1 l.length)) := by
  have hs := H.settle hD h
  have hx := (H.way x List.mem_cons_self).1
  have h3 := hD x.1.toNat
  rw [hs] at h3
  obtain ⟨s, k, h1, h2, h4, _⟩ := h3.form hN.net ha
  refine ⟨fun v n hv => ?_, fun y hy => ?_, fun h0 => ?_, fun u v w n he hu hv => ?_, srt_pushX _ _ _ (List.pairwise_cons.1 H.srt).2⟩
  · unfold upd at hv
    split at hv
    · rename_i e; subst e; rw [hs]; exact hv
    · exact H.set v n hv
  · rcases (pushX_mem _ _ _ _).1 hy with hy | ⟨e, he, rfl⟩
    · exact H.way y (List.mem_cons_of_mem _ hy)
    · obtain ⟨i, hi, e1, rfl⟩ := exT_mem.1 he
      have hb := hN i hi
      refine ⟨hb.2.2.1, s + (l.getD i ed0).s.toNat, k + 1, ?_, ?_, by omega⟩
      · exact Wk.snoc h1 (by rw [← e1]; exact arc_at hi)
      · rw [h2, up1_ln]
  · unfold upd at h0
    split at h0
    · cases h0
    · rename_i hne
      rcases List.mem_cons.1 (H.start h0) with e | e
      · rw [← e] at hne; simp at hne
      · exact (pushX_mem _ _ _ _).2 (Or.inl e)
  · unfold upd at hu hv
    split at hv
    · cases hv
    · rename_i hne
      split at hu
      · rename_i e; subst e
        cases hu
        refine (pushX_mem _ _ _ _).2 (Or.inr ?_)
        obtain ⟨i, hi, e⟩ := mem_arcs.1 he
        have hb := hN i hi
        unfold arc at e
        simp only [Prod.mk.injEq] at e
        obtain ⟨e1, e2, e3⟩ := e
        refine ⟨_, exT_mem.2 ⟨i, hi, by omega, rfl⟩, ?_⟩
        rw [e2, e3]
        simp only [Prod.mk.injEq, and_true]
        omega
      · rcases List.mem_cons.1 (H.out u v w n he hu hv) with e | e
        · rw [← e] at hne; simp at hne
        · exact (pushX_mem _ _ _ _).2 (Or.inl e)
theorem Dj.done {l : List Ed} {N a : Nat} {D L : Nat → Option Nat} (H : Dj l N a D L []) (hD : Ds (arcs l) a D) : L = D := by
  funext v
  cases hL : L v with
  | some n => exact (H.set v n hL).symm
  | none =>
    cases hd : D v with
    | none => rfl
    | some m =>
      have h3 := hD v
      rw [hd] at h3
      obtain ⟨⟨s, k, h1, _⟩, _⟩ := h3
      rcases H.cover hD h1 with ⟨n, h7, _⟩ | ⟨y, h7, _⟩
      · rw [hL] at h7; cases h7
      · cases h7
/-- How many of the first n edges begin at a node that is not done. -/
def unT (l : List Ed) (L : Nat → Option Nat) : Nat → Nat
  | 0 => 0
  | n + 1 => unT l L n + if L (l.getD n ed0).f.toNat = none then 1 else 0
theorem unT_le (l : List Ed) (L : Nat → Option Nat) : ∀ n, unT l L n ≤ n := by
  intro n
  induction n with
  | zero => exact Nat.le_refl _
  | succ n ih => unfold unT; split <;> omega
theorem unT_next {l : List Ed} {N : Nat} (hN : OkL N l) {L : Nat → Option Nat} {v : Int} (hv : 0 ≤ v) (h : L v.toNat = none) (p : Nat) : ∀ n, n ≤ l.length → unT l (upd L v.toNat (some p)) n + (exT l v n).length = unT l L n := by
  intro n
  induction n with
  | zero => intro _; rfl
  | succ n ih =>
    intro hn
    have ih := ih (by omega)
    have hb := hN n (by omega)
    unfold unT
    by_cases e : (l.getD n ed0).f = v
    · have e2 : exT l v (n + 1) = exT l v n ++ [⟨(n : Int), (l.getD n ed0).t, (l.getD n ed0).s⟩] := by rw [← e]; exact exT_hit l n
      rw [e2, List.length_append, e, if_pos h]
      rw [if_neg (by unfold upd; rw [if_pos rfl]; simp)]
      simp only [List.length_cons, List.length_nil]
      omega
    · rw [exT_miss l v n e]
      have e2 : (l.getD n ed0).f.toNat ≠ v.toNat := by omega
      have e3 : upd L v.toNat (some p) (l.getD n ed0).f.toNat = L (l.getD n ed0).f.toNat := if_neg e2
      rw [e3]
      omega
/-- Bounds of what is in the queue. -/
theorem Dj.bound {l : List Ed} {N a : Nat} {D L : Nat → Option Nat} {V : List It} (H : Dj l N a D L V) (hN : OkL N l) (ha : a < N) {x : It} (hx : x ∈ V) : 0 ≤ x.1 ∧ x.1 < (N : Int) := by
  obtain ⟨h0, s, k, h1, _⟩ := H.way x hx
  have := h1.node hN.net ha
  omega
/-- The two numbers of a least length, and of it with one more edge. -/
theorem dist_bound {l : List Ed} {N a v n : Nat} {D : Nat → Option Nat} (hN : OkL N l) (hN64 : N ≤ 64) (ha : a < N) (hD : Ds (arcs l) a D) (h : D v = some n) :
    0 ≤ xS n ∧ xS n ≤ 63000 ∧ 0 ≤ xE n ∧ xE n ≤ 63 ∧ ∀ w, w ≤ 1000 → xS (up1 n w) = xS n + (w : Int) ∧ xE (up1 n w) = xE n + 1 := by
  have h3 := hD v
  rw [h] at h3
  obtain ⟨s, k, h1, rfl, h4, h5⟩ := h3.form hN.net ha
  rw [ln_S (by omega), ln_E (by omega)]
  refine ⟨by omega, by omega, by omega, by omega, fun w hw => ?_⟩
  rw [up1_ln, ln_S (by omega), ln_E (by omega)]
  omega
end Go.Proofs.Ythomklpaafnjhaa
