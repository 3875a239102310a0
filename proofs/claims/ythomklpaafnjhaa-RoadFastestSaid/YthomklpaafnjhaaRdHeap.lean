/-
  Plain facts of priority queues: the order of values with positions, heaps, sorted lists. No program is named here. No condition.
-/
import Derived.Test.YthomklpaafnjhaaProg
import Derived.WalkKit
import Derived.Lib.Hide
namespace Go.Proofs.Ythomklpaafnjhaa
open Go.RowKit
set_option linter.unusedVariables false

/-- One value with its position leaves before another one; k is the order's key. -/
def ltE {α : Type} (k : α → Int) (a b : α × Nat) : Prop := k a.1 < k b.1 ∨ (k a.1 = k b.1 ∧ a.2 < b.2)
def bfE {α : Type} (k : α → Int) (a b : α × Nat) : Bool := if a.2 < b.2 then !decide (k b.1 < k a.1) else decide (k a.1 < k b.1)
theorem bfE_iff {α : Type} {k : α → Int} {a b : α × Nat} : bfE k a b = true ↔ ltE k a b := by
  unfold bfE ltE
  split
  · rw [Bool.not_eq_true', decide_eq_false_iff_not]; omega
  · rw [decide_eq_true_iff]; omega
theorem bfE_not {α : Type} {k : α → Int} {a b : α × Nat} : bfE k a b = false ↔ ¬ ltE k a b := by
  rw [← bfE_iff]; simp
theorem ltE_asymm {α : Type} {k : α → Int} {a b : α × Nat} (h : ltE k a b) : ¬ ltE k b a := by
  unfold ltE at *; omega
theorem ltE_trans {α : Type} {k : α → Int} {a b c : α × Nat} (h : ltE k a b) (h2 : ltE k b c) : ltE k a c := by
  unfold ltE at *; omega
theorem geE_trans {α : Type} {k : α → Int} {a b c : α × Nat} (h : ¬ ltE k a b) (h2 : ¬ ltE k b c) : ¬ ltE k a c := by
  unfold ltE at *; omega
theorem geE_lt {α : Type} {k : α → Int} {a b c : α × Nat} (h : ¬ ltE k a b) (h2 : ltE k c b) : ¬ ltE k a c := by
  unfold ltE at *; omega
theorem ltE_irrefl {α : Type} {k : α → Int} (a : α × Nat) : ¬ ltE k a a := by
  unfold ltE; omega

/-- Two places exchanged. -/
def swp {β : Type} (h : Nat → β) (i j : Nat) : Nat → β := fun t => if t = i then h j else if t = j then h i else h t
theorem swp_l {β : Type} (h : Nat → β) (i j : Nat) : swp h i j i = h j := if_pos rfl
theorem swp_r {β : Type} (h : Nat → β) (i j : Nat) : swp h i j j = h i := by
  unfold swp
  split
  · rename_i e; rw [e]
  · exact if_pos rfl
theorem swp_o {β : Type} (h : Nat → β) {i j t : Nat} (hi : t ≠ i) (hj : t ≠ j) : swp h i j t = h t := by
  unfold swp; rw [if_neg hi, if_neg hj]
def tr (i j t : Nat) : Nat := if t = i then j else if t = j then i else t
theorem tr_tr (i j t : Nat) : tr i j (tr i j t) = t := by
  unfold tr; repeat' split
  all_goals omega
theorem tr_lt {i j n t : Nat} (hi : i < n) (hj : j < n) (ht : t < n) : tr i j t < n := by
  unfold tr; repeat' split
  all_goals omega
/-- What lies in the first n places. -/
def lst {β : Type} (h : Nat → β) (n : Nat) : List β := (List.range n).map h
theorem lst_succ {β : Type} (h : Nat → β) (n : Nat) : lst h (n + 1) = lst h n ++ [h n] := by
  unfold lst; rw [List.range_succ, List.map_append]; rfl
theorem lst_same {β : Type} {h h' : Nat → β} {n : Nat} (e : ∀ t, t < n → h t = h' t) : lst h n = lst h' n :=
  List.map_congr_left fun t ht => e t (List.mem_range.1 ht)
theorem lst_mem {β : Type} {h : Nat → β} {n : Nat} {x : β} : x ∈ lst h n ↔ ∃ t, t < n ∧ h t = x := by
  unfold lst; simp
theorem lst_length {β : Type} (h : Nat → β) (n : Nat) : (lst h n).length = n := by
  unfold lst; simp
theorem lst_swp {β : Type} (h : Nat → β) {i j n : Nat} (hi : i < n) (hj : j < n) : (lst (swp h i j) n).Perm (lst h n) := by
  have e : swp h i j = h ∘ tr i j := by
    funext t
    show swp h i j t = h (tr i j t)
    unfold swp tr
    split
    · rfl
    · split <;> rfl
  unfold lst
  rw [e, ← List.map_map]
  refine List.Perm.map h ?_
  have n1 : ((List.range n).map (tr i j)).Nodup := by
    unfold List.Nodup
    rw [List.pairwise_map]
    refine List.Pairwise.imp ?_ (List.nodup_range (n := n))
    intro a b hab e
    refine hab ?_
    rw [← tr_tr i j a, e, tr_tr]
  refine (List.perm_ext_iff_of_nodup n1 List.nodup_range).2 fun a => ?_
  rw [List.mem_map, List.mem_range]
  constructor
  · rintro ⟨t, ht, rfl⟩; exact tr_lt hi hj (List.mem_range.1 ht)
  · exact fun ha => ⟨tr i j a, List.mem_range.2 (tr_lt hi hj ha), tr_tr i j a⟩

section
variable {α : Type} (k : α → Int)
/-- No value leaves before its parent. -/
def Heap (h : Nat → α × Nat) (n : Nat) : Prop := ∀ i, 0 < i → i < n → ¬ ltE k (h i) (h ((i - 1) / 2))
/-- .. but at one place, which may have to rise. -/
def Up (h : Nat → α × Nat) (n at' : Nat) : Prop := (∀ i, 0 < i → i < n → i ≠ at' → ¬ ltE k (h i) (h ((i - 1) / 2))) ∧
  (0 < at' → ∀ i, 0 < i → i < n → (i - 1) / 2 = at' → ¬ ltE k (h i) (h ((at' - 1) / 2)))
/-- .. but at one place, which may have to sink. -/
def Down (h : Nat → α × Nat) (n at' : Nat) : Prop := (∀ i, 0 < i → i < n → (i - 1) / 2 ≠ at' → ¬ ltE k (h i) (h ((i - 1) / 2))) ∧
  (0 < at' → ∀ i, 0 < i → i < n → (i - 1) / 2 = at' → ¬ ltE k (h i) (h ((at' - 1) / 2)))
variable {k}
theorem Heap.root {h : Nat → α × Nat} {n : Nat} (H : Heap k h n) : ∀ i, i < n → ¬ ltE k (h i) (h 0) := by
  intro i
  induction i using Nat.strongRecOn with
  | ind i ih =>
    intro hi
    rcases Nat.eq_zero_or_pos i with rfl | h0
    · exact ltE_irrefl _
    · exact geE_trans (H i h0 hi) (ih ((i - 1) / 2) (by omega) (by omega))
theorem Up.start {h : Nat → α × Nat} {n : Nat} (H : Heap k h n) {h' : Nat → α × Nat} (e : ∀ t, t < n → h' t = h t) : Up k h' (n + 1) n := by
  refine ⟨fun i h0 hi hne => ?_, fun _ i h0 hi hp => by omega⟩
  rw [e i (by omega), e _ (by omega)]
  exact H i h0 (by omega)
theorem Up.step {h : Nat → α × Nat} {n a p : Nat} (H : Up k h n a) (ha : 0 < a) (hn : a < n) (hp : p = (a - 1) / 2) (hl : ltE k (h a) (h p)) : Up k (swp h a p) n p := by
  obtain ⟨H1, H2⟩ := H
  have hpa : p < a := by omega
  refine ⟨fun i h0 hi hne => ?_, fun hp0 i h0 hi hpi => ?_⟩
  · by_cases e1 : i = a
    · subst e1
      rw [swp_l, ← hp, swp_r]
      exact ltE_asymm hl
    · rw [swp_o h e1 hne]
      by_cases e2 : (i - 1) / 2 = a
      · rw [e2, swp_l, hp]
        exact H2 ha i h0 hi e2
      · by_cases e3 : (i - 1) / 2 = p
        · rw [e3, swp_r]
          have := H1 i h0 hi e1
          rw [e3] at this
          exact geE_lt this hl
        · rw [swp_o h e2 e3]
          exact H1 i h0 hi e1
  · rw [swp_o h (show (p - 1) / 2 ≠ a by omega) (show (p - 1) / 2 ≠ p by omega)]
    by_cases e1 : i = a
    · subst e1
      rw [swp_l]
      exact H1 p hp0 (by omega) (by omega)
    · rw [swp_o h e1 (show i ≠ p by omega)]
      have h1 := H1 i h0 hi e1
      rw [hpi] at h1
      exact geE_trans h1 (H1 p hp0 (by omega) (by omega))
theorem Up.stop {h : Nat → α × Nat} {n a : Nat} (H : Up k h n a) (e : a = 0 ∨ ¬ ltE k (h a) (h ((a - 1) / 2))) : Heap k h n := fun i h0 hi => by
  by_cases hia : i = a
  · subst hia
    rcases e with e | e
    · omega
    · exact e
  · exact H.1 i h0 hi hia
theorem Down.start {h : Nat → α × Nat} {m : Nat} (H : Heap k h (m + 1)) {h' : Nat → α × Nat} (e : ∀ t, 0 < t → t < m → h' t = h t) : Down k h' m 0 := by
  refine ⟨fun i h0 hi hne => ?_, fun h0 => absurd h0 (Nat.lt_irrefl 0)⟩
  rw [e i h0 hi, e _ (by omega) (by omega)]
  exact H i h0 (by omega)
theorem Down.step {h : Nat → α × Nat} {n a c : Nat} (H : Down k h n a) (hc0 : 0 < c) (hcn : c < n) (hp : (c - 1) / 2 = a) (hl : ltE k (h c) (h a)) (hs : ∀ i, 0 < i → i < n → (i - 1) / 2 = a → ¬ ltE k (h i) (h c)) : Down k (swp h c a) n c := by
  obtain ⟨H1, H2⟩ := H
  have hpa : a < c := by omega
  refine ⟨fun i h0 hi hne => ?_, fun hp0 i h0 hi hpi => ?_⟩
  · by_cases e1 : i = c
    · subst e1
      rw [swp_l, hp, swp_r]
      exact ltE_asymm hl
    · by_cases e2 : i = a
      · subst e2
        rw [swp_r, swp_o h (show (i - 1) / 2 ≠ c by omega) (show (i - 1) / 2 ≠ i by omega)]
        exact H2 h0 c hc0 hcn hp
      · rw [swp_o h e1 e2]
        by_cases e3 : (i - 1) / 2 = a
        · rw [e3, swp_r]
          exact hs i h0 hi e3
        · rw [swp_o h hne e3]
          exact H1 i h0 hi e3
  · rw [hp, swp_r, swp_o h (show i ≠ c by omega) (show i ≠ a by omega)]
    have := H1 i h0 hi (by omega)
    rwa [hpi] at this
theorem Down.leaf {h : Nat → α × Nat} {n a : Nat} (H : Down k h n a) (e : n ≤ 2 * a + 1) : Heap k h n := fun i h0 hi => H.1 i h0 hi (by omega)
theorem Down.stop {h : Nat → α × Nat} {n a c : Nat} (H : Down k h n a) (hl : ¬ ltE k (h c) (h a)) (hs : ∀ i, 0 < i → i < n → (i - 1) / 2 = a → ¬ ltE k (h i) (h c)) : Heap k h n := fun i h0 hi => by
  by_cases e : (i - 1) / 2 = a
  · rw [e]; exact geE_trans (hs i h0 hi e) hl
  · exact H.1 i h0 hi e
/-- The lesser one of the children. -/
theorem kids_one {h : Nat → α × Nat} {n a c : Nat} (hc : c = 2 * a + 1) (hn : n ≤ c + 1) : ∀ i, 0 < i → i < n → (i - 1) / 2 = a → ¬ ltE k (h i) (h c) := fun i h0 hi e => by
  obtain rfl : i = c := by omega
  exact ltE_irrefl _
theorem kids_left {h : Nat → α × Nat} {n a c : Nat} (hc : c = 2 * a + 1) (hl : ¬ ltE k (h (c + 1)) (h c)) : ∀ i, 0 < i → i < n → (i - 1) / 2 = a → ¬ ltE k (h i) (h c) := fun i h0 hi e => by
  rcases (show i = c ∨ i = c + 1 by omega) with rfl | rfl
  · exact ltE_irrefl _
  · exact hl
theorem kids_right {h : Nat → α × Nat} {n a c : Nat} (hc : c = 2 * a + 1) (hl : ltE k (h (c + 1)) (h c)) : ∀ i, 0 < i → i < n → (i - 1) / 2 = a → ¬ ltE k (h i) (h (c + 1)) := fun i h0 hi e => by
  rcases (show i = c ∨ i = c + 1 by omega) with rfl | rfl
  · exact ltE_asymm hl
  · exact ltE_irrefl _
end

section
variable {α : Type} (k : α → Int)
/-- A value put behind all that do not come later. -/
def insR (x : α) : List α → List α
  | [] => [x]
  | y :: l => if k x < k y then x :: y :: l else y :: insR x l
/-- The values in the sequence in which they leave. -/
def stS (l : List α) : List α := l.foldl (fun V x => insR k x V) []
variable {k}
theorem stS_snoc (l : List α) (x : α) : stS k (l ++ [x]) = insR k x (stS k l) := by
  unfold stS; rw [List.foldl_append]; rfl
theorem insR_perm (x : α) (l : List α) : (insR k x l).Perm (x :: l) := by
  induction l with
  | nil => exact List.Perm.refl _
  | cons y l ih =>
    unfold insR
    split
    · exact List.Perm.refl _
    · exact (ih.cons y).trans (List.Perm.swap x y l)
theorem insR_length (x : α) (l : List α) : (insR k x l).length = l.length + 1 := by
  rw [(insR_perm x l).length_eq]; rfl
theorem stS_perm (l : List α) : (stS k l).Perm l := by
  have : ∀ l V : List α, (l.foldl (fun V x => insR k x V) V).Perm (V ++ l) := fun l => by
    induction l with
    | nil => intro V; simp
    | cons x l ih =>
      intro V
      rw [List.foldl_cons]
      refine (ih _).trans ?_
      refine ((insR_perm x V).append_right l).trans ?_
      exact (List.perm_middle (a := x) (l₁ := V) (l₂ := l)).symm
  exact this l []
theorem stS_length (l : List α) : (stS k l).length = l.length := (stS_perm l).length_eq

/-- What is in a queue: n places h of memory, N values pushed so far, V the values in the sequence in which they leave. -/
def AQ (k : α → Int) (n : Nat) (h : Nat → α × Nat) (N : Nat) (V : List α) : Prop :=
  ∃ S : List (α × Nat), S.map Prod.fst = V ∧ S.Pairwise (ltE k) ∧ S.Perm (lst h n) ∧ Heap k h n ∧ ∀ e ∈ S, e.2 < N
theorem AQ.nil (h : Nat → α × Nat) (N : Nat) : AQ k 0 h N [] := ⟨[], rfl, List.Pairwise.nil, by unfold lst; simp, fun i _ hi => absurd hi (Nat.not_lt_zero i), fun e he => by cases he⟩
theorem AQ.heap {n : Nat} {h : Nat → α × Nat} {N : Nat} {V : List α} (H : AQ k n h N V) : Heap k h n := by
  obtain ⟨_, _, _, _, h, _⟩ := H; exact h
theorem AQ.len {n : Nat} {h : Nat → α × Nat} {N : Nat} {V : List α} (H : AQ k n h N V) : V.length = n := by
  obtain ⟨S, rfl, _, hp, _⟩ := H
  rw [List.length_map, hp.length_eq, lst_length]
theorem insE (x : α) (N : Nat) (S : List (α × Nat)) (hs : S.Pairwise (ltE k)) (hN : ∀ e ∈ S, e.2 < N) :
    ∃ S' : List (α × Nat), S'.map Prod.fst = insR k x (S.map Prod.fst) ∧ S'.Pairwise (ltE k) ∧ S'.Perm ((x, N) :: S) := by
  induction S with
  | nil => exact ⟨[(x, N)], rfl, List.pairwise_singleton _ _, List.Perm.refl _⟩
  | cons e S ih =>
    obtain ⟨h1, h2⟩ := List.pairwise_cons.1 hs
    by_cases hc : k x < k e.1
    · refine ⟨(x, N) :: e :: S, ?_, List.pairwise_cons.2 ⟨fun f hf => ?_, hs⟩, List.Perm.refl _⟩
      · show _ = insR k x (e.1 :: S.map Prod.fst)
        unfold insR; rw [if_pos hc]; rfl
      · have h0 : ltE k (x, N) e := Or.inl hc
        rcases List.mem_cons.1 hf with rfl | hf
        · exact h0
        · exact ltE_trans h0 (h1 f hf)
    · obtain ⟨S', e1, e2, e3⟩ := ih h2 (fun f hf => hN f (List.mem_cons_of_mem _ hf))
      refine ⟨e :: S', ?_, List.pairwise_cons.2 ⟨fun f hf => ?_, e2⟩, (e3.cons e).trans (List.Perm.swap _ _ _)⟩
      · show e.1 :: S'.map Prod.fst = insR k x (e.1 :: S.map Prod.fst)
        rw [show insR k x (e.1 :: S.map Prod.fst) = e.1 :: insR k x (S.map Prod.fst) by rw [insR, if_neg hc], e1]
      · rcases List.mem_cons.1 (e3.mem_iff.1 hf) with rfl | hf
        · have := hN e List.mem_cons_self
          unfold ltE
          show k e.1 < k x ∨ (k e.1 = k x ∧ e.2 < N)
          omega
        · exact h1 f hf
theorem AQ.push {n : Nat} {h h' : Nat → α × Nat} {N : Nat} {V : List α} (H : AQ k n h N V) (x : α) (hh : Heap k h' (n + 1)) (hp : (lst h' (n + 1)).Perm (lst h n ++ [(x, N)])) : AQ k (n + 1) h' (N + 1) (insR k x V) := by
  obtain ⟨S, rfl, h1, h2, h3, h4⟩ := H
  obtain ⟨S', e1, e2, e3⟩ := insE x N S h1 h4
  refine ⟨S', e1, e2, ?_, hh, fun e he => ?_⟩
  · refine e3.trans ((h2.cons (x, N)).trans ?_)
    exact (List.perm_append_singleton (x, N) (lst h n)).symm.trans hp.symm
  · rcases List.mem_cons.1 (e3.mem_iff.1 he) with rfl | he
    · exact Nat.lt_succ_self _
    · exact Nat.lt_succ_of_lt (h4 e he)
/-- The last value laid at the root. -/
theorem lst_drop {β : Type} (h h1 : Nat → β) (m : Nat) (e0 : h1 0 = h m) (e : ∀ t, 0 < t → t < m → h1 t = h t) : (lst h (m + 1)).Perm (h 0 :: lst h1 m) := by
  have p := lst_swp h (show 0 < m + 1 by omega) (show m < m + 1 by omega)
  rw [lst_succ, swp_r] at p
  have q : lst (swp h 0 m) m = lst h1 m := lst_same fun t ht => by
    rcases Nat.eq_zero_or_pos t with rfl | h0
    · rw [swp_l, e0]
    · rw [swp_o h (by omega) (by omega), e t h0 ht]
  rw [q] at p
  exact p.symm.trans (List.perm_append_singleton _ _)
theorem AQ.pop {m : Nat} {h h1 : Nat → α × Nat} {N : Nat} {V : List α} (H : AQ k (m + 1) h N V) (e0 : h1 0 = h m) (e : ∀ t, 0 < t → t < m → h1 t = h t) :
    ∃ V', V = (h 0).1 :: V' ∧ ∀ h', Heap k h' m → (lst h' m).Perm (lst h1 m) → AQ k m h' N V' := by
  obtain ⟨S, rfl, s1, s2, s3, s4⟩ := H
  have hp := s2.trans (lst_drop h h1 m e0 e)
  cases S with
  | nil => exact absurd hp.length_eq (by simp)
  | cons f T =>
    obtain ⟨t1, t2⟩ := List.pairwise_cons.1 s1
    have hf : f = h 0 := by
      have m0 : h 0 ∈ f :: T := hp.mem_iff.2 List.mem_cons_self
      obtain ⟨i, hi, rfl⟩ := lst_mem.1 (s2.mem_iff.1 (List.mem_cons_self (a := f) (l := T)))
      rcases List.mem_cons.1 m0 with h0 | h0
      · exact h0.symm
      · exact absurd (t1 _ h0) (s3.root i hi)
    subst hf
    have hT := List.Perm.cons_inv hp
    exact ⟨T.map Prod.fst, rfl, fun h' hh hl => ⟨T, rfl, t2, hT.trans hl.symm, hh, fun e he => s4 e (List.mem_cons_of_mem _ he)⟩⟩
theorem AQ.first {m : Nat} {h : Nat → α × Nat} {N : Nat} {V : List α} (H : AQ k (m + 1) h N V) : ∃ V', V = (h 0).1 :: V' := by
  obtain ⟨V', e, _⟩ := H.pop (h1 := fun t => if t = 0 then h m else h t) (if_pos rfl) (fun t h0 _ => if_neg (by omega))
  exact ⟨V', e⟩

/-- The first one of the least values among the first n. -/
def fmi (k : α → Int) (f : Nat → α) : Nat → Nat
  | 0 => 0
  | n + 1 => if k (f n) < k (f (fmi k f n)) then n else fmi k f n
theorem fmi_lt (f : Nat → α) : ∀ n, 0 < n → fmi k f n < n
  | 0, h => absurd h (Nat.lt_irrefl 0)
  | 1, _ => by
    unfold fmi; split <;> simp [fmi]
  | n + 2, _ => by
    have := fmi_lt f (n + 1) (by omega)
    rw [fmi]; split <;> omega
theorem fmi_one (f : Nat → α) : fmi k f 1 = 0 := by
  have := fmi_lt (k := k) f 1 (by omega); omega
theorem stS_pop (d : α) (l : List α) : ∀ n, 0 < n → n ≤ l.length →
    stS k (l.take n) = l.getD (fmi k (fun t => l.getD t d) n) d :: stS k ((l.take n).eraseIdx (fmi k (fun t => l.getD t d) n)) := by
  intro n
  induction n with
  | zero => intro h; exact absurd h (Nat.lt_irrefl 0)
  | succ n ih =>
    intro _ hn
    have e : l.take (n + 1) = l.take n ++ [l.getD n d] := by
      rw [List.take_succ_eq_append_getElem (by omega)]
      simp [show n < l.length by omega]
    have hl : (l.take n).length = n := by rw [List.length_take]; omega
    rcases Nat.eq_zero_or_pos n with rfl | h0
    · rw [fmi_one, e]
      simp [stS, insR]
    · have ihn := ih h0 (by omega)
      have hf := fmi_lt (k := k) (fun t => l.getD t d) n h0
      rw [e, stS_snoc, ihn]
      rw [fmi]
      show insR k (l.getD n d) _ = _
      unfold insR
      by_cases hc : k (l.getD n d) < k (l.getD (fmi k (fun t => l.getD t d) n) d)
      · rw [if_pos hc, if_pos hc, ← ihn, List.eraseIdx_append_of_length_le (by omega), hl]
        simp
      · rw [if_neg hc, if_neg hc, List.eraseIdx_append_of_lt_length (by omega), stS_snoc]
theorem stS_pop_all (d : α) (l : List α) (h : 0 < l.length) :
    stS k l = l.getD (fmi k (fun t => l.getD t d) l.length) d :: stS k (l.eraseIdx (fmi k (fun t => l.getD t d) l.length)) := by
  have := stS_pop (k := k) d l l.length h (Nat.le_refl _)
  rwa [List.take_length] at this
end
end Go.Proofs.Ythomklpaafnjhaa
