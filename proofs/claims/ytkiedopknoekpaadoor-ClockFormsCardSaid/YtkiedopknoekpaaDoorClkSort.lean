/-
  Plain facts on sorted lists of windows, of no program: what Go's sort leaves, what sinking one window into a sorted row leaves. No condition.
-/
import Derived.Test.YtkiedopknoekpaaDoorClkPlain
import Derived.Sort.Statements
import Derived.Shelf.SlSortCmp.Insertion
namespace Go.Proofs.YtkiedopknoekpaaDoor
open Go.Sort
set_option linter.unusedVariables false

theorem asc_of {l : List Win} (h : ∀ i j, i < j → j < l.length → (l.getD i (0, 0)).1 ≤ (l.getD j (0, 0)).1) : Asc l := by
  induction l with
  | nil => trivial
  | cons x l ih =>
    refine ⟨fun y hy => ?_, ih fun i j hij hj => ?_⟩
    · obtain ⟨k, hk, rfl⟩ := List.mem_iff_getElem.1 hy
      have := h 0 (k + 1) (by omega) (by simpa using hk)
      simpa [hk] using this
    · have := h (i + 1) (j + 1) (by omega) (by simpa using hj)
      simpa using this
def lo (x y : Win) : Int := Go.Lib.compareInt x.1 y.1
theorem ltLo (x y : Win) : ltOf lo x y = decide (x.1 < y.1) := by
  unfold ltOf lo Go.Lib.compareInt
  by_cases h1 : x.1 < y.1
  · simp [h1]
  · by_cases h2 : y.1 < x.1 <;> simp [h1, h2]
theorem swoLo : SWO (ltOf lo) where
  irrefl x := by rw [ltLo]; simp
  trans x y z h1 h2 := by rw [ltLo] at *; simp at *; omega
  ntrans x y z h1 h2 := by rw [ltLo] at *; simp at *; omega
/-- What Go's sort leaves. -/
theorem sorted_asc (d d' : Array Win) (hp : PermIn 0 d.size d d') (hs : SortedIn (ltOf lo) 0 d.size d') :
    d'.size = d.size ∧ Asc d'.toList ∧ ∀ x, x ∈ d'.toList ↔ x ∈ d.toList := by
  obtain ⟨h1, _, h3⟩ := hp
  refine ⟨h1, asc_of fun i j hij hj => ?_, fun x => ?_⟩
  · have hj' : j < d'.size := by simpa using hj
    have := hs i j (Nat.zero_le _) hij (by omega)
    rw [ltLo] at this
    have e : ∀ k, k < d'.size → d'.toList.getD k (0, 0) = d'[k]! := fun k hk => by
      rw [getElem!_pos d' k hk, List.getD_eq_getElem?_getD, Array.getElem?_toList, Array.getElem?_eq_getElem hk]
      rfl
    rw [e i (by omega), e j hj']
    simpa using this
  · rw [← h1] at h3
    have e1 : d'.extract 0 d'.size = d' := Array.extract_size
    have e2 : d.extract 0 d'.size = d := by rw [h1]; exact Array.extract_size
    rw [e1, e2] at h3
    exact h3.mem_iff

/-! ### Sinking -/
/-- The row g, of m windows, is sorted but for place k, which is less than all behind it. -/
def Sunk (g : Nat → Win) (m k : Nat) : Prop := k < m ∧ (∀ a b, a < b → b < m → a ≠ k → b ≠ k → (g a).1 ≤ (g b).1) ∧ ∀ b, k < b → b < m → (g k).1 ≤ (g b).1
def swp2 (g : Nat → Win) (k : Nat) : Nat → Win := fun t => if t = k then g (k + 1) else if t = k + 1 then g k else g t
def mem (g : Nat → Win) (m : Nat) (x : Win) : Prop := ∃ t, t < m ∧ g t = x
theorem Sunk.step {g : Nat → Win} {m k : Nat} (h : Sunk g m (k + 1)) (hl : (g (k + 1)).1 < (g k).1) : Sunk (swp2 g k) m k := by
  obtain ⟨h1, h2, h3⟩ := h
  refine ⟨by omega, fun a b hab hb ha hbk => ?_, fun b hkb hb => ?_⟩
  · unfold swp2
    rw [if_neg ha, if_neg hbk]
    by_cases c1 : a = k + 1
    · rw [if_pos c1, if_neg (by omega)]
      exact h2 k b (by omega) hb (by omega) (by omega)
    · rw [if_neg c1]
      by_cases c2 : b = k + 1
      · rw [if_pos c2]
        exact h2 a k (by omega) (by omega) c1 (by omega)
      · rw [if_neg c2]
        exact h2 a b hab hb c1 c2
  · unfold swp2
    rw [if_pos rfl, if_neg (by omega)]
    by_cases c : b = k + 1
    · rw [if_pos c]; omega
    · rw [if_neg c]
      exact h3 b (by omega) hb
theorem Sunk.zero {g : Nat → Win} {m : Nat} (h : Sunk g m 0) : ∀ a b, a < b → b < m → (g a).1 ≤ (g b).1 := by
  obtain ⟨h1, h2, h3⟩ := h
  intro a b hab hb
  by_cases c : a = 0
  · subst c; exact h3 b hab hb
  · exact h2 a b hab hb c (by omega)
theorem Sunk.stop {g : Nat → Win} {m k : Nat} (h : Sunk g m (k + 1)) (hl : (g k).1 ≤ (g (k + 1)).1) : ∀ a b, a < b → b < m → (g a).1 ≤ (g b).1 := by
  obtain ⟨h1, h2, h3⟩ := h
  intro a b hab hb
  by_cases c : a = k + 1
  · subst c; exact h3 b hab hb
  · by_cases d : b = k + 1
    · subst d
      by_cases e : a = k
      · subst e; exact hl
      · have := h2 a k (by omega) (by omega) c (by omega)
        omega
    · exact h2 a b hab hb c d
theorem Sunk.start {g : Nat → Win} {m : Nat} (h : ∀ a b, a < b → b < m → (g a).1 ≤ (g b).1) : Sunk g (m + 1) m :=
  ⟨by omega, fun a b hab hb ha hbm => h a b hab (by omega), fun b hb hbm => by omega⟩
theorem mem_swp2 (g : Nat → Win) (m k : Nat) (hk : k + 1 < m) (x : Win) : mem (swp2 g k) m x ↔ mem g m x := by
  unfold mem swp2
  constructor
  · rintro ⟨t, ht, e⟩
    by_cases c : t = k
    · rw [if_pos c] at e; exact ⟨k + 1, hk, e⟩
    · rw [if_neg c] at e
      by_cases d : t = k + 1
      · rw [if_pos d] at e; exact ⟨k, by omega, e⟩
      · rw [if_neg d] at e; exact ⟨t, ht, e⟩
  · rintro ⟨t, ht, e⟩
    by_cases c : t = k
    · exact ⟨k + 1, hk, by rw [if_neg (by omega), if_pos rfl, ← c]; exact e⟩
    · by_cases d : t = k + 1
      · exact ⟨k, by omega, by rw [if_pos rfl, ← d]; exact e⟩
      · exact ⟨t, ht, by rw [if_neg c, if_neg d]; exact e⟩
/-- The row as a list. -/
def lst (g : Nat → Win) (m : Nat) : List Win := (List.range m).map g
theorem lst_length (g : Nat → Win) (m : Nat) : (lst g m).length = m := by simp [lst]
theorem lst_getD (g : Nat → Win) (m k : Nat) (hk : k < m) : (lst g m).getD k (0, 0) = g k := by simp [lst, hk]
theorem lst_mem (g : Nat → Win) (m : Nat) (x : Win) : x ∈ lst g m ↔ mem g m x := by simp [lst, mem]
theorem lst_asc (g : Nat → Win) (m : Nat) (h : ∀ a b, a < b → b < m → (g a).1 ≤ (g b).1) : Asc (lst g m) := asc_of fun i j hij hj => by
  rw [lst_length] at hj
  rw [lst_getD _ _ _ (by omega), lst_getD _ _ _ hj]
  exact h i j hij hj
theorem lst_succ (g : Nat → Win) (m : Nat) : lst g (m + 1) = lst g m ++ [g m] := by simp [lst, List.range_succ]
theorem lst_congr (g h : Nat → Win) (m : Nat) (e : ∀ t, t < m → g t = h t) : lst g m = lst h m := by
  unfold lst
  exact List.map_congr_left fun t ht => e t (List.mem_range.1 ht)
theorem lst_of (l : List Win) : lst (fun t => l.getD t (0, 0)) l.length = l := by
  apply List.ext_getElem?
  intro i
  by_cases hi : i < l.length
  · simp [lst, hi]
  · simp [lst, hi]
theorem mga_of_sorted (l s : List Win) (hl : ∀ x ∈ l, okB x = true) (hm : ∀ x, x ∈ s ↔ x ∈ l) (ha : Asc s) :
    Nf (-1) 4294944000 (mga s) ∧ ∀ t, hasB (mga s) t = true ↔ hasB l t = true := by
  obtain ⟨h1, h2⟩ := mga_nf s (fun x hx => hl x ((hm x).1 hx)) ha
  exact ⟨h1, fun t => (h2 t).trans (hasB_mem hm t)⟩

/-! ### The normal form of a list, by a sort of our own -/
def ins (x : Win) : List Win → List Win
  | [] => [x]
  | y :: l => if y.1 ≤ x.1 then y :: ins x l else x :: y :: l
def srt : List Win → List Win
  | [] => []
  | x :: l => ins x (srt l)
theorem ins_mem (x y : Win) (l : List Win) : y ∈ ins x l ↔ y = x ∨ y ∈ l := by
  induction l with
  | nil => simp [ins]
  | cons z l ih =>
    unfold ins
    split
    · rw [List.mem_cons, ih, List.mem_cons]
      constructor
      · rintro (h | h | h)
        · exact Or.inr (Or.inl h)
        · exact Or.inl h
        · exact Or.inr (Or.inr h)
      · rintro (h | h | h)
        · exact Or.inr (Or.inl h)
        · exact Or.inl h
        · exact Or.inr (Or.inr h)
    · rw [List.mem_cons]
theorem srt_mem (y : Win) (l : List Win) : y ∈ srt l ↔ y ∈ l := by
  induction l with
  | nil => rfl
  | cons z l ih => rw [srt, ins_mem, ih, List.mem_cons]
theorem ins_asc (x : Win) (l : List Win) (h : Asc l) : Asc (ins x l) := by
  induction l with
  | nil => exact ⟨fun y hy => (by cases hy), trivial⟩
  | cons z l ih =>
    unfold ins
    split
    · rename_i hz
      refine ⟨fun y hy => ?_, ih h.2⟩
      rcases (ins_mem x y l).1 hy with rfl | hy
      · exact hz
      · exact h.1 y hy
    · rename_i hz
      refine ⟨fun y hy => ?_, h⟩
      rcases List.mem_cons.1 hy with rfl | hy
      · omega
      · have := h.1 y hy; omega
theorem srt_asc (l : List Win) : Asc (srt l) := by
  induction l with
  | nil => trivial
  | cons z l ih => exact ins_asc _ _ ih
/-- **The normal form.** -/
def nf (l : List Win) : List Win := mga (srt l)
def allB (l : List Win) : Bool := l.all okB
theorem allB_mem {l : List Win} (h : allB l = true) : ∀ x ∈ l, okB x = true := List.all_eq_true.1 h
theorem nf_nf {l : List Win} (h : allB l = true) : Nf (-1) 4294944000 (nf l) ∧ ∀ t, hasB (nf l) t = true ↔ hasB l t = true :=
  mga_of_sorted l (srt l) (allB_mem h) (fun x => srt_mem x l) (srt_asc l)
theorem nf_of_sorted {l s : List Win} (h : allB l = true) (hm : ∀ x, x ∈ s ↔ x ∈ l) (ha : Asc s) : mga s = nf l := by
  obtain ⟨a1, a2⟩ := mga_of_sorted l s (allB_mem h) hm ha
  obtain ⟨b1, b2⟩ := nf_nf h
  exact a1.unique b1 fun t => (a2 t).trans (b2 t).symm
theorem nf_eq {l r : List Win} {a b : Int} (h : allB l = true) (hr : Nf a b r) (hh : ∀ t, hasB r t = true ↔ hasB l t = true) : nf l = r := by
  obtain ⟨b1, b2⟩ := nf_nf h
  exact b1.unique hr fun t => (b2 t).trans (hh t).symm
theorem allB_of_nf {l : List Win} (h : Nf (-1) 4294944000 l) : allB l = true := List.all_eq_true.2 (h.ok (by omega) (by omega))
theorem nf_self {l : List Win} (h : Nf (-1) 4294944000 l) : nf l = l := nf_eq (allB_of_nf h) h fun t => Iff.rfl
/-- What both have. -/
def com (a b : List Win) : List Win := ov (nf a) (nf b)
/-- What the first has beyond the second. -/
def mns (a b : List Win) : List Win := ov (nf a) (gp 0 (nf b))
theorem com_nf {a b : List Win} (ha : allB a = true) (hb : allB b = true) : Nf (-1) 4294944000 (com a b) ∧ ∀ t, hasB (com a b) t = true ↔ (hasB a t = true ∧ hasB b t = true) := by
  obtain ⟨a1, a2⟩ := nf_nf ha
  obtain ⟨b1, b2⟩ := nf_nf hb
  obtain ⟨c1, c2⟩ := ov_nf _ (nf a) (nf b) _ _ _ _ (Nat.le_refl _) a1 b1
  exact ⟨(c1.weak (by omega)).wide (by omega), fun t => (c2 t).trans (and_congr (a2 t) (b2 t))⟩
theorem mns_nf {a b : List Win} (ha : allB a = true) (hb : allB b = true) : Nf (-1) 4294944000 (mns a b) ∧ ∀ t, hasB (mns a b) t = true ↔ (hasB a t = true ∧ ¬ hasB b t = true) := by
  obtain ⟨a1, a2⟩ := nf_nf ha
  obtain ⟨b1, b2⟩ := nf_nf hb
  obtain ⟨g1, g2⟩ := gp_nf 0 (-1) (nf b) b1 (by omega)
  obtain ⟨c1, c2⟩ := ov_nf _ (nf a) (gp 0 (nf b)) _ _ _ _ (Nat.le_refl _) a1 g1
  refine ⟨(c1.weak (by omega)).wide (by omega), fun t => (c2 t).trans ?_⟩
  rw [g2, b2, a2]
  constructor
  · rintro ⟨h1, _, _, h2⟩
    exact ⟨h1, h2⟩
  · rintro ⟨h1, h2⟩
    have := a1.has ((a2 t).2 h1)
    exact ⟨h1, by omega, by omega, h2⟩
theorem com_prods {a b : List Win} (ha : allB a = true) (hb : allB b = true) : prods (nf a) (nf b) = com a b := by
  obtain ⟨a1, a2⟩ := nf_nf ha
  obtain ⟨b1, b2⟩ := nf_nf hb
  obtain ⟨p1, p2⟩ := prods_nf (nf a) (nf b) _ _ _ _ a1 b1 (by omega)
  obtain ⟨c1, c2⟩ := com_nf ha hb
  exact p1.unique c1 fun t => (p2 t).trans (((and_congr (a2 t) (b2 t))).trans (c2 t).symm)
theorem mns_rests {a b : List Win} (ha : allB a = true) (hb : allB b = true) : rests (nf a) (nf b) = mns a b := by
  obtain ⟨a1, a2⟩ := nf_nf ha
  obtain ⟨b1, b2⟩ := nf_nf hb
  obtain ⟨p1, p2⟩ := rests_nf (nf a) (nf b) _ _ _ _ a1 b1
  obtain ⟨c1, c2⟩ := mns_nf ha hb
  refine p1.unique c1 fun t => (p2 t).trans (Iff.trans ?_ (c2 t).symm)
  rw [a2, b2]

/-! ### Sizes -/
theorem mg_len (c : Win) (s : List Win) : (mg c s).length ≤ s.length + 1 := by
  induction s generalizing c with
  | nil => simp [mg]
  | cons x s ih =>
    unfold mg
    split
    · have := ih c; simp only [List.length_cons]; omega
    · split
      · have := ih (c.1, max c.2 x.2); simp only [List.length_cons]; omega
      · have := ih x; simp only [List.length_cons]; omega
theorem mga_len (s : List Win) : (mga s).length ≤ s.length := by
  induction s with
  | nil => simp [mga]
  | cons x s ih =>
    unfold mga
    split
    · simp only [List.length_cons]; omega
    · have := mg_len x s; simp only [List.length_cons]; omega
theorem srt_len (l : List Win) : (srt l).length = l.length := by
  have hi : ∀ (x : Win) (m : List Win), (ins x m).length = m.length + 1 := fun x m => by
    induction m with
    | nil => rfl
    | cons y m ih =>
      unfold ins
      split <;> simp [ih]
  induction l with
  | nil => rfl
  | cons x l ih => rw [srt, hi, ih, List.length_cons]
theorem nf_len (l : List Win) : (nf l).length ≤ l.length := by
  have := mga_len (srt l)
  rw [srt_len] at this
  exact this
theorem cap_len (x y : Win) : (cap x y).length ≤ 1 := by unfold cap; split <;> simp
theorem ov_len (n : Nat) (a b : List Win) (hn : a.length + b.length ≤ n) : (ov a b).length ≤ n := by
  induction n generalizing a b with
  | zero =>
    have : a = [] := List.eq_nil_of_length_eq_zero (by omega)
    subst this
    rw [ov_nil]; simp
  | succ n ih =>
    cases a with
    | nil => rw [ov_nil]; simp
    | cons x a =>
      cases b with
      | nil => rw [ov_nil']; simp
      | cons y b =>
        rw [ov_cons, List.length_append]
        have := cap_len x y
        split
        · have := ih a (y :: b) (by simp at hn ⊢; omega); omega
        · have := ih (x :: a) b (by simp at hn ⊢; omega); omega
theorem gp_len (f : Int) (l : List Win) : (gp f l).length ≤ l.length + 1 := by
  induction l generalizing f with
  | nil => unfold gp; split <;> simp
  | cons x l ih =>
    unfold gp
    rw [List.length_append, List.length_cons]
    have := ih x.2
    split <;> simp <;> omega
theorem com_len (a b : List Win) : (com a b).length ≤ a.length + b.length := by
  have := ov_len _ (nf a) (nf b) (Nat.le_refl _)
  have := nf_len a
  have := nf_len b
  unfold com
  omega
theorem mns_len (a b : List Win) : (mns a b).length ≤ a.length + b.length + 1 := by
  have := ov_len _ (nf a) (gp 0 (nf b)) (Nat.le_refl _)
  have := gp_len 0 (nf b)
  have := nf_len a
  have := nf_len b
  unfold mns
  omega

/-! ### The law on lengths -/
theorem len_of {l : List Win} (h : allB l = true) (n : Nat) (hn : 4294944000 ≤ (n : Int)) : len (nf l) = cnt n (hasB l) := by
  obtain ⟨h1, h2⟩ := nf_nf h
  rw [len_cnt n (nf l) _ _ h1 (by omega) hn]
  exact cnt_congr n _ _ fun t => Bool.eq_iff_iff.2 (h2 t)
theorem lengths {a b : List Win} (ha : allB a = true) (hb : allB b = true) :
    len (nf (com a b)) + len (nf (mns a b)) = len (nf a) ∧ len (nf (a ++ b)) + len (nf (com a b)) = len (nf a) + len (nf b) ∧ len (com a b) = len (nf (com a b)) := by
  obtain ⟨c1, c2⟩ := com_nf ha hb
  obtain ⟨m1, m2⟩ := mns_nf ha hb
  have hab : allB (a ++ b) = true := by unfold allB at *; rw [List.all_append, ha, hb]; rfl
  obtain ⟨N, hN⟩ : ∃ n : Nat, 4294944000 ≤ (n : Int) := ⟨(4294944000 : Int).toNat, by omega⟩
  rw [len_of (allB_of_nf c1) N hN, len_of (allB_of_nf m1) N hN, len_of ha N hN, len_of hb N hN, len_of hab N hN]
  have z := cnt_no N (fun _ => false) fun _ => rfl
  refine ⟨?_, ?_, ?_⟩
  · have := cnt_add N (hasB (com a b)) (hasB (mns a b)) (hasB a) (fun _ => false) fun t => by
      have p := c2 t
      have q := m2 t
      revert p q
      cases hasB (com a b) t <;> cases hasB (mns a b) t <;> cases hasB a t <;> cases hasB b t <;> simp
    omega
  · exact cnt_add N (hasB (a ++ b)) (hasB (com a b)) (hasB a) (hasB b) fun t => by
      have p := c2 t
      have q := hasB_append a b t
      revert p q
      cases hasB (a ++ b) t <;> cases hasB (com a b) t <;> cases hasB a t <;> cases hasB b t <;> simp
  · rw [← len_of (allB_of_nf c1) N hN, nf_self c1]
end Go.Proofs.YtkiedopknoekpaaDoor
