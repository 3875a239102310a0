/-
  Plain facts on lists of windows, of no program: the normal form of a set of moments, its uniqueness, and what joining, cutting, filling and counting make of it. No condition.
-/
namespace Go.Proofs.YtkiedopknoekpaaDoor
set_option linter.unusedVariables false

abbrev Win := Int × Int
def Last : Int := 4294944000
/-- Does a window of the list contain the moment? -/
def hasB : List Win → Int → Bool
  | [], _ => false
  | x :: l, t => (decide (x.1 ≤ t) && decide (t < x.2)) || hasB l t
def okB (x : Win) : Bool := decide (0 ≤ x.1) && decide (x.1 ≤ x.2) && decide (x.2 ≤ 4294944000)
theorem okB_true {x : Win} (h : okB x = true) : 0 ≤ x.1 ∧ x.1 ≤ x.2 ∧ x.2 ≤ 4294944000 := by
  unfold okB at h
  simp only [Bool.and_eq_true, decide_eq_true_eq] at h
  exact ⟨h.1.1, h.1.2, h.2⟩
theorem okB_mk {x : Win} (h0 : 0 ≤ x.1) (h1 : x.1 ≤ x.2) (h2 : x.2 ≤ 4294944000) : okB x = true := by
  unfold okB
  simp only [Bool.and_eq_true, decide_eq_true_eq]
  exact ⟨⟨h0, h1⟩, h2⟩
theorem hasB_cons (x : Win) (l : List Win) (t : Int) : hasB (x :: l) t = true ↔ (x.1 ≤ t ∧ t < x.2) ∨ hasB l t = true := by
  simp [hasB]
theorem hasB_append (l m : List Win) (t : Int) : hasB (l ++ m) t = true ↔ hasB l t = true ∨ hasB m t = true := by
  induction l with
  | nil => simp [hasB]
  | cons x l ih => rw [List.cons_append, hasB_cons, hasB_cons, ih, or_assoc]
theorem hasB_iff (l : List Win) (t : Int) : hasB l t = true ↔ ∃ x ∈ l, x.1 ≤ t ∧ t < x.2 := by
  induction l with
  | nil => simp [hasB]
  | cons x l ih => rw [hasB_cons, ih]; simp
theorem hasB_mem {l m : List Win} (h : ∀ x, x ∈ l ↔ x ∈ m) (t : Int) : hasB l t = true ↔ hasB m t = true := by
  rw [hasB_iff, hasB_iff]
  exact ⟨fun ⟨x, hx, h2⟩ => ⟨x, (h x).1 hx, h2⟩, fun ⟨x, hx, h2⟩ => ⟨x, (h x).2 hx, h2⟩⟩

/-- In normal form, behind lo, up to hi. -/
def Nf : Int → Int → List Win → Prop
  | _, _, [] => True
  | lo, hi, x :: l => lo < x.1 ∧ x.1 < x.2 ∧ x.2 ≤ hi ∧ Nf x.2 hi l
theorem Nf.weak {lo lo' hi : Int} {l : List Win} (h : Nf lo hi l) (hlo : lo' ≤ lo) : Nf lo' hi l := by
  cases l with
  | nil => trivial
  | cons x l => exact ⟨by have := h.1; omega, h.2⟩
theorem Nf.wide {lo hi hi' : Int} {l : List Win} (h : Nf lo hi l) (hhi : hi ≤ hi') : Nf lo hi' l := by
  induction l generalizing lo with
  | nil => trivial
  | cons x l ih => exact ⟨h.1, h.2.1, by have := h.2.2.1; omega, ih h.2.2.2⟩
theorem Nf.app {lo mid hi : Int} {l m : List Win} (h1 : Nf lo mid l) (h2 : Nf mid hi m) (hl : lo ≤ mid) (hh : mid ≤ hi) : Nf lo hi (l ++ m) := by
  induction l generalizing lo with
  | nil => exact h2.weak hl
  | cons x l ih => exact ⟨h1.1, h1.2.1, by have := h1.2.2.1; omega, ih h1.2.2.2 h1.2.2.1⟩
theorem Nf.has {lo hi : Int} {l : List Win} (h : Nf lo hi l) {t : Int} (ht : hasB l t = true) : lo < t ∧ t < hi := by
  induction l generalizing lo with
  | nil => simp [hasB] at ht
  | cons x l ih =>
    obtain ⟨h1, h2, h3, h4⟩ := h
    rcases (hasB_cons x l t).1 ht with h | h
    · omega
    · have := ih h4 h
      omega
theorem Nf.ok {lo hi : Int} {l : List Win} (h : Nf lo hi l) (hlo : -1 ≤ lo) (hhi : hi ≤ 4294944000) : ∀ x ∈ l, okB x = true := by
  induction l generalizing lo with
  | nil => intro x hx; cases hx
  | cons x l ih =>
    obtain ⟨h1, h2, h3, h4⟩ := h
    intro y hy
    rcases List.mem_cons.1 hy with rfl | hy
    · exact okB_mk (by omega) (by omega) (by omega)
    · exact ih h4 (by omega) y hy
/-- **A set of moments has one normal form.** -/
theorem Nf.unique {lo hi lo' hi' : Int} {l m : List Win} (hl : Nf lo hi l) (hm : Nf lo' hi' m) (h : ∀ t, hasB l t = true ↔ hasB m t = true) : l = m := by
  induction l generalizing lo lo' m with
  | nil =>
    cases m with
    | nil => rfl
    | cons y m =>
      have := (h y.1).2 ((hasB_cons _ _ _).2 (Or.inl ⟨by omega, hm.2.1⟩))
      simp [hasB] at this
  | cons x l ih =>
    cases m with
    | nil =>
      have := (h x.1).1 ((hasB_cons _ _ _).2 (Or.inl ⟨by omega, hl.2.1⟩))
      simp [hasB] at this
    | cons y m =>
      obtain ⟨l1, l2, l3, l4⟩ := hl
      obtain ⟨m1, m2, m3, m4⟩ := hm
      have hlt : ∀ t, hasB l t = true → x.2 < t := fun t ht => (l4.has ht).1
      have hmt : ∀ t, hasB m t = true → y.2 < t := fun t ht => (m4.has ht).1
      have a1 := (h x.1).1 ((hasB_cons _ _ _).2 (Or.inl ⟨by omega, l2⟩))
      have a2 := (h y.1).2 ((hasB_cons _ _ _).2 (Or.inl ⟨by omega, m2⟩))
      have e1 : x.1 = y.1 := by
        rcases (hasB_cons _ _ _).1 a1 with b1 | b1 <;> rcases (hasB_cons _ _ _).1 a2 with b2 | b2
        · omega
        · have := hlt _ b2; omega
        · have := hmt _ b1; omega
        · have := hmt _ b1; have := hlt _ b2; omega
      have e2 : x.2 = y.2 := by
        rcases Int.lt_trichotomy x.2 y.2 with c | c | c
        · have := (h x.2).2 ((hasB_cons _ _ _).2 (Or.inl ⟨by omega, c⟩))
          rcases (hasB_cons _ _ _).1 this with b | b
          · omega
          · have := hlt _ b; omega
        · exact c
        · have := (h y.2).1 ((hasB_cons _ _ _).2 (Or.inl ⟨by omega, c⟩))
          rcases (hasB_cons _ _ _).1 this with b | b
          · omega
          · have := hmt _ b; omega
      have e : x = y := Prod.ext e1 e2
      subst e
      rw [ih l4 m4 fun t => ?_]
      have ht := h t
      rw [hasB_cons, hasB_cons] at ht
      constructor
      · intro hb
        have := hlt t hb
        rcases ht.1 (Or.inr hb) with b | b
        · omega
        · exact b
      · intro hb
        have := hmt t hb
        rcases ht.2 (Or.inr hb) with b | b
        · omega
        · exact b

/-! ### Joining -/
def mg : Win → List Win → List Win
  | c, [] => [c]
  | c, x :: s => if x.1 = x.2 then mg c s else if x.1 ≤ c.2 then mg (c.1, max c.2 x.2) s else c :: mg x s
def mga : List Win → List Win
  | [] => []
  | x :: s => if x.1 = x.2 then mga s else mg x s
/-- Sorted by From. -/
def Asc : List Win → Prop
  | [] => True
  | x :: l => (∀ y ∈ l, x.1 ≤ y.1) ∧ Asc l
theorem mg_nf (lo : Int) (c : Win) (s : List Win) (h1 : lo < c.1) (h2 : c.1 < c.2) (h3 : c.2 ≤ 4294944000) (hs : ∀ x ∈ s, okB x = true) (hc : ∀ x ∈ s, c.1 ≤ x.1) (ha : Asc s) :
    Nf lo 4294944000 (mg c s) ∧ ∀ t, hasB (mg c s) t = true ↔ hasB (c :: s) t = true := by
  induction s generalizing lo c with
  | nil => exact ⟨⟨h1, h2, h3, trivial⟩, fun t => Iff.rfl⟩
  | cons x s ih =>
    have ox := okB_true (hs x List.mem_cons_self)
    have os : ∀ y ∈ s, okB y = true := fun y hy => hs y (List.mem_cons_of_mem _ hy)
    have cx := hc x List.mem_cons_self
    have cs : ∀ y ∈ s, c.1 ≤ y.1 := fun y hy => hc y (List.mem_cons_of_mem _ hy)
    unfold mg
    by_cases e : x.1 = x.2
    · rw [if_pos e]
      obtain ⟨i1, i2⟩ := ih lo c h1 h2 h3 os cs ha.2
      refine ⟨i1, fun t => (i2 t).trans ?_⟩
      rw [hasB_cons, hasB_cons, hasB_cons]
      constructor
      · rintro (h | h)
        · exact Or.inl h
        · exact Or.inr (Or.inr h)
      · rintro (h | h | h)
        · exact Or.inl h
        · omega
        · exact Or.inr h
    · rw [if_neg e]
      by_cases j : x.1 ≤ c.2
      · rw [if_pos j]
        obtain ⟨i1, i2⟩ := ih lo (c.1, max c.2 x.2) h1 (by show c.1 < max c.2 x.2; omega) (by show max c.2 x.2 ≤ _; omega) os cs ha.2
        refine ⟨i1, fun t => (i2 t).trans ?_⟩
        rw [hasB_cons, hasB_cons, hasB_cons]
        show (c.1 ≤ t ∧ t < max c.2 x.2) ∨ _ ↔ _
        constructor
        · rintro (h | h)
          · by_cases q : t < c.2
            · exact Or.inl ⟨h.1, q⟩
            · exact Or.inr (Or.inl ⟨by omega, by omega⟩)
          · exact Or.inr (Or.inr h)
        · rintro (h | h | h)
          · exact Or.inl ⟨h.1, by omega⟩
          · exact Or.inl ⟨by omega, by omega⟩
          · exact Or.inr h
      · rw [if_neg j]
        obtain ⟨i1, i2⟩ := ih c.2 x (by omega) (by omega) (by omega) os ha.1 ha.2
        refine ⟨⟨h1, h2, h3, i1⟩, fun t => ?_⟩
        rw [hasB_cons, i2 t, hasB_cons c]
theorem mga_nf (s : List Win) (hs : ∀ x ∈ s, okB x = true) (ha : Asc s) :
    Nf (-1) 4294944000 (mga s) ∧ ∀ t, hasB (mga s) t = true ↔ hasB s t = true := by
  induction s with
  | nil => exact ⟨trivial, fun t => Iff.rfl⟩
  | cons x s ih =>
    have ox := okB_true (hs x List.mem_cons_self)
    have os : ∀ y ∈ s, okB y = true := fun y hy => hs y (List.mem_cons_of_mem _ hy)
    unfold mga
    by_cases e : x.1 = x.2
    · rw [if_pos e]
      obtain ⟨i1, i2⟩ := ih os ha.2
      refine ⟨i1, fun t => (i2 t).trans ?_⟩
      rw [hasB_cons]
      constructor
      · exact Or.inr
      · rintro (h | h)
        · omega
        · exact h
    · rw [if_neg e]
      exact mg_nf (-1) x s (by omega) (by omega) (by omega) os ha.1 ha.2

/-! ### What two lists have in common, by two hands -/
def cap (x y : Win) : List Win := if max x.1 y.1 < min x.2 y.2 then [(max x.1 y.1, min x.2 y.2)] else []
theorem cap_has (x y : Win) (t : Int) : hasB (cap x y) t = true ↔ (x.1 ≤ t ∧ t < x.2) ∧ (y.1 ≤ t ∧ t < y.2) := by
  unfold cap
  split
  · rw [hasB_cons]
    show (max x.1 y.1 ≤ t ∧ t < min x.2 y.2) ∨ _ ↔ _
    constructor
    · rintro (h | h)
      · omega
      · simp [hasB] at h
    · intro h
      exact Or.inl (by omega)
  · constructor
    · intro h; simp [hasB] at h
    · intro h; omega
theorem cap_nf (x y : Win) (lo hi : Int) (h1 : lo < max x.1 y.1) (h2 : min x.2 y.2 ≤ hi) : Nf lo hi (cap x y) := by
  unfold cap
  split
  · exact ⟨h1, by assumption, h2, trivial⟩
  · trivial
def ov : List Win → List Win → List Win
  | [], _ => []
  | _ :: _, [] => []
  | x :: a, y :: b => cap x y ++ (if x.2 < y.2 then ov a (y :: b) else ov (x :: a) b)
termination_by a b => a.length + b.length
decreasing_by all_goals simp_wf <;> omega
theorem ov_cons (x y : Win) (a b : List Win) : ov (x :: a) (y :: b) = cap x y ++ (if x.2 < y.2 then ov a (y :: b) else ov (x :: a) b) := by rw [ov]
theorem ov_nil (b : List Win) : ov [] b = [] := by rw [ov]
theorem ov_nil' (a : List Win) : ov a [] = [] := by cases a <;> rw [ov]
theorem ov_nf (n : Nat) (a b : List Win) (lo lo' hi hi' : Int) (hn : a.length + b.length ≤ n) (ha : Nf lo hi a) (hb : Nf lo' hi' b) :
    Nf (max lo lo') (max hi hi') (ov a b) ∧ ∀ t, hasB (ov a b) t = true ↔ (hasB a t = true ∧ hasB b t = true) := by
  induction n generalizing a b lo lo' with
  | zero =>
    have : a = [] := List.eq_nil_of_length_eq_zero (by omega)
    subst this
    rw [ov_nil]
    exact ⟨trivial, fun t => by simp [hasB]⟩
  | succ n ih =>
    cases a with
    | nil => rw [ov_nil]; exact ⟨trivial, fun t => by simp [hasB]⟩
    | cons x a =>
      cases b with
      | nil => rw [ov_nil']; exact ⟨trivial, fun t => by simp [hasB]⟩
      | cons y b =>
        rw [ov_cons]
        obtain ⟨a1, a2, a3, a4⟩ := ha
        obtain ⟨b1, b2, b3, b4⟩ := hb
        by_cases c : x.2 < y.2
        · rw [if_pos c]
          obtain ⟨i1, i2⟩ := ih a (y :: b) x.2 lo' (by simp at hn ⊢; omega) a4 ⟨b1, b2, b3, b4⟩
          refine ⟨(cap_nf x y _ (max lo' x.2) (by omega) (by omega)).app (i1.weak (by omega)) ?_ ?_, fun t => ?_⟩
          · omega
          · omega
          · rw [hasB_append, cap_has, i2, hasB_cons, hasB_cons]
            have k1 : hasB b t = true → y.2 < t := fun h => (b4.has h).1
            constructor
            · rintro (h | h)
              · exact ⟨Or.inl h.1, Or.inl h.2⟩
              · exact ⟨Or.inr h.1, h.2⟩
            · rintro ⟨h | h, h' | h'⟩
              · exact Or.inl ⟨h, h'⟩
              · have := k1 h'; omega
              · exact Or.inr ⟨h, Or.inl h'⟩
              · exact Or.inr ⟨h, Or.inr h'⟩
        · rw [if_neg c]
          obtain ⟨i1, i2⟩ := ih (x :: a) b lo y.2 (by simp at hn ⊢; omega) ⟨a1, a2, a3, a4⟩ b4
          refine ⟨(cap_nf x y _ (max lo y.2) (by omega) (by omega)).app (i1.weak (by omega)) ?_ ?_, fun t => ?_⟩
          · omega
          · omega
          · rw [hasB_append, cap_has, i2, hasB_cons, hasB_cons]
            have k1 : hasB a t = true → x.2 < t := fun h => (a4.has h).1
            constructor
            · rintro (h | h)
              · exact ⟨Or.inl h.1, Or.inl h.2⟩
              · exact ⟨h.1, Or.inr h.2⟩
            · rintro ⟨h | h, h' | h'⟩
              · exact Or.inl ⟨h, h'⟩
              · exact Or.inr ⟨Or.inl h, h'⟩
              · have := k1 h; omega
              · exact Or.inr ⟨Or.inr h, h'⟩
/-- One window against a list. -/
def row (x : Win) : List Win → List Win
  | [] => []
  | y :: v => cap x y ++ row x v
def prods : List Win → List Win → List Win
  | [], _ => []
  | x :: u, v => row x v ++ prods u v
theorem row_nf (x : Win) (v : List Win) (lo hi : Int) (hx : x.1 < x.2) (hv : Nf lo hi v) :
    Nf (max (x.1 - 1) lo) (max x.2 lo) (row x v) ∧ ∀ t, hasB (row x v) t = true ↔ (x.1 ≤ t ∧ t < x.2) ∧ hasB v t = true := by
  induction v generalizing lo with
  | nil => exact ⟨trivial, fun t => by simp [row, hasB]⟩
  | cons y v ih =>
    obtain ⟨b1, b2, b3, b4⟩ := hv
    obtain ⟨i1, i2⟩ := ih y.2 b4
    unfold row
    refine ⟨?_, fun t => ?_⟩
    · by_cases c : y.2 < x.2
      · exact (cap_nf x y _ (max (x.1 - 1) y.2) (by omega) (by omega)).app (i1.wide (by omega)) (by omega) (by omega)
      · have hr : row x v = [] := by
          cases hq : row x v with
          | nil => rfl
          | cons z r =>
            rw [hq] at i1
            have := i1.1
            have := i1.2.1
            have := i1.2.2.1
            omega
        rw [hr, List.append_nil]
        exact cap_nf x y _ _ (by omega) (by omega)
    · rw [hasB_append, cap_has, i2, hasB_cons]
      constructor
      · rintro (h | h)
        · exact ⟨h.1, Or.inl h.2⟩
        · exact ⟨h.1, Or.inr h.2⟩
      · rintro ⟨h, h' | h'⟩
        · exact Or.inl ⟨h, h'⟩
        · exact Or.inr ⟨h, h'⟩
theorem prods_nf (u v : List Win) (lo hi lo' hi' : Int) (hu : Nf lo hi u) (hv : Nf lo' hi' v) (hh : lo' ≤ lo) :
    Nf lo hi (prods u v) ∧ ∀ t, hasB (prods u v) t = true ↔ (hasB u t = true ∧ hasB v t = true) := by
  induction u generalizing lo with
  | nil => exact ⟨trivial, fun t => by simp [prods, hasB]⟩
  | cons x u ih =>
    obtain ⟨a1, a2, a3, a4⟩ := hu
    obtain ⟨i1, i2⟩ := ih x.2 a4 (by omega)
    obtain ⟨r1, r2⟩ := row_nf x v lo' hi' a2 hv
    unfold prods
    refine ⟨((r1.weak (by omega)).wide (by omega) : Nf lo x.2 _).app i1 (by omega) a3, fun t => ?_⟩
    rw [hasB_append, r2, i2, hasB_cons]
    constructor
    · rintro (h | h)
      · exact ⟨Or.inl h.1, h.2⟩
      · exact ⟨Or.inr h.1, h.2⟩
    · rintro ⟨h | h, h'⟩
      · exact Or.inl ⟨h, h'⟩
      · exact Or.inr ⟨h, h'⟩

/-! ### What one list has beyond the other, by two hands -/
def gp : Int → List Win → List Win
  | f, [] => if f ≤ 4294943999 then [(f, 4294944000)] else []
  | f, x :: l => (if f < x.1 then [(f, x.1)] else []) ++ gp x.2 l
theorem gp_nf (f lo : Int) (l : List Win) (hl : Nf lo 4294944000 l) (hf : f ≤ lo + 1) :
    Nf (f - 1) 4294944000 (gp f l) ∧ ∀ t, hasB (gp f l) t = true ↔ (f ≤ t ∧ t < 4294944000 ∧ ¬ hasB l t = true) := by
  induction l generalizing f lo with
  | nil =>
    unfold gp
    split
    · refine ⟨⟨by show f - 1 < f; omega, by show f < 4294944000; omega, by show (4294944000 : Int) ≤ 4294944000; omega, trivial⟩, fun t => ?_⟩
      rw [hasB_cons]
      simp [hasB]
    · refine ⟨trivial, fun t => ?_⟩
      simp [hasB]
      omega
  | cons x l ih =>
    obtain ⟨a1, a2, a3, a4⟩ := hl
    obtain ⟨i1, i2⟩ := ih x.2 x.2 a4 (by omega)
    unfold gp
    have k1 : ∀ t, hasB l t = true → x.2 < t := fun t h => (a4.has h).1
    split
    · refine ⟨⟨by show f - 1 < f; omega, by assumption, by show x.1 ≤ _; omega, i1.weak (by show x.1 ≤ _; omega)⟩, fun t => ?_⟩
      rw [List.singleton_append, hasB_cons, i2, hasB_cons]
      show (f ≤ t ∧ t < x.1) ∨ _ ↔ _
      constructor
      · rintro (h | ⟨h1, h2, h3⟩)
        · refine ⟨by omega, by omega, ?_⟩
          rintro (h' | h')
          · omega
          · have := k1 t h'; omega
        · refine ⟨by omega, by omega, ?_⟩
          rintro (h' | h')
          · omega
          · exact h3 h'
      · rintro ⟨h1, h2, h3⟩
        by_cases c : t < x.1
        · exact Or.inl ⟨h1, c⟩
        · by_cases d : t < x.2
          · exact absurd (Or.inl ⟨by omega, d⟩) h3
          · exact Or.inr ⟨by omega, h2, fun h' => h3 (Or.inr h')⟩
    · refine ⟨i1.weak (by omega), fun t => ?_⟩
      rw [List.nil_append, i2, hasB_cons]
      constructor
      · rintro ⟨h1, h2, h3⟩
        refine ⟨by omega, by omega, ?_⟩
        rintro (h' | h')
        · omega
        · exact h3 h'
      · rintro ⟨h1, h2, h3⟩
        by_cases d : t < x.2
        · exact absurd (Or.inl ⟨by omega, d⟩) h3
        · exact ⟨by omega, h2, fun h' => h3 (Or.inr h')⟩
/-- What is left of from..to when the windows of a list are cut out. -/
def mi (to : Int) : Int → List Win → List Win
  | f, [] => if f < to then [(f, to)] else []
  | f, y :: v => if y.2 ≤ f then mi to f v else if to ≤ y.1 then mi to f v else if f < y.1 then (f, y.1) :: mi to y.2 v else mi to y.2 v
def rests : List Win → List Win → List Win
  | [], _ => []
  | x :: u, v => mi x.2 x.1 v ++ rests u v
theorem mi_nf (to f lo hi : Int) (v : List Win) (hv : Nf lo hi v) :
    Nf (f - 1) (max to (f - 1)) (mi to f v) ∧ ∀ t, hasB (mi to f v) t = true ↔ ((f ≤ t ∧ t < to) ∧ ¬ hasB v t = true) := by
  induction v generalizing f lo with
  | nil =>
    unfold mi
    split
    · refine ⟨⟨by show f - 1 < f; omega, by assumption, by show to ≤ _; omega, trivial⟩, fun t => ?_⟩
      rw [hasB_cons]
      simp [hasB]
    · refine ⟨trivial, fun t => ?_⟩
      simp [hasB]
      omega
  | cons y v ih =>
    obtain ⟨b1, b2, b3, b4⟩ := hv
    have k1 : ∀ t, hasB v t = true → y.2 < t := fun t h => (b4.has h).1
    unfold mi
    by_cases c1 : y.2 ≤ f
    · rw [if_pos c1]
      obtain ⟨i1, i2⟩ := ih f y.2 b4
      refine ⟨i1, fun t => (i2 t).trans ?_⟩
      rw [hasB_cons]
      constructor
      · rintro ⟨h, h'⟩
        exact ⟨h, fun q => q.elim (fun q => by omega) h'⟩
      · rintro ⟨h, h'⟩
        exact ⟨h, fun q => h' (Or.inr q)⟩
    · rw [if_neg c1]
      by_cases c2 : to ≤ y.1
      · rw [if_pos c2]
        obtain ⟨i1, i2⟩ := ih f y.2 b4
        refine ⟨i1, fun t => (i2 t).trans ?_⟩
        rw [hasB_cons]
        constructor
        · rintro ⟨h, h'⟩
          exact ⟨h, fun q => q.elim (fun q => by omega) h'⟩
        · rintro ⟨h, h'⟩
          exact ⟨h, fun q => h' (Or.inr q)⟩
      · rw [if_neg c2]
        obtain ⟨i1, i2⟩ := ih y.2 y.2 b4
        by_cases c3 : f < y.1
        · rw [if_pos c3]
          refine ⟨?_, fun t => ?_⟩
          · by_cases d : y.2 < to
            · exact ⟨by show f - 1 < f; omega, by show f < y.1; omega, by show y.1 ≤ _; omega, (i1.weak (by show y.1 ≤ _; omega)).wide (by omega)⟩
            · have hr : mi to y.2 v = [] := by
                cases hq : mi to y.2 v with
                | nil => rfl
                | cons z r =>
                  rw [hq] at i1
                  have := i1.1
                  have := i1.2.1
                  have := i1.2.2.1
                  omega
              rw [hr]
              exact ⟨by show f - 1 < f; omega, by show f < y.1; omega, by show y.1 ≤ _; omega, trivial⟩
          · rw [hasB_cons, i2, hasB_cons]
            show (f ≤ t ∧ t < y.1) ∨ _ ↔ _
            constructor
            · rintro (h | ⟨h, h'⟩)
              · exact ⟨by omega, fun q => q.elim (fun q => by omega) fun q => by have := k1 t q; omega⟩
              · exact ⟨by omega, fun q => q.elim (fun q => by omega) h'⟩
            · rintro ⟨h, h'⟩
              by_cases d : t < y.1
              · exact Or.inl ⟨h.1, d⟩
              · by_cases d2 : t < y.2
                · exact absurd (Or.inl ⟨by omega, d2⟩) h'
                · exact Or.inr ⟨by omega, fun q => h' (Or.inr q)⟩
        · rw [if_neg c3]
          refine ⟨?_, fun t => ?_⟩
          · by_cases d : y.2 < to
            · exact (i1.weak (by omega)).wide (by omega)
            · have hr : mi to y.2 v = [] := by
                cases hq : mi to y.2 v with
                | nil => rfl
                | cons z r =>
                  rw [hq] at i1
                  have := i1.1
                  have := i1.2.1
                  have := i1.2.2.1
                  omega
              rw [hr]
              trivial
          · rw [i2, hasB_cons]
            constructor
            · rintro ⟨h, h'⟩
              exact ⟨by omega, fun q => q.elim (fun q => by omega) h'⟩
            · rintro ⟨h, h'⟩
              by_cases d2 : t < y.2
              · exact absurd (Or.inl ⟨by omega, d2⟩) h'
              · exact ⟨by omega, fun q => h' (Or.inr q)⟩
theorem rests_nf (u v : List Win) (lo hi lo' hi' : Int) (hu : Nf lo hi u) (hv : Nf lo' hi' v) :
    Nf lo hi (rests u v) ∧ ∀ t, hasB (rests u v) t = true ↔ (hasB u t = true ∧ ¬ hasB v t = true) := by
  induction u generalizing lo with
  | nil => exact ⟨trivial, fun t => by simp [rests, hasB]⟩
  | cons x u ih =>
    obtain ⟨a1, a2, a3, a4⟩ := hu
    obtain ⟨i1, i2⟩ := ih x.2 a4
    obtain ⟨r1, r2⟩ := mi_nf x.2 x.1 lo' hi' v hv
    unfold rests
    refine ⟨((r1.weak (by omega)).wide (by omega) : Nf lo x.2 _).app i1 (by omega) a3, fun t => ?_⟩
    rw [hasB_append, r2, i2, hasB_cons]
    constructor
    · rintro (h | h)
      · exact ⟨Or.inl h.1, h.2⟩
      · exact ⟨Or.inr h.1, h.2⟩
    · rintro ⟨h | h, h'⟩
      · exact Or.inl ⟨h, h'⟩
      · exact Or.inr ⟨h, h'⟩

/-! ### Lengths -/
def len : List Win → Int
  | [] => 0
  | x :: l => (x.2 - x.1) + len l
def cnt : Nat → (Int → Bool) → Int
  | 0, _ => 0
  | n + 1, p => cnt n p + if p n then 1 else 0
theorem cnt_congr (n : Nat) (p q : Int → Bool) (h : ∀ t, p t = q t) : cnt n p = cnt n q := by
  induction n with
  | zero => rfl
  | succ n ih => simp only [cnt, ih, h]
theorem cnt_add (n : Nat) (p q r s : Int → Bool) (h : ∀ t, ((if p t then 1 else 0) + (if q t then 1 else 0) : Int) = (if r t then 1 else 0) + (if s t then 1 else 0)) : cnt n p + cnt n q = cnt n r + cnt n s := by
  induction n with
  | zero => rfl
  | succ n ih =>
    have := h n
    simp only [cnt]
    omega
theorem cnt_no (n : Nat) (p : Int → Bool) (h : ∀ t, p t = false) : cnt n p = 0 := by
  induction n with
  | zero => rfl
  | succ n ih => simp [cnt, ih, h]
theorem cnt_win (n : Nat) (x y : Int) (h0 : 0 ≤ x) (h1 : x ≤ y) : cnt n (fun t => decide (x ≤ t) && decide (t < y)) = max 0 (min y n - x) := by
  induction n with
  | zero => simp only [cnt]; omega
  | succ n ih =>
    simp only [cnt, ih]
    by_cases a : x ≤ (n : Int)
    · by_cases b : (n : Int) < y
      · simp [a, b]; omega
      · simp [a, b]; omega
    · simp [a]; omega
theorem len_cnt (n : Nat) (l : List Win) (lo hi : Int) (h : Nf lo hi l) (hlo : -1 ≤ lo) (hn : hi ≤ n) : len l = cnt n (hasB l) := by
  induction l generalizing lo with
  | nil => exact (cnt_no n (hasB []) fun t => rfl).symm
  | cons x l ih =>
    obtain ⟨a1, a2, a3, a4⟩ := h
    have k1 : ∀ t, hasB l t = true → x.2 < t := fun t h => (a4.has h).1
    have e1 := cnt_win n x.1 x.2 (by omega) (by omega)
    have e2 := cnt_add n (hasB (x :: l)) (fun _ => false) (fun t => decide (x.1 ≤ t) && decide (t < x.2)) (hasB l) (fun t => by
      have hk := k1 t
      cases hb : hasB l t with
      | false => simp [hasB, hb]
      | true =>
        have := hk hb
        have c : ¬ t < x.2 := by omega
        simp [hasB, hb, c])
    rw [cnt_no n (fun _ => false) fun _ => rfl, e1] at e2
    rw [len, ih x.2 a4 (by omega)]
    omega
theorem len_append (l m : List Win) : len (l ++ m) = len l + len m := by
  induction l with
  | nil => simp [len]
  | cons x l ih => rw [List.cons_append, len, len, ih]; omega
theorem len_bd (l : List Win) (lo hi : Int) (h : Nf lo hi l) (hlh : lo ≤ hi) : 0 ≤ len l ∧ len l ≤ hi - lo := by
  induction l generalizing lo with
  | nil => simp only [len]; omega
  | cons x l ih =>
    obtain ⟨a1, a2, a3, a4⟩ := h
    have := ih x.2 a4 a3
    simp only [len]
    omega
end Go.Proofs.YtkiedopknoekpaaDoor
