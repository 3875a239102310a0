/-
  Plain maths of the library's stable sort, the rest: the insertion sort of one block, and the passes over blocks.
-/
import Derived.Test.YtjgajcabecklcaaDoorNumQ
namespace Go.Proofs.YtjgajcabecklcaaDoor
open Go.RowKit
set_option linter.unusedVariables false

theorem Same.swf (f : Nat → Nat) (i j a b : Nat) (h1 : a ≤ i) (h2 : i < b) (h3 : a ≤ j) (h4 : j < b) : Same f (swf f i j) a b := by
  unfold Go.Proofs.YtjgajcabecklcaaDoor.swf
  refine ⟨fun x hx => ?_, fun x c1 c2 => ?_, fun y c1 c2 => ?_⟩
  · rw [if_neg (by omega), if_neg (by omega)]
  · by_cases e1 : x = j
    · exact ⟨i, h1, h2, by rw [if_pos e1]⟩
    · by_cases e2 : x = i
      · exact ⟨j, h3, h4, by rw [if_neg e1, if_pos e2]⟩
      · exact ⟨x, c1, c2, by rw [if_neg e1, if_neg e2]⟩
  · by_cases e1 : y = i
    · exact ⟨j, h3, h4, by rw [if_pos rfl, e1]⟩
    · by_cases e2 : y = j
      · by_cases e3 : i = j
        · omega
        · exact ⟨i, h1, h2, by rw [if_neg e3, if_pos rfl, e2]⟩
      · exact ⟨y, c1, c2, by rw [if_neg e2, if_neg e1]⟩

theorem insInner_arr (n : Nat) (k : Nat → Int) (cf : Nat → Nat → Int) (says : ∀ x y, x < n → y < n → (cf x y < 0 ↔ k y < k x)) (a i : Nat) (hi : i < n) :
    ∀ (j : Nat) (f : Nat → Nat), j ≤ i → a ≤ j → (∀ x, x < n → f x < n) → (∀ x y, a ≤ x → x < y → y ≤ i → x ≠ j → y ≠ j → bef k (f x) (f y)) → (∀ y, j < y → y ≤ i → bef k (f j) (f y)) → (∀ x, a ≤ x → x < j → f x < f j) →
      ∃ g, Sort.insInner (ltOf cf) a j (Arr n f) = Arr n g ∧ Srt k g a (i + 1) ∧ Same f g a (i + 1) := by
  intro j
  induction j with
  | zero =>
    intro f h1 h2 hv H1 H2 H3
    refine ⟨f, by rw [Sort.insInner], fun x y c1 c2 c3 => ?_, Same.refl _ _ _⟩
    by_cases e : x = 0
    · rw [e]; exact H2 y (by omega) (by omega)
    · exact H1 x y c1 c2 (by omega) e (by omega)
  | succ j ih =>
    intro f h1 h2 hv H1 H2 H3
    have stop : (a ≤ j → bef k (f j) (f (j + 1))) → Srt k f a (i + 1) := fun hb x y c1 c2 c3 => by
      by_cases e1 : x = j + 1
      · rw [e1]; exact H2 y (by omega) (by omega)
      · by_cases e2 : y = j + 1
        · rw [e2]
          have hb' := hb (by omega)
          by_cases e3 : x = j
          · rw [e3]; exact hb'
          · exact (H1 x j c1 (by omega) (by omega) e1 (by omega)).trans hb'
        · exact H1 x y c1 c2 (by omega) e1 e2
    rw [Sort.insInner]
    by_cases c : a ≤ j
    · have hs := says (f (j + 1)) (f j) (hv _ (by omega)) (hv _ (by omega))
      by_cases hlt : cf (f (j + 1)) (f j) < 0
      · have hcond : (decide (j + 1 > a) && ltOf cf (Arr n f)[j + 1]! (Arr n f)[j]!) = true := by
          rw [Arr_get n f _ (by omega), Arr_get n f _ (by omega)]
          simp only [Bool.and_eq_true, decide_eq_true_eq]
          exact ⟨by omega, decide_eq_true hlt⟩
        rw [if_pos hcond, swp_arr n f _ _ (by omega) (by omega)]
        have hk := hs.1 hlt
        have e0 : swf f (j + 1) j j = f (j + 1) := by unfold swf; rw [if_pos rfl]
        have e1 : swf f (j + 1) j (j + 1) = f j := by unfold swf; rw [if_neg (by omega), if_pos rfl]
        have e2 : ∀ x, x ≠ j → x ≠ j + 1 → swf f (j + 1) j x = f x := fun x c1 c2 => by unfold swf; rw [if_neg c1, if_neg c2]
        obtain ⟨g, hg, hS, hM⟩ := ih (swf f (j + 1) j) (by omega) c
          (fun x hx => by
            by_cases d1 : x = j
            · rw [d1, e0]; exact hv _ (by omega)
            · by_cases d2 : x = j + 1
              · rw [d2, e1]; exact hv _ (by omega)
              · rw [e2 x d1 d2]; exact hv x hx)
          (fun x y c1 c2 c3 c4 c5 => by
            by_cases d1 : x = j + 1
            · rw [d1, e1, e2 y c5 (by omega)]
              exact H1 j y c (by omega) c3 (by omega) (by omega)
            · rw [e2 x c4 d1]
              by_cases d2 : y = j + 1
              · rw [d2, e1]
                exact H1 x j c1 (by omega) (by omega) d1 (by omega)
              · rw [e2 y c5 d2]
                exact H1 x y c1 c2 c3 d1 d2)
          (fun y c1 c2 => by
            rw [e0]
            by_cases d : y = j + 1
            · rw [d, e1]; exact Or.inl hk
            · rw [e2 y (by omega) d]; exact H2 y (by omega) c2)
          (fun x c1 c2 => by
            rw [e0, e2 x (by omega) (by omega)]
            exact H3 x c1 (by omega))
        exact ⟨g, hg, hS, (Same.swf f (j + 1) j a (i + 1) (by omega) (by omega) c (by omega)).trans hM⟩
      · have hcond : ¬ (decide (j + 1 > a) && ltOf cf (Arr n f)[j + 1]! (Arr n f)[j]!) = true := by
          rw [Arr_get n f _ (by omega), Arr_get n f _ (by omega)]
          simp only [Bool.and_eq_true, decide_eq_true_eq]
          intro h
          exact hlt (of_decide_eq_true h.2)
        rw [if_neg hcond]
        refine ⟨f, rfl, stop fun _ => ?_, Same.refl _ _ _⟩
        have hk := (not_congr hs).1 hlt
        have hx := H3 j c (by omega)
        unfold bef
        omega
    · have hcond : ¬ (decide (j + 1 > a) && ltOf cf (Arr n f)[j + 1]! (Arr n f)[j]!) = true := by
        simp only [Bool.and_eq_true, decide_eq_true_eq]
        intro h
        omega
      rw [if_neg hcond]
      exact ⟨f, rfl, stop fun h => absurd h c, Same.refl _ _ _⟩

theorem insOuter_arr (n : Nat) (k : Nat → Int) (cf : Nat → Nat → Int) (says : ∀ x y, x < n → y < n → (cf x y < 0 ↔ k y < k x)) (a b : Nat) (hb : b ≤ n) :
    ∀ (c i : Nat) (f : Nat → Nat), b - i ≤ c → a < i → (∀ x, x < n → f x < n) → Srt k f a i → (∀ x, a ≤ x → x < i → x < b → f x < i) → (∀ x, i ≤ x → x < b → f x = x) →
      ∃ g, Sort.insOuter (ltOf cf) a b i (Arr n f) = Arr n g ∧ Srt k g a b ∧ Same f g a b := by
  intro c
  induction c with
  | zero =>
    intro f i h1 h2 hv H1 H2 H3
    rw [Sort.insOuter, if_neg (by omega)]
    exact ⟨_, rfl, fun x y c1 c2 c3 => H1 x y c1 c2 (by omega), Same.refl _ _ _⟩
  | succ c ih =>
    intro i f h1 h2 hv H1 H2 H3
    rw [Sort.insOuter]
    by_cases hib : i < b
    · rw [if_pos hib]
      obtain ⟨g, hg, hS, hM⟩ := insInner_arr n k cf says a i (by omega) i f (Nat.le_refl _) (by omega) hv (fun x y c1 c2 c3 c4 c5 => H1 x y c1 c2 (by omega)) (fun y c1 c2 => by omega)
        (fun x c1 c2 => by rw [H3 i (Nat.le_refl _) hib]; exact H2 x c1 c2 (by omega))
      rw [hg]
      have hval : ∀ x, a ≤ x → x < i + 1 → f x < i + 1 := fun x c1 c2 => by
        by_cases e : x = i
        · rw [e, H3 i (Nat.le_refl _) hib]; omega
        · have := H2 x c1 (by omega) (by omega)
          omega
      obtain ⟨g2, hg2, hS2, hM2⟩ := ih (i + 1) g (by omega) (by omega)
        (fun x hx => by
          by_cases e : a ≤ x ∧ x < i + 1
          · obtain ⟨y, d1, d2, e2⟩ := hM.of x e.1 e.2
            rw [e2]; exact hv y (by omega)
          · rw [hM.out x (by omega)]; exact hv x hx) hS
        (fun x c1 c2 _ => by
          obtain ⟨y, d1, d2, e2⟩ := hM.of x c1 c2
          rw [e2]
          exact hval y d1 d2)
        (fun x c1 c2 => by rw [hM.out x (Or.inr c1)]; exact H3 x (by omega) c2)
      exact ⟨g2, hg2, hS2, (hM.wide (Nat.le_refl _) (by omega)).trans hM2⟩
    · rw [if_neg hib]
      exact ⟨_, rfl, fun x y c1 c2 c3 => H1 x y c1 c2 (by omega), Same.refl _ _ _⟩

/-- One block, whose indices stand as at the beginning. -/
theorem ins_plain (n : Nat) (k : Nat → Int) (cf : Nat → Nat → Int) (says : ∀ x y, x < n → y < n → (cf x y < 0 ↔ k y < k x)) (a b : Nat) (hb : b ≤ n) (f : Nat → Nat) (hv : ∀ x, x < n → f x < n) (hid : ∀ x, a ≤ x → x < b → f x = x) :
    ∃ g, Sort.insertionSort (ltOf cf) (Arr n f) a b = Arr n g ∧ Srt k g a b ∧ Same f g a b :=
  insOuter_arr n k cf says a b hb (b - (a + 1)) (a + 1) f (Nat.le_refl _) (by omega) hv (fun x y c1 c2 c3 => by omega) (fun x c1 c2 c3 => by rw [hid x c1 c3]; exact c2) (fun x c1 c2 => hid x (by omega) c2)

/-- A block in order, of its own indices. -/
def Blk (k : Nat → Int) (f : Nat → Nat) (a b : Nat) : Prop := Srt k f a b ∧ ∀ x, a ≤ x → x < b → a ≤ f x ∧ f x < b
theorem Blk.congr {k : Nat → Int} {f g : Nat → Nat} {a b : Nat} (h : Blk k f a b) (e : ∀ x, a ≤ x → x < b → g x = f x) : Blk k g a b := by
  refine ⟨fun x y c1 c2 c3 => ?_, fun x c1 c2 => ?_⟩
  · rw [e x c1 (by omega), e y (by omega) c3]; exact h.1 x y c1 c2 c3
  · rw [e x c1 c2]; exact h.2 x c1 c2
theorem Blk.low {k : Nat → Int} {f : Nat → Nat} {a m b : Nat} (h1 : Blk k f a m) (h2 : Blk k f m b) : Low f a m b := fun x y c1 c2 c3 c4 => by
  have := (h1.2 x c1 c2).2
  have := (h2.2 y c3 c4).1
  omega
theorem Blk.join {k : Nat → Int} {f g : Nat → Nat} {a m b : Nat} (h1 : Blk k f a m) (h2 : Blk k f m b) (ham : a ≤ m) (hmb : m ≤ b) (h : Merged k f g a b) : Blk k g a b := by
  refine ⟨h.1, fun x c1 c2 => ?_⟩
  obtain ⟨y, d1, d2, e⟩ := h.2.of x c1 c2
  rw [e]
  by_cases c : y < m
  · have := h1.2 y d1 c; omega
  · have := h2.2 y (by omega) d2; omega
inductive Pre (k : Nat → Int) (f : Nat → Nat) (bs n : Nat) : Nat → Prop
  | zero : Pre k f bs n 0
  | more {a : Nat} : Pre k f bs n a → a + bs ≤ n → Blk k f a (a + bs) → Pre k f bs n (a + bs)
inductive Blks (k : Nat → Int) (f : Nat → Nat) (bs n : Nat) : Nat → Prop
  | done {a : Nat} : n ≤ a → Blks k f bs n a
  | more {a : Nat} : a < n → Blk k f a (min (a + bs) n) → Blks k f bs n (a + bs) → Blks k f bs n a
theorem Pre.join {k : Nat → Int} {f : Nat → Nat} {bs n a : Nat} (h0 : 0 < bs) (h : Pre k f bs n a) : Blks k f bs n a → Blks k f bs n 0 := by
  induction h with
  | zero => exact id
  | more h1 h2 h3 ih => exact fun h4 => ih (.more (by omega) (by rw [Nat.min_eq_left h2]; exact h3) h4)
theorem Pre.congr {k : Nat → Int} {f g : Nat → Nat} {bs n a : Nat} (h : Pre k f bs n a) : (∀ x, x < a → g x = f x) → Pre k g bs n a := by
  induction h with
  | zero => exact fun _ => .zero
  | more h1 h2 h3 ih => exact fun e => .more (ih fun x hx => e x (by omega)) h2 (h3.congr fun x c1 c2 => e x c2)
theorem Blks.congr {k : Nat → Int} {f g : Nat → Nat} {bs n a : Nat} (h : Blks k f bs n a) : (∀ x, a ≤ x → x < n → g x = f x) → Blks k g bs n a := by
  induction h with
  | done h => exact fun _ => .done h
  | more h1 h2 h3 ih => exact fun e => .more h1 (h2.congr fun x c1 c2 => e x c1 (by omega)) (ih fun x c1 c2 => e x (by omega) c2)
theorem Blks.split {k : Nat → Int} {f : Nat → Nat} {bs n a : Nat} (h : Blks k f bs n a) (ha : a < n) : Blk k f a (min (a + bs) n) ∧ Blks k f bs n (a + bs) := by
  cases h with
  | done h => omega
  | more h1 h2 h3 => exact ⟨h2, h3⟩
/-- Two whole blocks ahead. -/
theorem Blks.two {k : Nat → Int} {f : Nat → Nat} {bs n a m b : Nat} (h : Blks k f bs n a) (h0 : 0 < bs) (hm : a + bs = m) (hb : m + bs = b) (hbn : b ≤ n) : Blk k f a m ∧ Blk k f m b ∧ Blks k f bs n b := by
  obtain ⟨p1, p2⟩ := h.split (by omega)
  rw [Nat.min_eq_left (by omega), hm] at p1
  rw [hm] at p2
  obtain ⟨p3, p4⟩ := p2.split (by omega)
  rw [Nat.min_eq_left (by omega), hb] at p3
  rw [hb] at p4
  exact ⟨p1, p3, p4⟩
/-- One whole block ahead, and a part of one. -/
theorem Blks.last {k : Nat → Int} {f : Nat → Nat} {bs n a m : Nat} (h : Blks k f bs n a) (h0 : 0 < bs) (hm : a + bs = m) (h1 : m < n) (h2 : n ≤ m + bs) : Blk k f a m ∧ Blk k f m n := by
  obtain ⟨p1, p2⟩ := h.split (by omega)
  rw [Nat.min_eq_left (by omega), hm] at p1
  rw [hm] at p2
  obtain ⟨p3, p4⟩ := p2.split (by omega)
  rw [Nat.min_eq_right (by omega)] at p3
  exact ⟨p1, p3⟩
theorem Blks.one {k : Nat → Int} {f : Nat → Nat} {bs n a : Nat} (h : Blk k f a n) (h2 : n ≤ a + bs) : Blks k f bs n a := by
  by_cases c : a < n
  · exact .more c (by rw [Nat.min_eq_right h2]; exact h) (.done h2)
  · exact .done (by omega)
theorem Blks.whole {k : Nat → Int} {f : Nat → Nat} {bs n : Nat} (h : Blks k f bs n 0) (h2 : n ≤ bs) : Srt k f 0 n := by
  by_cases c : 0 < n
  · obtain ⟨p1, _⟩ := h.split c
    rw [Nat.min_eq_right (by omega)] at p1
    exact p1.1
  · intro x y c1 c2 c3; omega
theorem blk_of_ins {k : Nat → Int} {f g : Nat → Nat} {a b : Nat} (h : Srt k g a b) (hM : Same f g a b) (hid : ∀ x, a ≤ x → x < b → f x = x) : Blk k g a b := by
  refine ⟨h, fun x c1 c2 => ?_⟩
  obtain ⟨y, d1, d2, e⟩ := hM.of x c1 c2
  rw [e, hid y d1 d2]
  exact ⟨d1, d2⟩
end Go.Proofs.YtjgajcabecklcaaDoor
