/-
  Plain maths of the library's stable sort: arrays as functions of the index, exchanges of runs, rotations, the merge by rotation, the passes. No model in it but the kit's own insertion sort.
-/
import Derived.Test.YtjgajcabecklcaaDoorNumK
namespace Go.Proofs.YtjgajcabecklcaaDoor
open Go.RowKit
set_option linter.unusedVariables false

def Arr (n : Nat) (f : Nat → Nat) : Array Nat := Array.ofFn (n := n) fun i => f i
def swf (f : Nat → Nat) (i j : Nat) : Nat → Nat := fun x => if x = j then f i else if x = i then f j else f x
def swR (f : Nat → Nat) (a b n : Nat) : Nat → Nat := fun x => if a ≤ x ∧ x < a + n then f (x - a + b) else if b ≤ x ∧ x < b + n then f (x - b + a) else f x
def rotF (f : Nat → Nat) (a m b : Nat) : Nat → Nat := fun x => if a ≤ x ∧ x < a + (b - m) then f (x + (m - a)) else if a + (b - m) ≤ x ∧ x < b then f (x - (b - m)) else f x
theorem Arr_size (n : Nat) (f : Nat → Nat) : (Arr n f).size = n := by simp [Arr]
theorem Arr_get (n : Nat) (f : Nat → Nat) (x : Nat) (h : x < n) : (Arr n f)[x]! = f x := by
  rw [getElem!_pos (Arr n f) x (by rw [Arr_size]; exact h)]
  simp [Arr]
theorem Arr_congr (n : Nat) (f g : Nat → Nat) (h : ∀ x, x < n → f x = g x) : Arr n f = Arr n g := by
  unfold Arr
  congr 1
  funext i
  exact h i i.isLt
theorem swp_arr (n : Nat) (f : Nat → Nat) (i j : Nat) (hi : i < n) (hj : j < n) : Sort.swp (Arr n f) i j = Arr n (swf f i j) := by
  apply Array.ext
  · rw [Sort.size_swp, Arr_size, Arr_size]
  · intro x h1 h2
    have hx : x < n := by rw [Arr_size] at h2; exact h2
    rw [← getElem!_pos _ x h1, ← getElem!_pos _ x h2, Sort.swp_get _ (by rw [Arr_size]; exact hi) (by rw [Arr_size]; exact hj), Arr_get n f i hi, Arr_get n f j hj, Arr_get n f x hx, Arr_get n _ x hx]
    rfl
theorem swR_zero (f : Nat → Nat) (a b : Nat) : swR f a b 0 = f := by
  funext x
  unfold swR
  rw [if_neg (by omega), if_neg (by omega)]
theorem swR_next (f : Nat → Nat) (a b k : Nat) (h : a + (k + 1) ≤ b) : swf (swR f a b k) (a + k) (b + k) = swR f a b (k + 1) := by
  funext x
  unfold swf
  by_cases e1 : x = b + k
  · rw [if_pos e1]
    unfold swR
    rw [if_neg (by omega), if_neg (by omega), if_neg (by omega), if_pos (by omega)]
    congr 1
    omega
  · rw [if_neg e1]
    by_cases e2 : x = a + k
    · rw [if_pos e2]
      unfold swR
      rw [if_neg (by omega), if_neg (by omega), if_pos (by omega)]
      congr 1
      omega
    · rw [if_neg e2]
      unfold swR
      by_cases c1 : a ≤ x ∧ x < a + k
      · rw [if_pos c1, if_pos (by omega)]
      · by_cases c2 : b ≤ x ∧ x < b + k
        · rw [if_neg c1, if_pos c2, if_neg (by omega), if_pos (by omega)]
        · rw [if_neg c1, if_neg c2, if_neg (by omega), if_neg (by omega)]
theorem rotF_at1 (f : Nat → Nat) (a m b x : Nat) (h : a ≤ x ∧ x < a + (b - m)) : rotF f a m b x = f (x + (m - a)) := by
  unfold rotF; rw [if_pos h]
theorem rotF_at2 (f : Nat → Nat) (a m b x : Nat) (h1 : a ≤ m) (h : a + (b - m) ≤ x ∧ x < b) : rotF f a m b x = f (x - (b - m)) := by
  unfold rotF; rw [if_neg (by omega), if_pos h]
theorem rotF_at3 (f : Nat → Nat) (a m b x : Nat) (h1 : a ≤ m) (h2 : m ≤ b) (h : x < a ∨ b ≤ x) : rotF f a m b x = f x := by
  unfold rotF; rw [if_neg (by omega), if_neg (by omega)]
theorem rot_gt (f : Nat → Nat) (p i j : Nat) (h : j < i) : rotF (swR f p (p + i) j) (p + j) (p + i) (p + i + j) = rotF f p (p + i) (p + i + j) := by
  funext x
  by_cases c1 : x < p ∨ p + i + j ≤ x
  · rw [rotF_at3 _ _ _ _ _ (by omega) (by omega) (by omega), rotF_at3 _ _ _ _ _ (by omega) (by omega) (by omega)]
    unfold swR
    rw [if_neg (by omega), if_neg (by omega)]
  · by_cases c2 : x < p + j
    · rw [rotF_at3 _ _ _ _ _ (by omega) (by omega) (by omega), rotF_at1 _ _ _ _ _ (by omega)]
      unfold swR
      rw [if_pos (by omega)]
      congr 1
      omega
    · by_cases c3 : x < p + j + j
      · rw [rotF_at1 _ _ _ _ _ (by omega), rotF_at2 f _ _ _ _ (by omega) (by omega)]
        unfold swR
        rw [if_neg (by omega), if_pos (by omega)]
        congr 1
        omega
      · rw [rotF_at2 _ _ _ _ _ (by omega) (by omega), rotF_at2 f _ _ _ _ (by omega) (by omega)]
        unfold swR
        rw [if_neg (by omega), if_neg (by omega)]
theorem rot_lt (f : Nat → Nat) (p i j : Nat) (h : i ≤ j) : rotF (swR f p (p + j) i) p (p + i) (p + j) = rotF f p (p + i) (p + i + j) := by
  funext x
  by_cases c1 : x < p ∨ p + i + j ≤ x
  · rw [rotF_at3 _ _ _ _ _ (by omega) (by omega) (by omega), rotF_at3 _ _ _ _ _ (by omega) (by omega) (by omega)]
    unfold swR
    rw [if_neg (by omega), if_neg (by omega)]
  · by_cases c2 : x < p + (j - i)
    · rw [rotF_at1 _ _ _ _ _ (by omega), rotF_at1 f _ _ _ _ (by omega)]
      unfold swR
      rw [if_neg (by omega), if_neg (by omega)]
    · by_cases c3 : x < p + j
      · rw [rotF_at2 _ _ _ _ _ (by omega) (by omega), rotF_at1 f _ _ _ _ (by omega)]
        unfold swR
        rw [if_pos (by omega)]
        congr 1
        omega
      · rw [rotF_at3 _ _ _ _ _ (by omega) (by omega) (by omega), rotF_at2 f _ _ _ _ (by omega) (by omega)]
        unfold swR
        rw [if_neg (by omega), if_pos (by omega)]
        congr 1
        omega
theorem rot_eq (f : Nat → Nat) (p i : Nat) : swR f p (p + i) i = rotF f p (p + i) (p + i + i) := by
  funext x
  unfold swR rotF
  by_cases c1 : p ≤ x ∧ x < p + i
  · rw [if_pos c1, if_pos (by omega)]
    congr 1
    omega
  · by_cases c2 : p + i ≤ x ∧ x < p + i + i
    · rw [if_neg c1, if_pos c2, if_neg (by omega), if_pos (by omega)]
      congr 1
      omega
    · rw [if_neg c1, if_neg c2, if_neg (by omega), if_neg (by omega)]
theorem rot_none1 (f : Nat → Nat) (a b : Nat) : rotF f a a b = f := by
  funext x
  unfold rotF
  by_cases c : a ≤ x ∧ x < a + (b - a)
  · rw [if_pos c]; congr 1; omega
  · rw [if_neg c, if_neg (by omega)]
theorem rot_none2 (f : Nat → Nat) (a b : Nat) (h : a ≤ b) : rotF f a b b = f := by
  funext x
  unfold rotF
  rw [if_neg (by omega)]
  by_cases c : a + (b - b) ≤ x ∧ x < b
  · rw [if_pos c]; congr 1; omega
  · rw [if_neg c]
theorem rot_up (f : Nat → Nat) (a k : Nat) (h : a ≤ k) : swf (rotF f a (a + 1) (k + 1)) k (k + 1) = rotF f a (a + 1) (k + 2) := by
  funext x
  unfold swf
  by_cases e1 : x = k + 1
  · rw [if_pos e1, rotF_at2 _ _ _ _ _ (by omega) (by omega), rotF_at2 _ _ _ _ _ (by omega) (by omega)]
    congr 1
    omega
  · rw [if_neg e1]
    by_cases e2 : x = k
    · rw [if_pos e2, rotF_at3 _ _ _ _ _ (by omega) (by omega) (by omega), rotF_at1 _ _ _ _ _ (by omega)]
      congr 1
      omega
    · rw [if_neg e2]
      by_cases c : x < a ∨ k + 2 ≤ x
      · rw [rotF_at3 _ _ _ _ _ (by omega) (by omega) (by omega), rotF_at3 _ _ _ _ _ (by omega) (by omega) (by omega)]
      · rw [rotF_at1 _ _ _ _ _ (by omega), rotF_at1 _ _ _ _ _ (by omega)]
theorem rot_down (f : Nat → Nat) (k m : Nat) (h : k + 1 ≤ m) : swf (rotF f (k + 1) m (m + 1)) (k + 1) k = rotF f k m (m + 1) := by
  funext x
  unfold swf
  by_cases e1 : x = k
  · rw [if_pos e1, rotF_at1 _ _ _ _ _ (by omega), rotF_at1 _ _ _ _ _ (by omega)]
    congr 1
    omega
  · rw [if_neg e1]
    by_cases e2 : x = k + 1
    · rw [if_pos e2, rotF_at3 _ _ _ _ _ (by omega) (by omega) (by omega), rotF_at2 _ _ _ _ _ (by omega) (by omega)]
      congr 1
      omega
    · rw [if_neg e2]
      by_cases c : x < k ∨ m + 1 ≤ x
      · rw [rotF_at3 _ _ _ _ _ (by omega) (by omega) (by omega), rotF_at3 _ _ _ _ _ (by omega) (by omega) (by omega)]
      · rw [rotF_at2 _ _ _ _ _ (by omega) (by omega), rotF_at2 _ _ _ _ _ (by omega) (by omega)]

/-- The greater key comes first; of equal keys the lower index. -/
def bef (k : Nat → Int) (x y : Nat) : Prop := k y < k x ∨ (k x = k y ∧ x < y)
theorem bef.trans {k : Nat → Int} {x y z : Nat} (h1 : bef k x y) (h2 : bef k y z) : bef k x z := by
  unfold bef at *
  omega
def Srt (k : Nat → Int) (f : Nat → Nat) (a b : Nat) : Prop := ∀ x y, a ≤ x → x < y → y < b → bef k (f x) (f y)
/-- g has on a..b what f has there, and elsewhere is f. -/
structure Same (f g : Nat → Nat) (a b : Nat) : Prop where
  out : ∀ x, x < a ∨ b ≤ x → g x = f x
  of : ∀ x, a ≤ x → x < b → ∃ y, a ≤ y ∧ y < b ∧ g x = f y
  all : ∀ y, a ≤ y → y < b → ∃ x, a ≤ x ∧ x < b ∧ g x = f y
theorem Same.refl (f : Nat → Nat) (a b : Nat) : Same f f a b := ⟨fun _ _ => rfl, fun x h1 h2 => ⟨x, h1, h2, rfl⟩, fun x h1 h2 => ⟨x, h1, h2, rfl⟩⟩
theorem Same.trans {f g h : Nat → Nat} {a b : Nat} (h1 : Same f g a b) (h2 : Same g h a b) : Same f h a b := by
  refine ⟨fun x hx => (h2.out x hx).trans (h1.out x hx), fun x c1 c2 => ?_, fun y c1 c2 => ?_⟩
  · obtain ⟨y, d1, d2, e⟩ := h2.of x c1 c2
    obtain ⟨z, d3, d4, e2⟩ := h1.of y d1 d2
    exact ⟨z, d3, d4, e.trans e2⟩
  · obtain ⟨x, d1, d2, e⟩ := h1.all y c1 c2
    obtain ⟨z, d3, d4, e2⟩ := h2.all x d1 d2
    exact ⟨z, d3, d4, e2.trans e⟩
theorem Same.wide {f g : Nat → Nat} {a b c d : Nat} (h : Same f g a b) (h1 : c ≤ a) (h2 : b ≤ d) : Same f g c d := by
  refine ⟨fun x hx => h.out x (by omega), fun x c1 c2 => ?_, fun y c1 c2 => ?_⟩
  · by_cases c : a ≤ x ∧ x < b
    · obtain ⟨y, d1, d2, e⟩ := h.of x c.1 c.2
      exact ⟨y, by omega, by omega, e⟩
    · exact ⟨x, c1, c2, h.out x (by omega)⟩
  · by_cases c : a ≤ y ∧ y < b
    · obtain ⟨x, d1, d2, e⟩ := h.all y c.1 c.2
      exact ⟨x, by omega, by omega, e⟩
    · exact ⟨y, c1, c2, h.out y (by omega)⟩
theorem Same.rot (f : Nat → Nat) (a m b : Nat) (h1 : a ≤ m) (h2 : m ≤ b) : Same f (rotF f a m b) a b := by
  refine ⟨fun x hx => rotF_at3 _ _ _ _ _ h1 h2 hx, fun x c1 c2 => ?_, fun y c1 c2 => ?_⟩
  · by_cases c : x < a + (b - m)
    · exact ⟨x + (m - a), by omega, by omega, rotF_at1 _ _ _ _ _ (by omega)⟩
    · exact ⟨x - (b - m), by omega, by omega, rotF_at2 _ _ _ _ _ h1 (by omega)⟩
  · by_cases c : y < m
    · refine ⟨y + (b - m), by omega, by omega, ?_⟩
      rw [rotF_at2 _ _ _ _ _ h1 (by omega)]
      congr 1
      omega
    · refine ⟨y - (m - a), by omega, by omega, ?_⟩
      rw [rotF_at1 _ _ _ _ _ (by omega)]
      congr 1
      omega
def Low (f : Nat → Nat) (a m b : Nat) : Prop := ∀ x y, a ≤ x → x < m → m ≤ y → y < b → f x < f y
def Merged (k : Nat → Int) (f g : Nat → Nat) (a b : Nat) : Prop := Srt k g a b ∧ Same f g a b

/-- The halves behind a rotation are ready, and all of the left one comes first. -/
theorem merge_split (k : Nat → Int) (f : Nat → Nat) (a s m e b : Nat) (h1 : a ≤ s) (h2 : s ≤ m) (h3 : m ≤ e) (h4 : e ≤ b) (L : Srt k f a m) (R : Srt k f m b) (lo : Low f a m b)
    (hA : a < s → e < b → bef k (f (s - 1)) (f e)) (hB : s < m → m < e → bef k (f (e - 1)) (f s)) :
    Srt k (rotF f s m e) a s ∧ Srt k (rotF f s m e) s (s + (e - m)) ∧ Low (rotF f s m e) a s (s + (e - m)) ∧
    Srt k (rotF f s m e) (s + (e - m)) e ∧ Srt k (rotF f s m e) e b ∧ Low (rotF f s m e) (s + (e - m)) e b ∧
    ∀ x y, a ≤ x → x < s + (e - m) → s + (e - m) ≤ y → y < b → bef k (rotF f s m e x) (rotF f s m e y) := by
  have q1 : ∀ x, x < s → rotF f s m e x = f x := fun x hx => rotF_at3 _ _ _ _ _ h2 h3 (Or.inl hx)
  have q2 : ∀ x, s ≤ x → x < s + (e - m) → rotF f s m e x = f (x + (m - s)) := fun x c1 c2 => rotF_at1 _ _ _ _ _ ⟨c1, c2⟩
  have q3 : ∀ x, s + (e - m) ≤ x → x < e → rotF f s m e x = f (x - (e - m)) := fun x c1 c2 => rotF_at2 _ _ _ _ _ h2 ⟨c1, c2⟩
  have q4 : ∀ x, e ≤ x → rotF f s m e x = f x := fun x hx => rotF_at3 _ _ _ _ _ h2 h3 (Or.inr hx)
  refine ⟨fun x y c1 c2 c3 => ?_, fun x y c1 c2 c3 => ?_, fun x y c1 c2 c3 c4 => ?_, fun x y c1 c2 c3 => ?_, fun x y c1 c2 c3 => ?_, fun x y c1 c2 c3 c4 => ?_, fun x y c1 c2 c3 c4 => ?_⟩
  · rw [q1 x (by omega), q1 y c3]; exact L x y c1 c2 (by omega)
  · rw [q2 x c1 (by omega), q2 y (by omega) c3]; exact R _ _ (by omega) (by omega) (by omega)
  · rw [q1 x c2, q2 y c3 c4]; exact lo _ _ c1 (by omega) (by omega) (by omega)
  · rw [q3 x c1 (by omega), q3 y (by omega) c3]; exact L _ _ (by omega) (by omega) (by omega)
  · rw [q4 x c1, q4 y (by omega)]; exact R _ _ (by omega) (by omega) (by omega)
  · rw [q3 x c1 c2, q4 y c3]; exact lo _ _ (by omega) (by omega) (by omega) (by omega)
  · by_cases d1 : x < s
    · rw [q1 x d1]
      by_cases d2 : y < e
      · rw [q3 y c3 d2]; exact L _ _ (by omega) (by omega) (by omega)
      · rw [q4 y (by omega)]
        have hAB := hA (by omega) (by omega)
        have t1 : bef k (f x) (f e) := by
          by_cases d3 : x = s - 1
          · rw [d3]; exact hAB
          · exact (L x (s - 1) c1 (by omega) (by omega)).trans hAB
        by_cases d4 : y = e
        · rw [d4]; exact t1
        · exact t1.trans (R e y (by omega) (by omega) c4)
    · rw [q2 x (by omega) c2]
      by_cases d2 : y < e
      · rw [q3 y c3 d2]
        have hAB := hB (by omega) (by omega)
        have t1 : bef k (f (x + (m - s))) (f s) := by
          by_cases d3 : x + (m - s) = e - 1
          · rw [d3]; exact hAB
          · exact (R (x + (m - s)) (e - 1) (by omega) (by omega) (by omega)).trans hAB
        by_cases d4 : y - (e - m) = s
        · rw [d4]; exact t1
        · exact t1.trans (L s (y - (e - m)) (by omega) (by omega) (by omega))
      · rw [q4 y (by omega)]; exact R _ _ (by omega) (by omega) c4
theorem merge_join (k : Nat → Int) (f g0 g1 g2 : Nat → Nat) (a mid b : Nat) (h1 : a ≤ mid) (h2 : mid ≤ b) (h0 : Same f g0 a b) (M1 : Merged k g0 g1 a mid) (M2 : Merged k g1 g2 mid b)
    (hX : ∀ x y, a ≤ x → x < mid → mid ≤ y → y < b → bef k (g0 x) (g0 y)) : Merged k f g2 a b := by
  refine ⟨fun x y c1 c2 c3 => ?_, h0.trans ((M1.2.wide (Nat.le_refl _) h2).trans (M2.2.wide h1 (Nat.le_refl _)))⟩
  by_cases d1 : y < mid
  · rw [M2.2.out x (by omega), M2.2.out y (by omega)]
    exact M1.1 x y c1 c2 d1
  · by_cases d2 : mid ≤ x
    · exact M2.1 x y d2 c2 c3
    · rw [M2.2.out x (by omega)]
      obtain ⟨x', e1, e2, e3⟩ := M1.2.of x c1 (by omega)
      obtain ⟨y', e4, e5, e6⟩ := M2.2.of y (by omega) c3
      rw [e3, e6, M1.2.out y' (by omega)]
      exact hX x' y' e1 e2 e4 e5
theorem merged_alone1 (k : Nat → Int) (f : Nat → Nat) (a b : Nat) (h : Srt k f a b) : Merged k f f a b := ⟨h, Same.refl _ _ _⟩
/-- A merge that needs no more than the rotation. -/
theorem merged_rot (k : Nat → Int) (f : Nat → Nat) (a s m e b : Nat) (h1 : a ≤ s) (h2 : s ≤ m) (h3 : m ≤ e) (h4 : e ≤ b) (L : Srt k f a m) (R : Srt k f m b) (lo : Low f a m b)
    (hA : a < s → e < b → bef k (f (s - 1)) (f e)) (hB : s < m → m < e → bef k (f (e - 1)) (f s)) (hl : a = s ∨ m = e) (hr : s = m ∨ e = b) : Merged k f (rotF f s m e) a b := by
  obtain ⟨p1, p2, p3, p4, p5, p6, p7⟩ := merge_split k f a s m e b h1 h2 h3 h4 L R lo hA hB
  refine merge_join k f (rotF f s m e) _ _ a (s + (e - m)) b (by omega) (by omega) ((Same.rot f s m e h2 h3).wide h1 h4) ⟨?_, Same.refl _ _ _⟩ ⟨?_, Same.refl _ _ _⟩ p7
  · rcases hl with rfl | rfl
    · exact p2
    · rw [show s + (m - m) = s by omega]; exact p1
  · rcases hr with rfl | rfl
    · rw [show s + (e - s) = e by omega]; exact p5
    · exact p4
end Go.Proofs.YtjgajcabecklcaaDoor
