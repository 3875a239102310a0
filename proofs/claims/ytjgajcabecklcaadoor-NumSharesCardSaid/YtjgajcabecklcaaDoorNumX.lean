/-
  The contract of the reference's Share, at every total and every list of weights.
-/
import Derived.Test.YtjgajcabecklcaaDoorNumW
namespace Go.Proofs.YtjgajcabecklcaaDoor
open Go.RowKit
set_option linter.unusedVariables false

/-- The remainders, those already taken struck out. -/
def Struck (C : List Int) (r : List Nat) (g : Nat → Nat) (n t : Nat) : Prop := C.length = n ∧ ∀ x, x < n → ((∃ j, j < t ∧ g j = x) ∧ C.getD x 0 = -1) ∨ ((∀ j, j < t → g j ≠ x) ∧ C.getD x 0 = ((r.getD x 0 : Nat) : Int))
theorem Struck.start (r : List Nat) (g : Nat → Nat) : Struck (castL r) r g r.length 0 := ⟨castL_length r, fun x hx => Or.inr ⟨fun j hj => by omega, castL_getD r x⟩⟩
theorem Struck.next {C : List Int} {r : List Nat} {g : Nat → Nat} {n t : Nat} (h : Struck C r g n t) (hg : g t < n) : Struck (C.set (g t) (-1)) r g n (t + 1) := by
  refine ⟨by rw [List.length_set]; exact h.1, fun x hx => ?_⟩
  by_cases e : g t = x
  · refine Or.inl ⟨⟨t, Nat.lt_succ_self _, e⟩, ?_⟩
    subst e
    simp [h.1, hx]
  · have hs : (C.set (g t) (-1)).getD x 0 = C.getD x 0 := by
      rw [List.getD_eq_getElem?_getD, List.getElem?_set_ne e, List.getD_eq_getElem?_getD]
    rw [hs]
    rcases h.2 x hx with ⟨⟨j, hj, ej⟩, hc⟩ | ⟨hj, hc⟩
    · exact Or.inl ⟨⟨j, by omega, ej⟩, hc⟩
    · refine Or.inr ⟨fun j hj2 => ?_, hc⟩
      by_cases e2 : j = t
      · rw [e2]; exact e
      · exact hj j (by omega)
/-- The first of the greatest. -/
def Best (C : List Int) (b i : Nat) : Prop := b < i ∧ ∀ x, x < i → x ≠ b → C.getD x 0 < C.getD b 0 ∨ (C.getD x 0 = C.getD b 0 ∧ b < x)
theorem Best.one (C : List Int) : Best C 0 1 := ⟨Nat.lt_succ_self _, fun x h1 h2 => by omega⟩
theorem Best.take {C : List Int} {b i : Nat} (h : Best C b i) (hc : C.getD b 0 < C.getD i 0) : Best C i (i + 1) := by
  refine ⟨Nat.lt_succ_self _, fun x h1 h2 => ?_⟩
  by_cases e : x = b
  · rw [e]; exact Or.inl hc
  · have := h.2 x (by omega) e
    omega
theorem Best.leave {C : List Int} {b i : Nat} (h : Best C b i) (hc : ¬ C.getD b 0 < C.getD i 0) : Best C b (i + 1) := by
  refine ⟨by have := h.1; omega, fun x h1 h2 => ?_⟩
  by_cases e : x = i
  · have := h.1
    rw [e]; omega
  · exact h.2 x (by omega) h2
theorem best_is {C : List Int} {r : List Nat} {g : Nat → Nat} {n t b : Nat} (hS : Struck C r g n t) (ht : t < n) (s : Srt (fun x => (castL r).getD x 0) g 0 n) (m : Same (fun x => x) g 0 n) (hB : Best C b n) : b = g t := by
  obtain ⟨y, _, hy, ey⟩ := m.of t (Nat.zero_le _) ht
  have hgt : g t < n := by rw [ey]; exact hy
  have irr : ∀ i j, i < j → j < n → g i ≠ g j := fun i j h1 h2 e => by
    have := s i j (Nat.zero_le _) h1 h2
    rw [e] at this
    unfold bef at this
    omega
  by_cases e : g t = b
  · exact e.symm
  · exfalso
    have h1 := hB.2 (g t) hgt e
    obtain ⟨i, _, hi, ei⟩ := m.all b (Nat.zero_le _) hB.1
    have hct : C.getD (g t) 0 = ((r.getD (g t) 0 : Nat) : Int) := by
      rcases hS.2 (g t) hgt with ⟨⟨j, hj, ej⟩, _⟩ | ⟨_, hc⟩
      · exact absurd ej (irr j t hj ht)
      · exact hc
    rcases hS.2 b hB.1 with ⟨_, hc⟩ | ⟨hj, hc⟩
    · rw [hct, hc] at h1
      omega
    · have hti : t < i := by
        by_cases c : i < t
        · exact absurd ei (hj i c)
        · by_cases c2 : i = t
          · rw [c2] at ei; exact absurd ei e
          · omega
      have hb := s t i (Nat.zero_le _) hti hi
      rw [ei] at hb
      unfold bef at hb
      dsimp only at hb
      rw [castL_getD, castL_getD] at hb
      rw [hct, hc] at h1
      omega

theorem row_of_owned {w : World} {base : Nat} {e : TypeId} {v : Value} {l : List Int} (h : w.ownsRow base e 1 v l.length (l.map (Value.int .i64))) (h1 : 1 ≤ l.length) : ∃ g cap, v = .slice (some ⟨g, 0, none⟩) l.length cap ∧ base ≤ g ∧ g < w.heap.size ∧ Row w g l := by
  have h0 := h
  obtain ⟨_, h⟩ := h
  rcases h with ⟨rfl, h2⟩ | ⟨g, cap, cur, rfl, hb, hg, hn, hm, hs, ht⟩
  · omega
  · refine ⟨g, cap, rfl, hb, ?_, fun k hk => ⟨?_, h0.frozenAt k⟩⟩
    · rcases Nat.lt_or_ge g w.heap.size with h | h
      · exact h
      · rw [Array.getElem?_eq_none h] at hg; cases hg
    · rw [h0.cellAt k (by omega)]
      simp [hk]

theorem own_ge {w : World} {base : Nat} {e : TypeId} {size : Nat} {v : Value} {n : Nat} {xs : List Value} (h : w.ownsRow base e size v n xs) : ∀ k, v.ownBlock = some k → base ≤ k := fun k hk => (h.lt k hk).1

theorem castL_take_succ (p : List Nat) (k : Nat) (hk : k < p.length) : (castL (p.take (k + 1))).map (Value.int .i64) = (castL (p.take k)).map (Value.int .i64) ++ [.int .i64 ((p.getD k 0 : Nat) : Int)] := by
  have : p.take (k + 1) = p.take k ++ [p.getD k 0] := by
    rw [List.take_add_one]
    simp [hk]
  rw [this]
  simp [castL]
end Go.Proofs.YtjgajcabecklcaaDoor
