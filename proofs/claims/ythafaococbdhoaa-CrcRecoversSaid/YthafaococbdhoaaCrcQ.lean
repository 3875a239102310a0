/-
  The contracts as the laws want them: results as slices of so many elements. Condition: as each says.
-/
import Derived.Test.YthafaococbdhoaaCrcP
namespace Go.Proofs.Ythafaococbdhoaa
open Go.RowKit Go.Maps
set_option linter.unusedVariables false

/-- Seal returns a slice that reads as the bytes K. -/
def SealP (w : World) (K : List UInt8) (k : Nat) (e : Ending) (w' : World) : Prop := ∃ B d, e = .returned (.tuple #[.slice B k d, .int .i64 0]) ∧ k ≤ d ∧ BytR w' B K ∧ Below w.heap.size w w'
theorem seal_ret (A : Option Addr) (l : List UInt8) (m c k : Nat) (w : World) (hk : (fr l).length = k) (hm : l.length = m) (hl : m ≤ 50000) (h : BytR w A l) :
    Calls Try.prog 14 #[.slice A m c] w fun e w' => SealP w (fr l) k e w' := (seal_any A l m c w hm hl h).mono fun e w' hh => by
  obtain ⟨v, rfl, hO, hB⟩ := hh
  obtain ⟨B, d, rfl, hd, hr⟩ := hO.out.form
  exact ⟨B, d, by rw [hk], by omega, hr, hB⟩
theorem refSeal_ret (A : Option Addr) (l : List UInt8) (m c k : Nat) (w : World) (hk : (fr l).length = k) (hm : l.length = m) (hl : m ≤ 50000) (h : BytR w A l) :
    Calls Try.prog 15 #[.slice A m c] w fun e w' => SealP w (fr l) k e w' := (refSeal_any A l m c w hm hl h).mono fun e w' hh => by
  obtain ⟨v, rfl, hO, hB⟩ := hh
  obtain ⟨B, d, rfl, hd, hr⟩ := hO.out.form
  exact ⟨B, d, by rw [hk], by omega, hr, hB⟩
theorem sealBig_any (A : Option Addr) (m c : Nat) (w : World) (hm : 65536 < m) (hl : m ≤ 9223372036854775807) :
    Calls Try.prog 14 #[.slice A m c] w fun e w' => e = .returned (.tuple #[.slice none 0 0, .int .i64 8]) ∧ w = w' := by
  have hz : (65536 : Int) < (m : Int) := by omega
  go_enter Try.func14, Try.ntmps14
  go_wp2_with fail
  go_ret2
  exact ⟨rfl, rfl⟩
/-- Same at equal bytes. -/
theorem sameT_any (A : Option Addr) (m c : Nat) (B : Option Addr) (d : Nat) (l : List UInt8) (w : World) (hm : l.length = m) (hl : m ≤ 1000000) (h : BytR w A l) (h2 : BytR w B l) :
    Calls Try.prog 16 #[.slice A m c, .slice B m d] w fun e w' => e = .returned (.bool true) ∧ Below w.heap.size w w' :=
  (same_any A m c B m d l l true w (by simp) hm hm hl h h2).mono fun e w' ⟨he, q, hq⟩ => ⟨he, hq ▸ Below.drewN (Below.refl _ _) q⟩
theorem sameAllT_any (A : Option Addr) (n c : Nat) (B : Option Addr) (d : Nat) (L : List (List UInt8)) (w : World) (hn : L.length = n) (hl : n ≤ 100000) (hL : ∀ k, (L.getD k []).length ≤ 60000) (h : RowsR w A L) (h2 : RowsR w B L) :
    Calls Try.prog 21 #[.slice A n c, .slice B n d] w fun e w' => e = .returned (.bool true) ∧ Below w.heap.size w w' :=
  (sameAll_any A n c B d L w hn hl hL h h2).mono fun e w' ⟨he, q, hq⟩ => ⟨he, hq ▸ Below.drewN (Below.refl _ _) q⟩
/-- Open returns a slice that reads as the bytes K. -/
def OpenR (w : World) (K : List UInt8) (k : Nat) (X : Int) (E : Nat) (e : Ending) (w' : World) : Prop := ∃ B d, e = .returned (.tuple #[.slice B k d, .int .i64 X, .int .i64 (E : Int)]) ∧ BytR w' B K ∧ Below w.heap.size w w'
theorem open_ret (A : Option Addr) (l : List UInt8) (m c k : Nat) (i : Int) (w : World) (C : List UInt8) (X : Int) (E : Nat) (hk : C.length = k) (hO : Op l i = (C, X, E)) (hm : l.length = m) (hl : m ≤ 60000) (hc : m ≤ c) (h : BytR w A l) (lo : -9223372036854775808 ≤ i) (hi : i ≤ 9223372036854775807) :
    Calls Try.prog 17 #[.slice A m c, .int .i64 i] w fun e w' => OpenR w C k X E e w' := (open_any A l m c i w C X E hO hm hl hc h lo hi).mono fun e w' hh => by
  obtain ⟨v, rfl, hO, hB⟩ := hh
  obtain ⟨B, d, rfl, hd, hr⟩ := hO.form
  exact ⟨B, d, by rw [hk], hr, hB⟩
theorem refOpen_ret (A : Option Addr) (l : List UInt8) (m c k : Nat) (i : Int) (w : World) (C : List UInt8) (X : Int) (E : Nat) (hk : C.length = k) (hO : Op l i = (C, X, E)) (hm : l.length = m) (hl : m ≤ 60000) (hc : m ≤ c) (h : BytR w A l) (lo : -9223372036854775808 ≤ i) (hi : i ≤ 9223372036854775807) :
    Calls Try.prog 18 #[.slice A m c, .int .i64 i] w fun e w' => OpenR w C k X E e w' := (refOpen_any A l m c i w C X E hO hm hl hc h lo hi).mono fun e w' hh => by
  obtain ⟨v, rfl, hO, hB⟩ := hh
  obtain ⟨B, d, rfl, hd, hr⟩ := hO.form
  exact ⟨B, d, by rw [hk], hr, hB⟩
/-- Recover returns slices that read as the lists L. -/
def RecR (w : World) (L : List (List UInt8)) (n X : Nat) (e : Ending) (w' : World) : Prop := ∃ B d, e = .returned (.tuple #[.slice B n d, .int .i64 (X : Int)]) ∧ RowsR w' B L ∧ Below w.heap.size w w'
theorem recover_ret (A : Option Addr) (l : List UInt8) (m c f n : Nat) (w : World) (L : List (List UInt8)) (X : Nat) (hn : L.length = n) (hf : m < f) (hR : Rc l f 0 [] = (L, X)) (hm : l.length = m) (hl : m ≤ 60000) (hc : m ≤ c) (h : BytR w A l) :
    Calls Try.prog 19 #[.slice A m c] w fun e w' => RecR w L n X e w' := (recover_any A l m c f w L X hf hR hm hl hc h).mono fun e w' hh => by
  obtain ⟨v, rfl, hO, hB⟩ := hh
  obtain ⟨B, d, rfl, hd, hr⟩ := hO.form
  exact ⟨B, d, by rw [hn], hr, hB⟩
theorem refRecover_ret (A : Option Addr) (l : List UInt8) (m c n : Nat) (w : World) (L : List (List UInt8)) (X : Nat) (hn : L.length = n) (hR : Rc l (m + 1) 0 [] = (L, X)) (hm : l.length = m) (hl : m ≤ 60000) (hc : m ≤ c) (h : BytR w A l) :
    Calls Try.prog 20 #[.slice A m c] w fun e w' => RecR w L n X e w' := (refRecover_any A l m c w L X hR hm hl hc h).mono fun e w' hh => by
  obtain ⟨v, rfl, hO, hB⟩ := hh
  obtain ⟨B, d, rfl, hd, hr⟩ := hO.form
  exact ⟨B, d, by rw [hn], hr, hB⟩
/-- What Open and Recover answer is no longer than the bytes. -/
theorem Op_len {l : List UInt8} {i X : Int} {C : List UInt8} {E : Nat} (h : Op l i = (C, X, E)) : C.length ≤ l.length ∧ (E ≤ 13) := by
  rcases Op_cases l i with ⟨E', h1, h2, h3⟩ | ⟨k, x, n, rfl, h1, h2, h3, _, _, h6⟩
  · rw [h1] at h
    simp only [Prod.mk.injEq] at h
    obtain ⟨rfl, _, rfl⟩ := h
    exact ⟨by simp, h3⟩
  · rw [h6] at h
    simp only [Prod.mk.injEq] at h
    obtain ⟨rfl, _, rfl⟩ := h
    exact ⟨by rw [List.length_take, List.length_drop]; omega, by decide⟩
theorem Op_bd {l : List UInt8} {i X : Int} {C : List UInt8} {E : Nat} (h : Op l i = (C, X, E)) : 0 ≤ X ∧ X ≤ l.length := by
  rcases Op_cases l i with ⟨E', h1, h2, h3⟩ | ⟨k, x, n, rfl, h1, h2, h3, _, _, h6⟩
  · rw [h1] at h
    simp only [Prod.mk.injEq] at h
    omega
  · rw [h6] at h
    simp only [Prod.mk.injEq] at h
    omega
theorem Rc_len (l : List UInt8) : ∀ (f k : Nat) (acc : List (List UInt8)) (L : List (List UInt8)) (X : Nat), Rc l f k acc = (L, X) → acc.length ≤ k → k ≤ l.length → (∀ j, (acc.getD j []).length ≤ l.length) → L.length ≤ X ∧ X ≤ l.length ∧ ∀ j, (L.getD j []).length ≤ l.length
  | 0, k, acc, L, X, h, h1, h2, h3 => by
    rw [Rc] at h
    simp only [Prod.mk.injEq] at h
    obtain ⟨rfl, rfl⟩ := h
    exact ⟨h1, h2, h3⟩
  | f + 1, k, acc, L, X, h, h1, h2, h3 => by
    rcases Op_cases l (k : Int) with ⟨E', g1, g2, _⟩ | ⟨k', x, n, hk', g1, g2, g3, _, _, g6⟩
    · rw [Rc_err g1 g2] at h
      simp only [Prod.mk.injEq] at h
      obtain ⟨rfl, rfl⟩ := h
      exact ⟨h1, h2, h3⟩
    · rw [Rc_ok g6] at h
      refine Rc_len l f _ _ L X h (by rw [List.length_append, List.length_singleton]; omega) g3 fun j => ?_
      by_cases hj : j < acc.length
      · have e : (acc ++ [(l.drop x).take n]).getD j [] = acc.getD j [] := by simp [List.getD, List.getElem?_append_left hj]
        rw [e]
        exact h3 j
      · by_cases hj2 : j = acc.length
        · subst hj2
          have e : (acc ++ [(l.drop x).take n]).getD acc.length [] = (l.drop x).take n := by simp
          rw [e, List.length_take, List.length_drop]
          omega
        · have e : (acc ++ [(l.drop x).take n]).getD j [] = [] := by
            simp only [List.getD]
            rw [List.getElem?_eq_none (by rw [List.length_append, List.length_singleton]; omega)]
            rfl
          rw [e]
          simp
end Go.Proofs.Ythafaococbdhoaa
