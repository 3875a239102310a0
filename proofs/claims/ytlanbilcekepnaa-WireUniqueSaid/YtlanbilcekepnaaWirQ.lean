/-
  Plain facts: what Ints answers is no longer than the bytes; what was encoded is decoded again; what is decoded is encoded as it was. No condition but as each says.
-/
import Derived.Test.YtlanbilcekepnaaWirP
namespace Go.Proofs.Ytlanbilcekepnaa
open Go.RowKit
set_option linter.unusedVariables false

theorem take_glue (l : List UInt8) {k y x : Nat} (h1 : k ≤ y) (h2 : y ≤ x) : (l.drop k).take (x - k) = (l.drop k).take (y - k) ++ (l.drop y).take (x - y) := by
  have e : x - k = (y - k) + (x - y) := by omega
  rw [e, List.take_add, List.drop_drop]
  congr 3
  omega

/-- What rd answers: an error, or so many numbers more, of so many bytes. -/
theorem rd_cases (l : List UInt8) : ∀ (n k : Nat) (acc : List Int), k ≤ l.length → (∃ E, rd l n (k : Int) acc = ([], 0, E) ∧ 1 ≤ E ∧ E ≤ 4) ∨
    (∃ (L : List Int) (x : Nat), k ≤ x ∧ x ≤ l.length ∧ L.length = n ∧ L.length ≤ x - k ∧ WideI L ∧ (l.drop k).take (x - k) = encs L ∧ rd l n (k : Int) acc = (acc ++ L, (x : Int), 0))
  | 0, k, acc, hk => Or.inr ⟨[], k, Nat.le_refl _, hk, rfl, Nat.zero_le _, fun j hj => absurd hj (Nat.not_lt_zero j), by simp [encs], by rw [rd, List.append_nil]⟩
  | n + 1, k, acc, hk => by
    rcases It_cases l (k : Int) with ⟨E, h1, h2, h3⟩ | ⟨k', y, v, hk', h1, h2, h3, h4, h5, h6⟩
    · exact Or.inl ⟨E, rd_err h1 h2, h2, h3⟩
    · obtain rfl : k' = k := by omega
      rw [rd_ok h6]
      rcases rd_cases l n y (acc ++ [v]) h2 with ⟨E, g1, g2, g3⟩ | ⟨L, x, g1, g2, g3, g4, g5, g6, g7⟩
      · exact Or.inl ⟨E, g1, g2, g3⟩
      · refine Or.inr ⟨v :: L, x, by omega, g2, by simp [g3], by rw [List.length_cons]; omega, fun j hj => ?_, ?_, ?_⟩
        · match j with
          | 0 => exact ⟨h3, h4⟩
          | j + 1 =>
            have := g5 j (by simpa using hj)
            simpa using this
        · rw [take_glue l (show k' ≤ y by omega) g1, h5, g6, encs]
        · rw [g7, List.append_assoc]; rfl
theorem Ls_cases (l : List UInt8) (i : Int) : (∃ E, Ls l i = ([], 0, E) ∧ 1 ≤ E ∧ E ≤ 4) ∨
    (∃ (k x : Nat) (L : List Int), i = k ∧ k < x ∧ x ≤ l.length ∧ L.length ≤ l.length ∧ WideI L ∧ (l.drop k).take (x - k) = enc L.length ++ encs L ∧ Ls l i = (L, (x : Int), 0)) := by
  rcases Ln_cases l i with ⟨E, h1, h2, h3⟩ | ⟨k, y, n, rfl, h1, h2, h3, h4, h5, h6⟩
  · exact Or.inl ⟨E, Ls_err h1 h2, h2, h3⟩
  · rw [Ls_ok h6]
    rcases rd_cases l n y [] h2 with ⟨E, g1, g2, g3⟩ | ⟨L, x, g1, g2, g3, g4, g5, g6, g7⟩
    · exact Or.inl ⟨E, g1, g2, g3⟩
    · refine Or.inr ⟨k, x, L, rfl, by omega, g2, by omega, g5, ?_, by rw [g7]; rfl⟩
      rw [take_glue l (show k ≤ y by omega) g1, h4, g6, g3]
theorem Ls_len {l : List UInt8} {i X : Int} {L : List Int} {E : Nat} (h : Ls l i = (L, X, E)) : L.length ≤ l.length := by
  rcases Ls_cases l i with ⟨E', h1, _⟩ | ⟨k, x, L', _, _, _, h4, _, _, h1⟩
  · rw [h1] at h
    simp only [Prod.mk.injEq] at h
    rw [← h.1]
    simp
  · rw [h1] at h
    simp only [Prod.mk.injEq] at h
    rw [← h.1]
    exact h4
theorem Tt_cases (l : List UInt8) (i : Int) : (∃ E, Tt l i = ([], 0, E) ∧ 1 ≤ E ∧ E ≤ 4) ∨
    (∃ (k x : Nat) (T : List UInt8), i = k ∧ k < x ∧ x ≤ l.length ∧ T.length ≤ l.length ∧ (l.drop k).take (x - k) = enc T.length ++ T ∧ Tt l i = (T, (x : Int), 0)) := by
  rcases Ln_cases l i with ⟨E, h1, h2, h3⟩ | ⟨k, y, n, rfl, h1, h2, h3, h4, h5, h6⟩
  · exact Or.inl ⟨E, Tt_err h1 h2, h2, h3⟩
  · by_cases hn : (l.length : Int) - (y : Int) < (n : Int)
    · exact Or.inl ⟨4, Tt_short h6 hn, by decide, by decide⟩
    · have hT : ((l.drop y).take n).length = n := by rw [List.length_take, List.length_drop]; omega
      refine Or.inr ⟨k, y + n, (l.drop y).take n, rfl, by omega, by omega, by omega, ?_, ?_⟩
      · rw [take_glue l (show k ≤ y by omega) (show y ≤ y + n by omega), h4, hT, Nat.add_sub_cancel_left]
      · rw [Tt_ok h6 hn]
        simp
/-- Round trip. -/
theorem Ln_enc {n : Nat} (hi : n ≤ 9223372036854775807) (p q : List UInt8) : Ln (p ++ (enc n ++ q)) (p.length : Int) = ((n : Int), ((p.length + (enc n).length : Nat) : Int), 0) := by
  have h := It_enc (n := (n : Int)) (by omega) (by omega) p q
  rw [Ln_ok h (by omega)]
  simp
theorem Tt_enc (T : List UInt8) (hT : T.length ≤ 9223372036854775807) (p q : List UInt8) : Tt (p ++ ((enc T.length ++ T) ++ q)) (p.length : Int) = (T, ((p.length + (enc T.length ++ T).length : Nat) : Int), 0) := by
  have h := Ln_enc hT p (T ++ q)
  rw [← List.append_assoc (enc _)] at h
  rw [Tt_ok h (by simp only [List.length_append]; omega)]
  have e : ((p ++ ((enc T.length ++ T) ++ q)).drop (p.length + (enc T.length).length)).take T.length = T := by
    have e1 : p ++ ((enc T.length ++ T) ++ q) = (p ++ enc T.length) ++ (T ++ q) := by simp [List.append_assoc]
    rw [e1, List.drop_left' (by simp), List.take_left' rfl]
  rw [e]
  simp only [List.length_append]
  congr 2
  omega
theorem rd_enc : ∀ (L : List Int) (p q : List UInt8) (acc : List Int), (∀ x ∈ L, -9223372036854775808 ≤ x ∧ x ≤ 9223372036854775807) → rd (p ++ (encs L ++ q)) L.length (p.length : Int) acc = (acc ++ L, ((p.length + (encs L).length : Nat) : Int), 0)
  | [], p, q, acc, _ => by simp [rd, encs]
  | v :: L, p, q, acc, h => by
    have hv := h v List.mem_cons_self
    have h1 := It_enc hv.1 hv.2 p (encs L ++ q)
    have ih := rd_enc L (p ++ enc v) q (acc ++ [v]) fun x hx => h x (List.mem_cons_of_mem _ hx)
    have e1 : p ++ (encs (v :: L) ++ q) = p ++ (enc v ++ (encs L ++ q)) := by rw [encs, List.append_assoc]
    have e2 : p ++ (enc v ++ (encs L ++ q)) = (p ++ enc v) ++ (encs L ++ q) := by rw [List.append_assoc]
    rw [e1, List.length_cons, rd_ok h1]
    have e3 : (p.length : Int) + ((enc v).length : Int) = ((p ++ enc v).length : Int) := by rw [List.length_append]; omega
    rw [e3, e2, ih, encs]
    simp only [List.length_append, List.append_assoc, List.singleton_append]
    congr 2
    omega
theorem Ls_enc (L : List Int) (hw : WideI L) (hL : L.length ≤ 9223372036854775807) (p q : List UInt8) : Ls (p ++ ((enc L.length ++ encs L) ++ q)) (p.length : Int) = (L, ((p.length + (enc L.length ++ encs L).length : Nat) : Int), 0) := by
  have h := Ln_enc hL p (encs L ++ q)
  rw [← List.append_assoc (enc _)] at h
  rw [Ls_ok h]
  have h2 := rd_enc L (p ++ enc L.length) q [] hw.mem
  have e1 : p ++ ((enc L.length ++ encs L) ++ q) = (p ++ enc L.length) ++ (encs L ++ q) := by simp [List.append_assoc]
  rw [e1]
  rw [List.length_append] at h2
  rw [h2]
  simp only [List.length_append, List.nil_append]
  congr 2
  omega
end Go.Proofs.Ytlanbilcekepnaa
