/-
  Plain facts of frames: what Recover answers; a frame is opened wherever it stands; frames that are cut off; one changed byte. No program is named here. No condition but as each says.
-/
import Derived.Test.YthafaococbdhoaaCrcPlain
namespace Go.Proofs.Ythafaococbdhoaa
open Go.RowKit
set_option linter.unusedVariables false

/-- What Recover answers, from the index k on, for at most so many frames. -/
def Rc (l : List UInt8) : Nat → Nat → List (List UInt8) → List (List UInt8) × Nat
  | 0, k, acc => (acc, k)
  | f + 1, k, acc => if (Op l k).2.2 = 0 then Rc l f (Op l k).2.1.toNat (acc ++ [(Op l k).1]) else (acc, k)
theorem Rc_err {l : List UInt8} {k : Nat} {E : Nat} (h : Op l k = ([], 0, E)) (hE : 1 ≤ E) : ∀ (f : Nat) (acc : List (List UInt8)), Rc l f k acc = (acc, k)
  | 0, acc => by rw [Rc]
  | f + 1, acc => by rw [Rc, h, if_neg (by simp only; omega)]
theorem Rc_ok {l : List UInt8} {k x f : Nat} {C : List UInt8} {acc : List (List UInt8)} (h : Op l k = (C, (x : Int), 0)) : Rc l (f + 1) k acc = Rc l f x (acc ++ [C]) := by
  rw [Rc, h, if_pos rfl]
  rfl
theorem Op_fr {C : List UInt8} (hC : C.length ≤ 65536) (p q : List UInt8) : Op (p ++ (fr C ++ q)) (p.length : Int) = (C, ((p.length + (fr C).length : Nat) : Int), 0) := by
  have h := It_enc (n := (C.length : Int)) (by omega) (by omega) p (C ++ (tail (cs C) ++ q))
  have e : p ++ (fr C ++ q) = p ++ (enc C.length ++ (C ++ (tail (cs C) ++ q))) := by
    unfold fr
    simp only [List.append_assoc]
  rw [← e] at h
  obtain ⟨x, hx⟩ : ∃ x, p.length + (enc (C.length : Int)).length = x := ⟨_, rfl⟩
  have hxi : (p.length : Int) + ((enc (C.length : Int)).length : Int) = (x : Int) := by omega
  rw [hxi] at h
  have d1 : (p ++ (fr C ++ q)).drop x = C ++ (tail (cs C) ++ q) := by
    rw [e, ← List.append_assoc, List.drop_left' (by rw [List.length_append]; exact hx)]
  have d2 : ((p ++ (fr C ++ q)).drop x).take C.length = C := by rw [d1, List.take_left' rfl]
  have d3 : ((p ++ (fr C ++ q)).drop (x + C.length)).take 4 = tail (cs C) := by
    rw [← List.drop_drop, d1, List.drop_left' rfl, List.take_left' (tail_len _)]
  have hl : (p ++ (fr C ++ q)).length = x + C.length + 4 + q.length := by
    rw [e]
    simp only [List.length_append, tail_len]
    omega
  rw [Op_ok h hC (by omega) (by rw [d2, d3]), d2, fr_len]
  congr 2
  omega
theorem Op_end (l : List UInt8) : Op l (l.length : Int) = ([], 0, 4) := by
  have hd : dec (l.drop l.length) = (0, 0, 4) := by
    rw [List.drop_length]
    rfl
  exact Op_err (It_bad (Nat.le_refl _) hd (by decide)) (by decide)
theorem Op_cut {C : List UInt8} (hC : C.length ≤ 65536) (p : List UInt8) {t : Nat} (ht : t < (fr C).length) : Op (p ++ (fr C).take t) (p.length : Int) = ([], 0, 4) := by
  have hbd := zz_lt (n := (C.length : Int)) (by omega) (by omega)
  rw [fr_len] at ht
  by_cases h : t < (enc (C.length : Int)).length
  · have e : (fr C).take t = (enc (C.length : Int)).take t := by
      unfold fr
      rw [List.take_append_of_le_length (by omega)]
    have hd : dec ((p ++ (fr C).take t).drop p.length) = (0, 0, 4) := by
      rw [List.drop_left' rfl, e]
      exact dec_cut hbd h
    exact Op_err (It_bad (by rw [List.length_append]; omega) hd (by decide)) (by decide)
  · have e : (fr C).take t = enc (C.length : Int) ++ (C ++ tail (cs C)).take (t - (enc (C.length : Int)).length) := by
      unfold fr
      rw [List.take_append, List.take_of_length_le (by omega)]
    have h2 := It_enc (n := (C.length : Int)) (by omega) (by omega) p ((C ++ tail (cs C)).take (t - (enc (C.length : Int)).length))
    rw [← e] at h2
    have hxi : (p.length : Int) + ((enc (C.length : Int)).length : Int) = ((p.length + (enc (C.length : Int)).length : Nat) : Int) := by omega
    rw [hxi] at h2
    refine Op_short h2 hC ?_
    rw [List.length_append, List.length_take, fr_len]
    omega

/-- Frames that follow one another. -/
def frs : List (List UInt8) → List UInt8
  | [] => []
  | C :: L => fr C ++ frs L
theorem frs_append : ∀ (L M : List (List UInt8)), frs (L ++ M) = frs L ++ frs M
  | [], M => rfl
  | C :: L, M => by rw [List.cons_append, frs, frs_append L M, frs, List.append_assoc]
theorem frs_snoc (L : List (List UInt8)) (C : List UInt8) : frs (L ++ [C]) = frs L ++ fr C := by
  rw [frs_append, frs, frs, List.append_nil]
def Mods (L : List (List UInt8)) : Prop := ∀ C ∈ L, C.length ≤ 65536
theorem Rc_frs : ∀ (L : List (List UInt8)) (p q : List UInt8) (f : Nat) (acc : List (List UInt8)), Mods L → Rc (p ++ (frs L ++ q)) (f + L.length) p.length acc = Rc (p ++ (frs L ++ q)) f (p.length + (frs L).length) (acc ++ L)
  | [], p, q, f, acc, _ => by
    rw [frs]
    simp
  | C :: L, p, q, f, acc, h => by
    have hC := h C List.mem_cons_self
    have e1 : p ++ (frs (C :: L) ++ q) = p ++ (fr C ++ (frs L ++ q)) := by rw [frs, List.append_assoc]
    have e2 : p ++ (fr C ++ (frs L ++ q)) = (p ++ fr C) ++ (frs L ++ q) := by rw [List.append_assoc]
    have h1 := Op_fr hC p (frs L ++ q)
    have ih := Rc_frs L (p ++ fr C) q f (acc ++ [C]) fun D hD => h D (List.mem_cons_of_mem _ hD)
    rw [List.length_append] at ih
    rw [e1, List.length_cons, ← Nat.add_assoc, Rc_ok h1, e2, ih, frs, List.length_append]
    congr 1
    · omega
    · rw [List.append_assoc]
      rfl
/-- Frames that are cut off within the next one, or at the end. -/
theorem Rc_cut {L : List (List UInt8)} (h : Mods L) (s : List UInt8) (f : Nat) (hs : s = [] ∨ ∃ C t, C.length ≤ 65536 ∧ t < (fr C).length ∧ s = (fr C).take t) : Rc (frs L ++ s) (f + L.length) 0 [] = (L, (frs L).length) := by
  have h1 := Rc_frs L [] s f [] h
  rw [List.nil_append, List.nil_append, List.length_nil, Nat.zero_add] at h1
  rw [h1]
  refine Rc_err (E := 4) ?_ (by decide) f L
  rcases hs with rfl | ⟨C, t, hC, ht, rfl⟩
  · rw [List.append_nil]
    exact Op_end _
  · exact Op_cut hC (frs L) ht
theorem take_frs : ∀ (L : List (List UInt8)) (cut : Nat), cut ≤ (frs L).length → Mods L → ∃ j s, j ≤ L.length ∧ (frs L).take cut = frs (L.take j) ++ s ∧ (frs (L.take j)).length ≤ cut ∧ (s = [] ∨ ∃ C t, C.length ≤ 65536 ∧ t < (fr C).length ∧ s = (fr C).take t) ∧ (∀ i, i ≤ L.length → ((frs (L.take i)).length ≤ cut ↔ i ≤ j))
  | [], cut, hc, _ => ⟨0, [], Nat.le_refl _, by simp [frs], by simp [frs], Or.inl rfl, fun i hi => by simp [frs] at hi ⊢; omega⟩
  | C :: L, cut, hc, h => by
    have hC := h C List.mem_cons_self
    have hp : 5 ≤ (fr C).length := by
      rw [fr_len]
      have := enc_pos (C.length : Int)
      omega
    by_cases ht : cut < (fr C).length
    · refine ⟨0, (fr C).take cut, Nat.zero_le _, ?_, by simp [frs], Or.inr ⟨C, cut, hC, ht, rfl⟩, fun i hi => ?_⟩
      · rw [List.take_zero, frs, frs, List.nil_append, List.take_append_of_le_length (by omega)]
      · cases i with
        | zero => simp [frs]
        | succ i =>
          rw [List.take_succ_cons, frs, List.length_append]
          omega
    · rw [frs, List.length_append] at hc
      obtain ⟨j, s, h1, h2, h3, h4, h5⟩ := take_frs L (cut - (fr C).length) (by omega) fun D hD => h D (List.mem_cons_of_mem _ hD)
      refine ⟨j + 1, s, by rw [List.length_cons]; omega, ?_, ?_, h4, fun i hi => ?_⟩
      · rw [frs, List.take_append, List.take_of_length_le (by omega), h2, List.take_succ_cons, frs, List.append_assoc]
      · rw [List.take_succ_cons, frs, List.length_append]
        omega
      · cases i with
        | zero => simp [frs]
        | succ i =>
          have := h5 i (by simpa using hi)
          rw [List.take_succ_cons, frs, List.length_append]
          omega
end Go.Proofs.Ythafaococbdhoaa
