/-
  Plain facts of strings sorted by their lengths. No program is named here. No condition.
-/
import Derived.Test.YtkbfpkejogdieaaPzH
import Derived.Test.YtkbfpkejogdieaaPqP
namespace Go.Proofs.Ytkbfpkejogdieaa
open Go.RowKit
set_option linter.unusedVariables false

def SP (V : List ByteArray) : Prop := V.Pairwise (fun a b => a.size ≤ b.size)
theorem kZ_lt (x y : ByteArray) : kZ false x < kZ false y ↔ x.size < y.size := by unfold kZ; omega
theorem insR_SP (x : ByteArray) (V : List ByteArray) (h : SP V) : SP (insR (kZ false) x V) := by
  induction V with
  | nil => exact List.pairwise_singleton _ _
  | cons y V ih =>
    obtain ⟨h1, h2⟩ := List.pairwise_cons.1 h
    unfold insR
    split
    · rename_i hc0
      have hc := (kZ_lt x y).1 hc0
      refine List.pairwise_cons.2 ⟨fun z hz => ?_, h⟩
      rcases List.mem_cons.1 hz with rfl | hz
      · show x.size ≤ _; omega
      · have := h1 z hz; omega
    · rename_i hc0
      have hc : ¬ x.size < y.size := fun e => hc0 ((kZ_lt x y).2 e)
      refine List.pairwise_cons.2 ⟨fun z hz => ?_, ih h2⟩
      rcases List.mem_cons.1 ((insR_perm x V).mem_iff.1 hz) with rfl | hz
      · show y.size ≤ _; omega
      · exact h1 z hz
def eqs (s : Nat) (x : ByteArray) : Bool := x.size == s
def lts (s : Nat) (x : ByteArray) : Bool := decide (x.size < s)
def gts (s : Nat) (x : ByteArray) : Bool := decide (s < x.size)
theorem filter_none {V : List ByteArray} {p : ByteArray → Bool} (h : ∀ v ∈ V, p v = false) : V.filter p = [] := List.filter_eq_nil_iff.2 fun v hv => by rw [h v hv]; decide
theorem insR_eqs (s : Nat) (x : ByteArray) (V : List ByteArray) (h : SP V) : (insR (kZ false) x V).filter (eqs s) = V.filter (eqs s) ++ (if eqs s x then [x] else []) := by
  induction V with
  | nil =>
    show [x].filter (eqs s) = _
    cases hq : eqs s x <;> simp [hq]
  | cons y V ih =>
    obtain ⟨h1, h2⟩ := List.pairwise_cons.1 h
    unfold insR
    split
    · rename_i hc0
      have hc := (kZ_lt x y).1 hc0
      cases hq : eqs s x with
      | false => simp [List.filter_cons, hq]
      | true =>
        have hs : x.size = s := by simpa [eqs] using hq
        have h0 : (y :: V).filter (eqs s) = [] := filter_none fun v hv => by
          rcases List.mem_cons.1 hv with rfl | hv
          · unfold eqs; simp; omega
          · have := h1 v hv; unfold eqs; simp; omega
        rw [List.filter_cons, hq, h0]; simp
    · rw [List.filter_cons, List.filter_cons, ih h2]
      split <;> simp
theorem st_all (l : List ByteArray) : ∀ V : List ByteArray, SP V → SP (l.foldl (fun V x => insR (kZ false) x V) V) ∧ ∀ s, (l.foldl (fun V x => insR (kZ false) x V) V).filter (eqs s) = V.filter (eqs s) ++ l.filter (eqs s) := by
  induction l with
  | nil => intro V h; exact ⟨h, fun s => by simp⟩
  | cons x l ih =>
    intro V h
    obtain ⟨i1, i2⟩ := ih _ (insR_SP x V h)
    refine ⟨i1, fun s => ?_⟩
    rw [List.foldl_cons, i2, insR_eqs s x V h, List.append_assoc, List.filter_cons]
    congr 1
    split <;> simp
theorem st_SP (l : List ByteArray) : SP (stS (kZ false) l) := (st_all l [] List.Pairwise.nil).1
theorem st_eqs (l : List ByteArray) (s : Nat) : (stS (kZ false) l).filter (eqs s) = l.filter (eqs s) := by
  have := (st_all l [] List.Pairwise.nil).2 s
  rw [List.filter_nil, List.nil_append] at this
  exact this
theorem split3 (s : Nat) (V : List ByteArray) (h : SP V) : V = V.filter (lts s) ++ (V.filter (eqs s) ++ V.filter (gts s)) := by
  induction V with
  | nil => rfl
  | cons x V ih =>
    obtain ⟨h1, h2⟩ := List.pairwise_cons.1 h
    have ihn := ih h2
    rcases Nat.lt_trichotomy x.size s with c | c | c
    · have e1 : lts s x = true := decide_eq_true c
      have e2 : eqs s x = false := by unfold eqs; simp; omega
      have e3 : gts s x = false := decide_eq_false (by omega)
      rw [List.filter_cons, List.filter_cons, List.filter_cons, e1, e2, e3]
      simp only [if_true, Bool.false_eq_true, if_false, List.cons_append]
      rw [← ihn]
    · have e1 : lts s x = false := decide_eq_false (by omega)
      have e2 : eqs s x = true := by unfold eqs; simp; omega
      have e3 : gts s x = false := decide_eq_false (by omega)
      have n1 : V.filter (lts s) = [] := filter_none fun v hv => by have := h1 v hv; exact decide_eq_false (by omega)
      rw [n1, List.nil_append] at ihn
      rw [List.filter_cons, List.filter_cons, List.filter_cons, e1, e2, e3, n1]
      simp only [if_true, Bool.false_eq_true, if_false, List.nil_append, List.cons_append]
      rw [← ihn]
    · have e1 : lts s x = false := decide_eq_false (by omega)
      have e2 : eqs s x = false := by unfold eqs; simp; omega
      have e3 : gts s x = true := decide_eq_true c
      have n1 : V.filter (lts s) = [] := filter_none fun v hv => by have := h1 v hv; exact decide_eq_false (by omega)
      have n2 : V.filter (eqs s) = [] := filter_none fun v hv => by have := h1 v hv; unfold eqs; simp; omega
      rw [n1, n2, List.nil_append, List.nil_append] at ihn
      rw [List.filter_cons, List.filter_cons, List.filter_cons, e1, e2, e3, n1, n2]
      simp only [if_true, Bool.false_eq_true, if_false, List.nil_append]
      rw [← ihn]
/-- How many strings are shorter than s; how many of the first i have the length s. -/
def cl (l : List ByteArray) (s : Nat) : Nat := l.countP (lts s)
def ce (l : List ByteArray) (s i : Nat) : Nat := (l.take i).countP (eqs s)
theorem ce_zero (l : List ByteArray) (s : Nat) : ce l s 0 = 0 := by simp [ce]
theorem takeS_snoc (l : List ByteArray) (k : Nat) (h : k < l.length) : l.take (k + 1) = l.take k ++ [l.getD k ByteArray.empty] := by
  rw [List.take_succ_eq_append_getElem h]
  simp [h]
theorem ce_succ (l : List ByteArray) (s i : Nat) (hi : i < l.length) : ce l s (i + 1) = ce l s i + (if (l.getD i ByteArray.empty).size = s then 1 else 0) := by
  unfold ce
  rw [takeS_snoc l i hi, List.countP_append]
  congr 1
  simp [eqs, List.countP_cons]
theorem ce_le (l : List ByteArray) (s i : Nat) : ce l s i ≤ ce l s l.length := by
  unfold ce
  rw [List.take_length]
  have h := List.take_append_drop i l
  have h2 : l.countP (eqs s) = (l.take i).countP (eqs s) + (l.drop i).countP (eqs s) := by rw [← List.countP_append, h]
  omega
theorem cl_next (l : List ByteArray) (s : Nat) : cl l s + ce l s l.length = cl l (s + 1) := by
  unfold cl ce
  rw [List.take_length]
  induction l with
  | nil => rfl
  | cons x l ih =>
    rw [List.countP_cons, List.countP_cons, List.countP_cons, ← ih]
    by_cases h1 : x.size < s
    · have e1 : lts s x = true := decide_eq_true h1
      have e2 : eqs s x = false := by unfold eqs; simp; omega
      have e3 : lts (s + 1) x = true := decide_eq_true (by omega)
      rw [e1, e2, e3]; simp; omega
    · by_cases h2 : x.size = s
      · have e1 : lts s x = false := decide_eq_false h1
        have e2 : eqs s x = true := by unfold eqs; simp; omega
        have e3 : lts (s + 1) x = true := decide_eq_true (by omega)
        rw [e1, e2, e3]; simp; omega
      · have e1 : lts s x = false := decide_eq_false h1
        have e2 : eqs s x = false := by unfold eqs; simp; omega
        have e3 : lts (s + 1) x = false := decide_eq_false (by omega)
        rw [e1, e2, e3]; simp
theorem cl_zero (l : List ByteArray) : cl l 0 = 0 := by
  unfold cl
  rw [List.countP_eq_zero]
  intro x _
  simp [lts]
theorem cl_le (l : List ByteArray) (s : Nat) : cl l s ≤ l.length := List.countP_le_length
/-- Nothing between two lengths. -/
theorem cl_jump (l : List ByteArray) (s t : Nat) (h : ∀ x ∈ l, s ≤ x.size → t ≤ x.size) (hst : s ≤ t) : cl l s = cl l t := by
  unfold cl
  refine List.countP_congr fun x hx => ?_
  have := h x hx
  simp only [lts, decide_eq_true_iff]
  omega
theorem cl_all (l : List ByteArray) (s : Nat) (h : ∀ x ∈ l, x.size < s) : cl l s = l.length := by
  unfold cl
  rw [List.countP_eq_length]
  intro x hx
  exact decide_eq_true (h x hx)
/-- Where a string lies among the sorted ones. -/
theorem st_at (l : List ByteArray) (i : Nat) (hi : i < l.length) :
    cl l (l.getD i ByteArray.empty).size + ce l (l.getD i ByteArray.empty).size i < l.length ∧ (stS (kZ false) l).getD (cl l (l.getD i ByteArray.empty).size + ce l (l.getD i ByteArray.empty).size i) ByteArray.empty = l.getD i ByteArray.empty := by
  obtain ⟨x, hx⟩ : ∃ x, l.getD i ByteArray.empty = x := ⟨_, rfl⟩
  rw [hx]
  have h3 := split3 x.size (stS (kZ false) l) (st_SP l)
  have hc : ((stS (kZ false) l).filter (lts x.size)).length = cl l x.size := by
    rw [← List.countP_eq_length_filter]
    exact (stS_perm l).countP_eq _
  rw [st_eqs] at h3
  have hf : l.filter (eqs x.size) = (l.take i).filter (eqs x.size) ++ x :: (l.drop (i + 1)).filter (eqs x.size) := by
    have e : l = l.take i ++ (x :: l.drop (i + 1)) := by
      have h5 := List.drop_eq_getElem_cons hi
      have h6 : l[i] = x := by rw [← hx]; simp [hi]
      rw [h6] at h5
      rw [← h5, List.take_append_drop]
    have h7 := congrArg (List.filter (eqs x.size)) e
    rw [List.filter_append, List.filter_cons, show eqs x.size x = true by simp [eqs], if_pos rfl] at h7
    exact h7
  have hce : ((l.take i).filter (eqs x.size)).length = ce l x.size i := by
    rw [← List.countP_eq_length_filter]; rfl
  have hsucc := ce_succ l x.size i hi
  rw [hx, if_pos rfl] at hsucc
  have hle := ce_le l x.size (i + 1)
  have hn := cl_next l x.size
  have hl := cl_le l (x.size + 1)
  refine ⟨by omega, ?_⟩
  rw [List.getD_eq_getElem?_getD, h3, List.getElem?_append_right (by rw [hc]; omega), hc, Nat.add_sub_cancel_left, hf, List.append_assoc, List.getElem?_append_right (by rw [hce]; omega), hce]
  simp
end Go.Proofs.Ytkbfpkejogdieaa
