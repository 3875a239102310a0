/-
  Plain facts of identifiers: which strings are identifiers, lists of them, and what adding one makes of a list. No program is named here. No condition.
-/
import Derived.Test.YtagpkijgednmnaaProg
import Derived.WalkKit
import Derived.Lib.Hide
import Derived.Maps.OwnSet
import Derived.Maps.AppendAt
namespace Go.Proofs.Ytagpkijgednmnaa
open Go.RowKit
set_option linter.unusedVariables false

instance : LawfulBEq ByteArray where
  eq_of_beq {a b} h := by
    cases a; cases b
    simp only [BEq.beq] at h
    simpa [ByteArray.beq] using h
  rfl {a} := by
    show (a.data == a.data) = true
    exact beq_self_eq_true _
theorem ret_bool {a b : Bool} (h : a = b) : Ending.returned (.bool a) = .returned (.bool b) := by rw [h]
theorem ret_int {k : IntKind} {a b : Int} (h : a = b) : Ending.returned (.int k a) = .returned (.int k b) := by rw [h]
theorem val_int' {k : IntKind} {a b : Int} (h : a = b) : Value.int k a = .int k b := by rw [h]
theorem str_ne {s t : ByteArray} (h : s ≠ t) : (s.toList == t.toList) = false := by
  rw [beq_eq_false_iff_ne]
  intro e
  rw [ByteArray.toList_eq, ByteArray.toList_eq] at e
  exact h (ByteArray.ext (Array.toList_inj.1 e))
def lowB (c : Nat) : Bool := decide (97 ≤ c ∧ c ≤ 122)
def digB (c : Nat) : Bool := decide (48 ≤ c ∧ c ≤ 57)
def chB (c : Nat) : Bool := lowB c || digB c || decide (c = 45)
/-- Byte k of a string. -/
def bt (s : ByteArray) (k : Nat) : Nat := if h : k < s.size then s[k].toNat else 0
theorem bt_eq (s : ByteArray) (k : Nat) (h : k < s.size) : bt s k = s[k].toNat := by unfold bt; rw [dif_pos h]
/-- The strings that are identifiers. -/
def Vd (s : ByteArray) : Bool := decide (1 ≤ s.size ∧ s.size ≤ 32 ∧ (∀ k, k < s.size → chB (bt s k) = true) ∧ lowB (bt s 0) = true ∧ bt s (s.size - 1) ≠ 45)
theorem Vd_short {s : ByteArray} (h : s.size = 0 ∨ 32 < s.size) : Vd s = false := decide_eq_false fun hh => by omega
theorem Vd_bad {s : ByteArray} (k : Nat) (hk : k < s.size) (h : chB (bt s k) = false) : Vd s = false := decide_eq_false fun hh => by
  rw [hh.2.2.1 k hk] at h; exact absurd h (by decide)
theorem Vd_first {s : ByteArray} (h : lowB (bt s 0) = false) : Vd s = false := decide_eq_false fun hh => by
  rw [hh.2.2.2.1] at h; exact absurd h (by decide)
theorem Vd_last {s : ByteArray} (h : bt s (s.size - 1) = 45) : Vd s = false := decide_eq_false fun hh => hh.2.2.2.2 h
theorem Vd_yes {s : ByteArray} (h0 : 1 ≤ s.size) (h1 : s.size ≤ 32) (h2 : ∀ k, k < s.size → chB (bt s k) = true) (h3 : lowB (bt s 0) = true) (h4 : bt s (s.size - 1) ≠ 45) : Vd s = true := decide_eq_true ⟨h0, h1, h2, h3, h4⟩
theorem Vd_size {s : ByteArray} (h : Vd s = true) : 1 ≤ s.size ∧ s.size ≤ 32 := by
  have := of_decide_eq_true h
  exact ⟨this.1, this.2.1⟩
theorem chB_low {c : Nat} (h : lowB c = true) : chB c = true := by unfold chB; rw [h]; rfl
theorem chB_dig {c : Nat} (h : digB c = true) : chB c = true := by unfold chB; rw [h]; simp
theorem chB_hyp {c : Nat} (h : c = 45) : chB c = true := by unfold chB; simp [h]
theorem chB_no {c : Nat} (h1 : lowB c = false) (h2 : digB c = false) (h3 : c ≠ 45) : chB c = false := by unfold chB; simp [h1, h2, h3]
/-- Behind k bytes. -/
def Upto (s : ByteArray) (k : Nat) : Prop := ∀ j, j < k → chB (bt s j) = true
theorem Upto.zero (s : ByteArray) : Upto s 0 := fun j hj => absurd hj (Nat.not_lt_zero j)
theorem Upto.step {s : ByteArray} {k : Nat} (h : Upto s k) (hc : chB (bt s k) = true) : Upto s (k + 1) := fun j hj => by
  rcases Nat.lt_or_ge j k with h1 | h1
  · exact h j h1
  · obtain rfl : j = k := by omega
    exact hc

/-- What Add answers for a table with the identifiers N: the error's number. -/
def addE (N : List ByteArray) (s : ByteArray) : Nat := if Vd s = false then 5 else if s ∈ N then 6 else if N.length = 512 then 8 else 0
def addL (N : List ByteArray) (s : ByteArray) : List ByteArray := if addE N s = 0 then N ++ [s] else N
def addN (N : List ByteArray) (s : ByteArray) : Nat := if addE N s = 0 then N.length else 0
/-- The place of a string in a list, 0 if it isn't there. -/
def plc (N : List ByteArray) (s : ByteArray) : Nat := if s ∈ N then N.idxOf s else 0
theorem addE_name {N : List ByteArray} {s : ByteArray} (h : Vd s = false) : addE N s = 5 := by unfold addE; rw [if_pos h]
theorem addE_twice {N : List ByteArray} {s : ByteArray} (h : Vd s = true) (h2 : s ∈ N) : addE N s = 6 := by unfold addE; rw [if_neg (by rw [h]; decide), if_pos h2]
theorem addE_full {N : List ByteArray} {s : ByteArray} (h : Vd s = true) (h2 : s ∉ N) (h3 : N.length = 512) : addE N s = 8 := by unfold addE; rw [if_neg (by rw [h]; decide), if_neg h2, if_pos h3]
theorem addE_ok {N : List ByteArray} {s : ByteArray} (h : Vd s = true) (h2 : s ∉ N) (h3 : N.length ≠ 512) : addE N s = 0 := by unfold addE; rw [if_neg (by rw [h]; decide), if_neg h2, if_neg h3]
theorem addL_err {N : List ByteArray} {s : ByteArray} (h : addE N s ≠ 0) : addL N s = N := by unfold addL; rw [if_neg h]
theorem addL_ok {N : List ByteArray} {s : ByteArray} (h : addE N s = 0) : addL N s = N ++ [s] := by unfold addL; rw [if_pos h]
theorem addN_err {N : List ByteArray} {s : ByteArray} (h : addE N s ≠ 0) : addN N s = 0 := by unfold addN; rw [if_neg h]
theorem addN_ok {N : List ByteArray} {s : ByteArray} (h : addE N s = 0) : addN N s = N.length := by unfold addN; rw [if_pos h]
theorem addE_zero {N : List ByteArray} {s : ByteArray} (h : addE N s = 0) : Vd s = true ∧ s ∉ N ∧ N.length ≠ 512 := by
  unfold addE at h
  by_cases h1 : Vd s = false
  · rw [if_pos h1] at h; omega
  · rw [if_neg h1] at h
    by_cases h2 : s ∈ N
    · rw [if_pos h2] at h; omega
    · rw [if_neg h2] at h
      by_cases h3 : N.length = 512
      · rw [if_pos h3] at h; omega
      · exact ⟨by simpa using h1, h2, h3⟩
theorem plc_not {N : List ByteArray} {s : ByteArray} (h : s ∉ N) : plc N s = 0 := by unfold plc; rw [if_neg h]
theorem plc_in {N : List ByteArray} {s : ByteArray} (h : s ∈ N) : plc N s = N.idxOf s := by unfold plc; rw [if_pos h]
theorem plc_lt {N : List ByteArray} {s : ByteArray} (h : s ∈ N) : plc N s < N.length := by rw [plc_in h]; exact List.idxOf_lt_length_iff.2 h
theorem plc_get {N : List ByteArray} (hd : N.Nodup) (i : Nat) (hi : i < N.length) : plc N (N.getD i ByteArray.empty) = i := by
  have e : N.getD i ByteArray.empty = N[i] := by simp [hi]
  rw [e, plc_in (List.getElem_mem hi)]
  exact hd.idxOf_getElem i hi
/-- What New answers: the first error's number. -/
def newE : List ByteArray → List ByteArray → Nat
  | _, [] => 0
  | N, s :: r => if addE N s = 0 then newE (N ++ [s]) r else addE N s
/-- A list of identifiers without repetition, of at most 512. -/
def Nice (N : List ByteArray) : Prop := N.Nodup ∧ N.length ≤ 512 ∧ ∀ s ∈ N, Vd s = true
theorem Nice.nil : Nice [] := ⟨List.nodup_nil, by simp, fun s h => by cases h⟩
theorem Nice.snoc {N : List ByteArray} {s : ByteArray} (h : Nice N) (he : addE N s = 0) : Nice (N ++ [s]) := by
  obtain ⟨h1, h2, h3⟩ := addE_zero he
  refine ⟨?_, ?_, ?_⟩
  · rw [List.nodup_append]
    refine ⟨h.1, by simp, fun a ha b hb => ?_⟩
    simp at hb
    subst hb
    exact fun e => h2 (e ▸ ha)
  · have := h.2.1
    simp
    omega
  · intro a ha
    rcases List.mem_append.1 ha with ha | ha
    · exact h.2.2 a ha
    · simp at ha; subst ha; exact h1
theorem Nice.add {N : List ByteArray} (h : Nice N) (s : ByteArray) : Nice (addL N s) := by
  by_cases he : addE N s = 0
  · rw [addL_ok he]; exact h.snoc he
  · rw [addL_err he]; exact h
theorem takeS_snoc (l : List ByteArray) (k : Nat) (h : k < l.length) : l.take (k + 1) = l.take k ++ [l.getD k ByteArray.empty] := by
  rw [List.take_succ_eq_append_getElem h]
  simp [h]
theorem dropS_cons (l : List ByteArray) (k : Nat) (h : k < l.length) : l.drop k = l.getD k ByteArray.empty :: l.drop (k + 1) := by
  rw [List.drop_eq_getElem_cons h]
  simp [h]
end Go.Proofs.Ytagpkijgednmnaa
