/-
  Lists of strings in memory, and the contracts of the functions that only read one. Condition: as each says.
-/
import Derived.Test.YtagpkijgednmnaaIdtA
namespace Go.Proofs.Ytagpkijgednmnaa
open Go.RowKit
set_option linter.unusedVariables false

/-- A slice at address A reads as the strings l. -/
def StR (w : World) (A : Option Addr) (l : List ByteArray) : Prop := 0 < l.length → ∃ b o, A = some ⟨b, o, none⟩ ∧ b < w.heap.size ∧
  ∀ k, k < l.length → w.cell? ⟨b, o + k, none⟩ = some (.string (l.getD k ByteArray.empty))
def WideS (l : List ByteArray) : Prop := ∀ k, k < l.length → (l.getD k ByteArray.empty).size ≤ 9223372036854775807
theorem StR.below {w w' : World} {A : Option Addr} {l : List ByteArray} (h : StR w A l) (hb : Below w.heap.size w w') : StR w' A l := fun hl => by
  obtain ⟨b, o, rfl, hlt, hc⟩ := h hl
  refine ⟨b, o, rfl, Nat.lt_of_lt_of_le hlt hb.size, fun k hk => ?_⟩
  rw [hb.cell (p := ⟨b, o + k, none⟩) hlt]
  exact hc k hk
theorem StR.nil (w : World) (A : Option Addr) : StR w A [] := fun h => absurd h (Nat.lt_irrefl _)
theorem Below.step {a b c : World} (h : Below a.heap.size a b) (k : Below b.heap.size b c) : Below a.heap.size a c := h.trans (k.mono h.size)

/-- What a step leaves as it was: every block but those of S. -/
structure Keep (S : Nat → Prop) (w w' : World) : Prop where
  os : w'.os = w.os
  tape : w'.tape = w.tape
  output : w'.output = w.output
  size : w.heap.size ≤ w'.heap.size
  block : ∀ k, k < w.heap.size → ¬ S k → w'.heap[k]? = w.heap[k]?
theorem Keep.refl (S : Nat → Prop) (w : World) : Keep S w w := ⟨rfl, rfl, rfl, Nat.le_refl _, fun _ _ _ => rfl⟩
theorem Keep.below {S : Nat → Prop} {w w' : World} (h : Keep S w w') {B : Nat} (hS : ∀ k, S k → B ≤ k) (hB : B ≤ w.heap.size) : Below B w w' :=
  ⟨h.os, h.tape, h.output, h.size, fun k hk => h.block k (by omega) fun e => by have := hS k e; omega⟩
theorem Keep.ofBelow {S : Nat → Prop} {w w' : World} (h : Below w.heap.size w w') : Keep S w w' := ⟨h.os, h.tape, h.output, h.size, fun k hk _ => h.block k hk⟩
theorem Keep.ofGrown {S : Nat → Prop} {w w' : World} {row : Option Nat} (h : w.grownBy w' row) (hS : ∀ k, row = some k → S k) : Keep S w w' :=
  ⟨h.os, h.tape, h.output, h.size, fun k hk hn => h.block k hk fun e => hn (hS k e.symm)⟩
theorem Keep.trans {S S' : Nat → Prop} {a b c : World} (h : Keep S a b) (h' : Keep S' b c) (hS : ∀ k, S' k → S k ∨ a.heap.size ≤ k) : Keep S a c :=
  ⟨h'.os.trans h.os, h'.tape.trans h.tape, h'.output.trans h.output, Nat.le_trans h.size h'.size, fun k hk hn =>
    (h'.block k (Nat.lt_of_lt_of_le hk h.size) fun e => by rcases hS k e with e | e; exact hn e; omega).trans (h.block k hk hn)⟩
theorem Keep.alloc {S : Nat → Prop} {w w' : World} (h : Keep S w w') (o : Obj) : Keep S w (w'.alloc o) :=
  h.trans (S' := fun _ => False) (Keep.ofGrown (World.grownBy_alloc w' o none) (fun k e => by cases e)) (fun k e => e.elim)
theorem Keep.set {S : Nat → Prop} {w w' : World} (h : Keep S w w') (a : Addr) (u : Value) (hS : S a.block) : Keep S w (w'.setCell a u) :=
  h.trans (S' := S) (Keep.ofGrown (row := some a.block) ⟨rfl, rfl, rfl, by simp, fun k hk hne => heap_setCell_other w' a k u (fun e => hne (by rw [e]))⟩ (fun k e => by cases e; exact hS)) (fun k e => Or.inl e)
theorem Keep.grown {S : Nat → Prop} {w w1 w2 : World} {row : Option Nat} (h : Keep S w w1) (hg : w1.grownBy w2 row) (hS : ∀ k, row = some k → S k ∨ w.heap.size ≤ k) : Keep S w w2 :=
  h.trans (S' := fun k => row = some k) (Keep.ofGrown hg (fun k e => e)) hS
theorem Keep.cell {S : Nat → Prop} {w w' : World} (h : Keep S w w') {p : Addr} (hp : p.block < w.heap.size) (hn : ¬ S p.block) : w'.cell? p = w.cell? p := World.cell?_of_block (w := w) (h.block p.block hp hn)
theorem Keep.frozen {S : Nat → Prop} {w w' : World} (h : Keep S w w') {p : Addr} (hp : p.block < w.heap.size) (hn : ¬ S p.block) : w'.frozen? p = w.frozen? p := World.frozen?_of_block (w := w) (h.block p.block hp hn)
theorem StR.keep {S : Nat → Prop} {w w' : World} {A : Option Addr} {l : List ByteArray} (h : StR w A l) (hb : Keep S w w') (hS : ∀ a, A = some a → ¬ S a.block) : StR w' A l := fun hl => by
  obtain ⟨b, o, rfl, hlt, hc⟩ := h hl
  refine ⟨b, o, rfl, Nat.lt_of_lt_of_le hlt hb.size, fun k hk => ?_⟩
  rw [hb.cell (p := ⟨b, o + k, none⟩) hlt (hS ⟨b, o, none⟩ rfl)]
  exact hc k hk

/-- A row of strings that the call owns. -/
def OwnS (w : World) (base : Nat) (v : Value) (l : List ByteArray) : Prop := w.ownsRow base 9 1 v l.length (l.map Value.string)
theorem OwnS.nil (w : World) (base : Nat) : OwnS w base (.slice none 0 0) [] := World.ownsRow_nil _ _ _ _
theorem OwnS.keep {w w' : World} {base : Nat} {v : Value} {l : List ByteArray} {S : Nat → Prop} (h : OwnS w base v l) (hb : Keep S w w') (hS : ∀ g, v.ownBlock = some g → ¬ S g) : OwnS w' base v l := by
  have hlt := World.ownsRow.lt h
  obtain ⟨h1, h2⟩ := h
  refine ⟨h1, ?_⟩
  rcases h2 with h2 | ⟨g, cap, cur, hv, hg, hh, r⟩
  · exact Or.inl h2
  · subst hv
    exact Or.inr ⟨g, cap, cur, rfl, hg, (hb.block g (hlt g rfl).2 (hS g rfl)).trans hh, r⟩
theorem OwnS.form {w : World} {base : Nat} {v : Value} {l : List ByteArray} (h : OwnS w base v l) : ∃ A cap, v = .slice A l.length cap ∧ StR w A l ∧ (∀ a, A = some a → v.ownBlock = some a.block) := by
  have h0 : w.ownsRow base 9 1 v l.length (l.map Value.string) := h
  have hlt := World.ownsRow.lt h
  obtain ⟨_, h⟩ := h
  rcases h with ⟨rfl, h2⟩ | ⟨g, cap, cur, rfl, hb, hg, hn, hm, hs, ht⟩
  · exact ⟨none, 0, by rw [h2], fun hh => by omega, fun a ha => by cases ha⟩
  · refine ⟨some ⟨g, 0, none⟩, cap, rfl, fun _ => ⟨g, 0, rfl, (hlt g rfl).2, fun k hk => ?_⟩, fun a ha => by cases ha; rfl⟩
    rw [Nat.zero_add, h0.cellAt k (by omega)]
    simp [hk]
theorem OwnS.rebase {w : World} {base base' : Nat} {v : Value} {l : List ByteArray} (h : OwnS w base v l) (hb : ∀ g, v.ownBlock = some g → base' ≤ g) : OwnS w base' v l := by
  obtain ⟨h1, h2⟩ := h
  refine ⟨h1, ?_⟩
  rcases h2 with h2 | ⟨g, cap, cur, hv, hg, r⟩
  · exact Or.inl h2
  · subst hv
    exact Or.inr ⟨g, cap, cur, rfl, hb g rfl, r⟩

def fewB (l : List ByteArray) : Bool := decide ((∀ k, k < l.length → (l.getD k ByteArray.empty).size ≤ 100) ∧ l.length ≤ 60)
theorem fewB_big {l : List ByteArray} (k : Nat) (hk : k < l.length) (h : 100 < (l.getD k ByteArray.empty).size) : fewB l = false := decide_eq_false fun hh => by
  have := hh.1 k hk; omega
theorem fewB_end {l : List ByteArray} (h : ∀ k, k < l.length → (l.getD k ByteArray.empty).size ≤ 100) : fewB l = decide (l.length ≤ 60) := by
  unfold fewB
  by_cases h6 : l.length ≤ 60
  · rw [decide_eq_true h6, decide_eq_true ⟨h, h6⟩]
  · rw [decide_eq_false h6, decide_eq_false (fun hh => h6 hh.2)]

set_option maxRecDepth 100000 in
set_option maxHeartbeats 1000000 in
theorem few_any (l : List ByteArray) (A : Option Addr) (cap : Nat) (w : World) (hl : l.length ≤ 9223372036854775807) (hwd : WideS l) (h : StR w A l) :
    Calls Try.prog 13 #[.slice A l.length cap] w fun e w' => e = .returned (.bool (fewB l)) ∧ w = w' := by
  obtain ⟨len, hlen⟩ : ∃ n, l.length = n := ⟨_, rfl⟩
  have HL := Lib.hid hlen
  have H := Lib.hid h
  rw [hlen] at hl ⊢
  clear hlen h
  go_enter Try.func13, Try.ntmps13
  go_wp2_with fail
  go_loop [3] (fun i => ∃ k : Nat, k ≤ len ∧ i = .int .i64 (k : Int) ∧ Hid (∀ j, j < k → (l.getD j ByteArray.empty).size ≤ 100)) (fun i => len - (intOf i).toNat)
  case atStart => exact ⟨0, by omega, rfl, fun j hj => absurd hj (Nat.not_lt_zero j)⟩
  case round =>
    obtain ⟨k, hk, rfl, hva⟩ := hrel
    by_cases hlt : k < len
    · have hkl : k < l.length := by rw [HL.out]; exact hlt
      obtain ⟨b, o, rfl, hbl, hc⟩ := H.out (by omega)
      have c0 := hc k hkl
      have hx := hwd k hkl
      have HBAD := Lib.hid (fewB_big (l := l) k hkl)
      have HGOOD : Hid ((l.getD k ByteArray.empty).size ≤ 100 → ∀ j, j < k + 1 → (l.getD j ByteArray.empty).size ≤ 100) := Lib.hid fun hs j hj => by
        rcases Nat.lt_or_ge j k with h1 | h1
        · exact hva.out j h1
        · obtain rfl : j = k := by omega
          exact hs
      obtain ⟨s, hs⟩ : ∃ s, l.getD k ByteArray.empty = s := ⟨_, rfl⟩
      rw [hs] at hx c0 HBAD HGOOD
      clear hs hkl hc
      have hltz : (k : Int) < (len : Int) := by omega
      by_cases h100 : 100 < s.size
      · have HX := Lib.hid (HBAD.out h100)
        have z : (100 : Int) < (s.size : Int) := by omega
        go_wp2_with fail
        go_ret
        exact ⟨ret_bool HX.out.symm, rfl⟩
      · have HX := Lib.hid (HGOOD.out (by omega))
        have z : ¬ (100 : Int) < (s.size : Int) := by omega
        go_wp2_with fail
        go_round
        case rel => exact ⟨k + 1, by omega, by go_num, HX⟩
        case measure => simp only [intOf]; omega
    · have hnlt : ¬ (k : Int) < (len : Int) := by omega
      have hv := fewB_end (l := l) (fun j hj => hva.out j (by rw [HL.out] at hj; omega))
      have hle : ((len : Int) ≤ 60) = (l.length ≤ 60) := by rw [HL.out]; simp; omega
      have HV := Lib.hid hv
      have HLE := Lib.hid hle
      clear hva hv hle
      go_wp2_with fail
      go_ret
      exact ⟨ret_bool (by rw [HV.out]; simp [HLE.out]), rfl⟩

/-- Where the specification finds a string. -/
def fndI (l : List ByteArray) (s : ByteArray) : Int := if s ∈ l then (l.idxOf s : Int) else -1
theorem fndI_here {l : List ByteArray} {s : ByteArray} (k : Nat) (hk : k < l.length) (h : ∀ j, j < k → l.getD j ByteArray.empty ≠ s) (he : l.getD k ByteArray.empty = s) : fndI l s = (k : Int) := by
  have e : l[k] = s := by rw [← he]; simp [hk]
  have hm : s ∈ l := e ▸ List.getElem_mem hk
  unfold fndI
  rw [if_pos hm]
  have h1 : l.idxOf s = k := by
    have hlt := List.idxOf_lt_length_iff.2 hm
    have hg := List.getElem_idxOf hlt
    rcases Nat.lt_trichotomy (l.idxOf s) k with h2 | h2 | h2
    · exact absurd (by simp [hlt]) (h _ h2)
    · exact h2
    · have := List.not_of_lt_findIdx (p := (· == s)) (xs := l) (i := k) (by simpa [List.idxOf] using h2)
      simp [e] at this
  rw [h1]
theorem fndI_not {l : List ByteArray} {s : ByteArray} (h : ∀ j, j < l.length → l.getD j ByteArray.empty ≠ s) : s ∉ l ∧ fndI l s = -1 := by
  have hm : s ∉ l := fun hm => by
    obtain ⟨i, hi, e⟩ := List.getElem_of_mem hm
    exact h i hi (by simp [hi, e])
  exact ⟨hm, by unfold fndI; rw [if_neg hm]⟩

set_option maxRecDepth 100000 in
set_option maxHeartbeats 1000000 in
theorem refFind_any (l : List ByteArray) (s : ByteArray) (A : Option Addr) (cap : Nat) (w : World) (hl : l.length ≤ 1000) (h : StR w A l) :
    Calls Try.prog 25 #[.slice A l.length cap, .string s] w fun e w' => e = .returned (.int .i64 (fndI l s)) ∧ w = w' := by
  obtain ⟨len, hlen⟩ : ∃ n, l.length = n := ⟨_, rfl⟩
  have HL := Lib.hid hlen
  have H := Lib.hid h
  rw [hlen] at hl ⊢
  clear hlen h
  go_enter Try.func25, Try.ntmps25
  go_wp2_with fail
  go_loop [5] (fun i => ∃ k : Nat, k ≤ len ∧ i = .int .i64 (k : Int) ∧ Hid (∀ j, j < k → l.getD j ByteArray.empty ≠ s)) (fun i => len - (intOf i).toNat)
  case atStart => exact ⟨0, by omega, rfl, fun j hj => absurd hj (Nat.not_lt_zero j)⟩
  case round =>
    obtain ⟨k, hk, rfl, hva⟩ := hrel
    by_cases hlt : k < len
    · have hkl : k < l.length := by rw [HL.out]; exact hlt
      obtain ⟨b, o, rfl, hbl, hc⟩ := H.out (by omega)
      have c0 := hc k hkl
      have HBAD := Lib.hid (fndI_here (s := s) k hkl hva.out)
      have HGOOD : Hid (l.getD k ByteArray.empty ≠ s → ∀ j, j < k + 1 → l.getD j ByteArray.empty ≠ s) := Lib.hid fun hs j hj => by
        rcases Nat.lt_or_ge j k with h1 | h1
        · exact hva.out j h1
        · obtain rfl : j = k := by omega
          exact hs
      obtain ⟨t, ht⟩ : ∃ t, l.getD k ByteArray.empty = t := ⟨_, rfl⟩
      rw [ht] at c0 HBAD HGOOD
      clear ht hkl hc
      have hltz : (k : Int) < (len : Int) := by omega
      by_cases he : t = s
      · have HX := Lib.hid (HBAD.out he)
        subst he
        go_wp2_with fail
        go_ret
        exact ⟨ret_int HX.out.symm, rfl⟩
      · have HX := Lib.hid (HGOOD.out he)
        have hb := str_ne he
        go_wp2_with fail
        go_round
        case rel => exact ⟨k + 1, by omega, by go_num, HX⟩
        case measure => simp only [intOf]; omega
    · have hnlt : ¬ (k : Int) < (len : Int) := by omega
      have HV := Lib.hid (fndI_not (l := l) (s := s) (fun j hj => hva.out j (by rw [HL.out] at hj; omega))).2
      clear hva
      go_wp2_with fail
      go_ret
      exact ⟨ret_int HV.out.symm, rfl⟩
end Go.Proofs.Ytagpkijgednmnaa
