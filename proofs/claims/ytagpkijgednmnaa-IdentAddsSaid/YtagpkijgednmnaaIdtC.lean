/-
  A table of identifiers in memory, and the contracts of Len, Find and Name. Condition: strings of at most 2^63 - 1 bytes.
-/
import Derived.Test.YtagpkijgednmnaaIdtB
namespace Go.Proofs.Ytagpkijgednmnaa
open Go.RowKit Go.Maps
set_option linter.unusedVariables false

def keyL (s : ByteArray) : Lit := .string s.data.toList
theorem keyL_inj {s t : ByteArray} (h : keyL s = keyL t) : s = t := by
  unfold keyL at h
  injection h with h
  exact ByteArray.ext (Array.toList_inj.1 h)
theorem keyL_key (s : ByteArray) : WideAt.IsKeyLit (keyL s) := trivial
theorem keyK : Keyed Try.prog 9 := string_keyed Try.underlying9
theorem key_of (s : ByteArray) (h : s.size ≤ 9223372036854775807) : keyOf Try.prog 9 (.string s) = some (keyL s) := WideMaps.keyOf_string_mk Try.underlying9 (by unfold maxLen; omega)
theorem zeroInt (w : World) : (zeroValue 3).run Try.prog w = .ok (.int .i64 0) w := by kernel_rfl

/-- The map says of each string whether it is in N, and where. -/
def Named (D : DataW Unit) (N : List ByteArray) : Prop := IsMap D ∧ ∀ s, Maps.has D (keyL s) = decide (s ∈ N) ∧ D.atKey (keyL s) (.lit (.int .i64 0)) = .lit (.int .i64 (plc N s : Int))
theorem Named.nil : Named (.map []) [] := by
  refine ⟨isMap_empty, fun s => ⟨by rfl, ?_⟩⟩
  rw [plc_not (by simp)]
  rfl
theorem Named.snoc {D : DataW Unit} {N : List ByteArray} {s : ByteArray} (h : Named D N) (hs : s ∉ N) : Named (D.put (keyL s) (.lit (.int .i64 (N.length : Int)))) (N ++ [s]) := by
  refine ⟨h.1.put _ _, fun t => ?_⟩
  by_cases e : t = s
  · subst e
    refine ⟨by rw [has_put_same h.1 (keyL_key t)]; simp, ?_⟩
    rw [atKey_put_same h.1 (keyL_key t), plc_in (by simp), List.idxOf_append, if_neg hs]
    simp
  · have hne : keyL t ≠ keyL s := fun hh => e (keyL_inj hh)
    obtain ⟨h1, h2⟩ := h.2 t
    refine ⟨by rw [has_put_other hne, h1]; simp [e], ?_⟩
    rw [atKey_put_other hne, h2]
    congr 2
    by_cases hm : t ∈ N
    · rw [plc_in hm, plc_in (by simp [hm]), List.idxOf_append, if_pos hm]
    · rw [plc_not hm, plc_not (by simp [hm, e])]

/-- A table at block b that has the identifiers N; S: the blocks that it lies in. -/
def Tab (w : World) (b : Nat) (S : Nat → Prop) (N : List ByteArray) : Prop :=
  Nice N ∧ S b ∧ (∀ k, S k → k < w.heap.size) ∧ w.frozen? ⟨b, 0, none⟩ = false ∧ w.frozen? ⟨b, 1, none⟩ = false ∧
  ∃ (v : Value) (o : Option Nat), w.cell? ⟨b, 0, none⟩ = some v ∧ w.cell? ⟨b, 1, none⟩ = some (.map o) ∧ OwnS w 0 v N ∧ (∀ g, v.ownBlock = some g → S g ∧ g ≠ b) ∧
    ((o = none ∧ N = []) ∨ ∃ m D, o = some m ∧ S m ∧ m ≠ b ∧ v.ownBlock ≠ some m ∧ w.ownsMap (H := Unit) Try.prog 9 (plainElem Try.prog 3) m N.length D ∧ Named D N)
theorem Tab.keep {w w' : World} {b : Nat} {S S' : Nat → Prop} {N : List ByteArray} (h : Tab w b S N) (hk : Keep S' w w') (hS : ∀ k, S k → ¬ S' k) : Tab w' b S N := by
  obtain ⟨h1, h2, h3, f0, f1, v, o, c0, c1, hv, hg, hm⟩ := h
  refine ⟨h1, h2, fun k hk' => Nat.lt_of_lt_of_le (h3 k hk') hk.size, ?_, ?_, v, o, ?_, ?_, hv.keep hk (fun g e => hS g (hg g e).1), hg, ?_⟩
  · rw [hk.frozen (p := ⟨b, 0, none⟩) (h3 b h2) (hS b h2)]; exact f0
  · rw [hk.frozen (p := ⟨b, 1, none⟩) (h3 b h2) (hS b h2)]; exact f1
  · rw [hk.cell (p := ⟨b, 0, none⟩) (h3 b h2) (hS b h2)]; exact c0
  · rw [hk.cell (p := ⟨b, 1, none⟩) (h3 b h2) (hS b h2)]; exact c1
  · rcases hm with hm | ⟨m, D, e1, e2, e3, e4, ⟨es, clock, hb, F, hs, hD⟩, e6⟩
    · exact Or.inl hm
    · exact Or.inr ⟨m, D, e1, e2, e3, e4, ⟨es, clock, (hk.block m (h3 m e2) (hS m e2)).trans hb, F, hs, hD⟩, e6⟩
theorem Tab.lt {w : World} {b : Nat} {S : Nat → Prop} {N : List ByteArray} (h : Tab w b S N) : ∀ k, S k → k < w.heap.size := h.2.2.1
theorem Tab.below {w w' : World} {b : Nat} {S : Nat → Prop} {N : List ByteArray} (h : Tab w b S N) (hB : Below w.heap.size w w') : Tab w' b S N :=
  h.keep (S' := fun k => w.heap.size ≤ k) ⟨hB.os, hB.tape, hB.output, hB.size, fun k hk _ => hB.block k hk⟩ (fun k hk => by have := h.lt k hk; omega)
theorem Tab.made (w : World) : Tab (w.alloc (.cells #[.slice none 0 0, .map none] 47)) w.heap.size (fun k => k = w.heap.size) [] := by
  refine ⟨Nice.nil, rfl, fun k hk => by subst hk; simp, ?_, ?_, .slice none 0 0, none, ?_, ?_, OwnS.nil _ _, fun g e => (by cases e), Or.inl ⟨rfl, rfl⟩⟩
  · simp
  · simp
  · rw [World.cell?_alloc_new]; rfl
  · rw [World.cell?_alloc_new]; rfl
theorem Tab.names {w : World} {b : Nat} {S : Nat → Prop} {N : List ByteArray} (h : Tab w b S N) : ∃ A cap, w.cell? ⟨b, 0, none⟩ = some (.slice A N.length cap) ∧ StR w A N := by
  obtain ⟨h1, h2, h3, f0, f1, v, o, c0, c1, hv, hg, hm⟩ := h
  obtain ⟨A, cap, rfl, hr, _⟩ := hv.form
  exact ⟨A, cap, c0, hr⟩

theorem len_any (b : Nat) (S : Nat → Prop) (N : List ByteArray) (w : World) (h : Tab w b S N) :
    Calls Try.prog 19 #[.pointer (some ⟨b, 0, none⟩)] w fun e w' => e = .returned (.int .i64 (N.length : Int)) ∧ w = w' := by
  obtain ⟨A, cap, c0, _⟩ := h.names
  obtain ⟨n, hn⟩ : ∃ n, N.length = n := ⟨_, rfl⟩
  rw [hn] at c0 ⊢
  clear hn h
  go_enter Try.func19, Try.ntmps19
  go_wp2_with fail
  go_ret
  exact ⟨rfl, rfl⟩
theorem len_nil (w : World) : Calls Try.prog 19 #[.pointer none] w fun e w' => e = .returned (.int .i64 0) ∧ w = w' := by
  go_enter Try.func19, Try.ntmps19
  go_wp2_with fail
  go_ret
  exact ⟨rfl, rfl⟩

theorem find_any (b : Nat) (S : Nat → Prop) (N : List ByteArray) (s : ByteArray) (w : World) (h : Tab w b S N) (hs : s.size ≤ 9223372036854775807) :
    Calls Try.prog 21 #[.pointer (some ⟨b, 0, none⟩), .string s] w fun e w' => e = .returned (.tuple #[.int .i64 (plc N s : Int), .bool (decide (s ∈ N))]) ∧ w = w' := by
  obtain ⟨h1, h2, h3, f0, f1, v, o, c0, c1, hv, hg, hm⟩ := h
  have hkey := key_of s hs
  rcases hm with ⟨rfl, rfl⟩ | ⟨m, D, rfl, e2, e3, e4, hown, hN⟩
  · have hrun := look_nil (w := w) true keyK Try.underlying45 (zeroInt _) hkey
    rw [plc_not (by simp), show decide (s ∈ ([] : List ByteArray)) = false from by simp]
    clear h1 h2 h3 f0 f1 c0 hv hg
    go_enter Try.func21, Try.ntmps21
    go_wp2_with fail
    go_ret2
    exact ⟨rfl, rfl⟩
  · obtain ⟨n1, n2⟩ := hN.2 s
    rw [← n1]
    have HN2 := Lib.hid n2
    clear h1 h2 h3 f0 f1 c0 hv hg n1 n2 hN e4
    go_enter Try.func21, Try.ntmps21
    go_wp2_with (first
      | (at_lookup; refine wpList_lookup_own_ok_int _ rfl _ _ 45 rfl 9 3 .i64 keyK Try.underlying45 Try.underlying3 (zeroInt _) m N.length D rfl hown _ _ rfl hkey ?_; intro c hat hwc)
      | fail)
    go_ret2
    have e := HN2.out
    rw [hat] at e
    injection e with e
    injection e with _ e
    exact ⟨by rw [e]; rfl, rfl⟩
theorem find_in (b : Nat) (S : Nat → Prop) (N : List ByteArray) (s : ByteArray) (w : World) (h : Tab w b S N) (hs : s.size ≤ 9223372036854775807) (hi : s ∈ N) :
    Calls Try.prog 21 #[.pointer (some ⟨b, 0, none⟩), .string s] w fun e w' => e = .returned (.tuple #[.int .i64 (plc N s : Int), .bool true]) ∧ w = w' := by
  have := find_any b S N s w h hs
  rwa [decide_eq_true hi] at this
theorem find_out (b : Nat) (S : Nat → Prop) (N : List ByteArray) (s : ByteArray) (w : World) (h : Tab w b S N) (hs : s.size ≤ 9223372036854775807) (hi : s ∉ N) :
    Calls Try.prog 21 #[.pointer (some ⟨b, 0, none⟩), .string s] w fun e w' => e = .returned (.tuple #[.int .i64 0, .bool false]) ∧ w = w' := by
  have := find_any b S N s w h hs
  rwa [decide_eq_false hi, plc_not hi] at this
theorem find_nil (s : ByteArray) (w : World) : Calls Try.prog 21 #[.pointer none, .string s] w fun e w' => e = .returned (.tuple #[.int .i64 0, .bool false]) ∧ w = w' := by
  go_enter Try.func21, Try.ntmps21
  go_wp2_with fail
  go_ret2
  exact ⟨rfl, rfl⟩

theorem name_in (b : Nat) (S : Nat → Prop) (N : List ByteArray) (k : Nat) (w : World) (h : Tab w b S N) (hk : k < N.length) :
    Calls Try.prog 20 #[.pointer (some ⟨b, 0, none⟩), .int .i64 (k : Int)] w fun e w' => e = .returned (.tuple #[.string (N.getD k ByteArray.empty), .int .i64 0]) ∧ w = w' := by
  have hle := h.1.2.1
  obtain ⟨A, cap, c0, hr⟩ := h.names
  obtain ⟨g, o, rfl, hlt, hc⟩ := hr (by omega)
  have c1 := hc k hk
  obtain ⟨n, hn⟩ : ∃ n, N.length = n := ⟨_, rfl⟩
  rw [hn] at c0 hle hk
  obtain ⟨s, hs⟩ : ∃ s, N.getD k ByteArray.empty = s := ⟨_, rfl⟩
  rw [hs] at c1 ⊢
  clear hn hs h hr hc hlt
  have z1 : ¬ (k : Int) < 0 := by omega
  have z2 : ¬ (n : Int) ≤ (k : Int) := by omega
  have z3 : (k : Int) < (n : Int) := by omega
  go_enter Try.func20, Try.ntmps20
  go_wp2_with fail
  go_ret2
  exact ⟨rfl, rfl⟩
theorem name_out (b : Nat) (S : Nat → Prop) (N : List ByteArray) (i : Int) (w : World) (h : Tab w b S N) (hi : i < 0 ∨ (N.length : Int) ≤ i) :
    Calls Try.prog 20 #[.pointer (some ⟨b, 0, none⟩), .int .i64 i] w fun e w' => e = .returned (.tuple #[.string ⟨#[]⟩, .int .i64 7]) ∧ w = w' := by
  obtain ⟨A, cap, c0, hr⟩ := h.names
  obtain ⟨n, hn⟩ : ∃ n, N.length = n := ⟨_, rfl⟩
  rw [hn] at c0 hi
  clear hn h hr
  by_cases z1 : i < 0
  · go_enter Try.func20, Try.ntmps20
    go_wp2_with fail
    go_ret2
    exact ⟨rfl, rfl⟩
  · have z2 : (n : Int) ≤ i := by omega
    go_enter Try.func20, Try.ntmps20
    go_wp2_with fail
    go_ret2
    exact ⟨rfl, rfl⟩
theorem name_nil (i : Int) (w : World) : Calls Try.prog 20 #[.pointer none, .int .i64 i] w fun e w' => e = .returned (.tuple #[.string ⟨#[]⟩, .int .i64 11]) ∧ w = w' := by
  go_enter Try.func20, Try.ntmps20
  go_wp2_with fail
  go_ret2
  exact ⟨rfl, rfl⟩
end Go.Proofs.Ytagpkijgednmnaa
