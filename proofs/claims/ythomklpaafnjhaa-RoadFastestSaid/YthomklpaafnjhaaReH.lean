/-
  The contracts of Peek and Pop, for ways. Condition: at most 100000 pushes.
-/
import Derived.Test.YthomklpaafnjhaaReG
import Derived.Laws.ResultCell
namespace Go.Proofs.Ythomklpaafnjhaa
open Go.RowKit
set_option linter.unusedVariables false

set_option maxRecDepth 100000 in
set_option maxHeartbeats 2000000 in
theorem peek_none (b : Nat) (S : Nat → Prop) (dn : Bool) (N : Nat) (w : World) (H : QR w b S dn N []) :
    Calls Try.prog 43 #[.pointer (some ⟨b, 0, none⟩)] w fun e w' => e = .returned (.tuple #[.agg #[.int .i64 0, .int .i64 0, .int .i64 0], .bool false]) ∧ Below w.heap.size w w' := by
  have HL := Lib.hid (fun W (hB : Below w.heap.size w W) => len_any b S dn N 0 [] W (H.below hB) rfl)
  clear H
  go_enter Try.func43, Try.ntmps43
  go_wp2_with fail
  refine (HL.out _ ?_).mono ?_
  · exact (Below.refl _ _).alloc (Nat.le_refl _) _
  rintro e w1 ⟨rfl, rfl⟩
  go_wp2_with fail
  try simp only [Exit.inBlock, Exit.then]
  refine bodyPost_ret (v := .tuple #[.agg #[.int .i64 0, .int .i64 0, .int .i64 0], .bool false]) ?_ rfl ⟨rfl, ?_⟩
  · rw [results_cell_tmp rfl]; go_simp
  exact ((Below.refl _ _).alloc (Nat.le_refl _) _).alloc (by simp) _
theorem peek_nil (w : World) :
    Calls Try.prog 43 #[.pointer none] w fun e w' => e = .returned (.tuple #[.agg #[.int .i64 0, .int .i64 0, .int .i64 0], .bool false]) ∧ Below w.heap.size w w' := by
  have HL := Lib.hid (fun W => len_nil W)
  go_enter Try.func43, Try.ntmps43
  go_wp2_with fail
  refine (HL.out _).mono ?_
  rintro e w1 ⟨rfl, rfl⟩
  go_wp2_with fail
  try simp only [Exit.inBlock, Exit.then]
  refine bodyPost_ret (v := .tuple #[.agg #[.int .i64 0, .int .i64 0, .int .i64 0], .bool false]) ?_ rfl ⟨rfl, ?_⟩
  · rw [results_cell_tmp rfl]; go_simp
  exact ((Below.refl _ _).alloc (Nat.le_refl _) _).alloc (by simp) _
set_option maxRecDepth 100000 in
set_option maxHeartbeats 2000000 in
theorem peek_some (b : Nat) (S : Nat → Prop) (dn : Bool) (N : Nat) (x : It) (V : List It) (w : World) (H : QR w b S dn N (x :: V)) (hN : N ≤ 100000) :
    Calls Try.prog 43 #[.pointer (some ⟨b, 0, none⟩)] w fun e w' => e = .returned (.tuple #[.agg #[.int .i64 x.1, .int .i64 (xS x.2), .int .i64 (xE x.2)], .bool true]) ∧ Below w.heap.size w w' := by
  have HL := Lib.hid (fun W (hB : Below w.heap.size w W) => len_any b S dn N (V.length + 1) (x :: V) W (H.below hB) rfl)
  obtain ⟨v, n, h, c1, hv, hvb, hA, hnN⟩ := H.ex
  have hl := hA.len
  rw [List.length_cons] at hl
  obtain ⟨m, rfl⟩ : ∃ m, n = m + 1 := ⟨V.length, by omega⟩
  obtain ⟨V', hV'⟩ := hA.first
  have hx := (List.cons.inj hV').1
  rcases hv with ⟨_, h0⟩ | ⟨g, cap, rfl, hp⟩
  · omega
  obtain ⟨a0, a1, a2, _⟩ := hp.cell (show 0 < m + 1 by omega)
  rw [← hx] at a0 a1 a2
  simp only [Nat.zero_mul, Nat.zero_add] at a0 a1 a2
  have hbw : b < w.heap.size := H.lt b H.sb
  have hgw := hp.lt
  have hml : m = V.length := by omega
  subst hml
  obtain ⟨m, hm⟩ : ∃ m, V.length = m := ⟨_, rfl⟩
  rw [hm] at HL c1 hnN
  have hz : (0 : Int) < (m : Int) + 1 := by omega
  have hz2 : ¬ (m : Int) + 1 = 0 := by omega
  clear H hA hp hvb hx hV' hl hm
  go_enter Try.func43, Try.ntmps43
  go_wp2_with fail
  refine (HL.out _ ?_).mono ?_
  · exact (Below.refl _ _).alloc (Nat.le_refl _) _
  rintro e w1 ⟨rfl, rfl⟩
  go_wp2_with fail
  try simp only [Exit.inBlock, Exit.then]
  refine bodyPost_ret (v := .tuple #[.agg #[.int .i64 x.1, .int .i64 (xS x.2), .int .i64 (xE x.2)], .bool true]) ?_ rfl ⟨rfl, ?_⟩
  · rw [results_cell_tmp rfl]; go_simp
  exact (Below.refl _ _).alloc (Nat.le_refl _) _
/-- What Peek answers. -/
def hdV : List It → Value
  | [] => .tuple #[.agg #[.int .i64 0, .int .i64 0, .int .i64 0], .bool false]
  | x :: _ => .tuple #[.agg #[.int .i64 x.1, .int .i64 (xS x.2), .int .i64 (xE x.2)], .bool true]
theorem peek_any (b : Nat) (S : Nat → Prop) (dn : Bool) (N : Nat) (V : List It) (w : World) (H : QR w b S dn N V) (hN : N ≤ 100000) :
    Calls Try.prog 43 #[.pointer (some ⟨b, 0, none⟩)] w fun e w' => e = .returned (hdV V) ∧ Below w.heap.size w w' := by
  cases V with
  | nil => exact peek_none b S dn N w H
  | cons x V => exact peek_some b S dn N x V w H hN
end Go.Proofs.Ythomklpaafnjhaa
