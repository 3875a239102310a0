/-
  Two equal items compared. No condition.
-/
import Derived.Test.YtkbfpkejogdieaaPqP
import Derived.Laws.StructEq
import Derived.ChangeKeysEq
namespace Go.Proofs.Ytkbfpkejogdieaa
open Go.RowKit
set_option linter.unusedVariables false

theorem run_eqI (w : World) (d : Nat) (a0 a1 : Int) :
    (Op.equalIn (d + 1 + 1) 27 (.agg #[.int .i64 a0, .int .i64 a1]) (.agg #[.int .i64 a0, .int .i64 a1])).run Try.prog w = .ok true w := by
  rw [Op.equalIn]
  simp only [Sem.run_bind, run_underlying Try.underlying27, Result.andThen_ok]
  have hp : ∀ (w : World) (xs : Array Value) (k : Nat) (v : Value), xs[k]? = some v → (part 3 xs k).run Try.prog w = .ok v w := fun w xs k v h => run_part_plain w (by kernel_rfl) h
  have hq : ∀ (w : World) (a b : Int), (Op.equalIn (d + 1) 3 (.int .i64 a) (.int .i64 b)).run Try.prog w = .ok (a == b) w := fun w a b => run_equalIn_int w d _ .i64 .i64 a b Try.underlying3
  have p0 := fun w => hp w #[.int .i64 a0, .int .i64 a1] 0 _ rfl
  have p1 := fun w => hp w #[.int .i64 a0, .int .i64 a1] 1 _ rfl
  simp [p0, p1, hq]
theorem run_eqlI (a0 a1 : Int) (w : World) : (binOp .eql 27 (.agg #[.int .i64 a0, .int .i64 a1]) (.agg #[.int .i64 a0, .int .i64 a1])).run Try.prog w = .ok (.bool true) w := by
  rw [run_eql_struct, run_eqI w 9998]
  rfl
theorem run_neqI (a0 a1 : Int) (w : World) : (binOp .neq 27 (.agg #[.int .i64 a0, .int .i64 a1]) (.agg #[.int .i64 a0, .int .i64 a1])).run Try.prog w = .ok (.bool false) w := by
  rw [run_neq_struct, run_eqI w 9998]
  rfl
theorem run_guardE (w : World) (o1 o2 : Operand) (xs ys : Array Value) : (eqGuard .eql 27 o1 o2 (.agg xs) (.agg ys)).run Try.prog w = .ok () w := run_eqGuard_agg w .eql _ o1 o2 xs ys (by kernel_rfl)
theorem run_guardN (w : World) (o1 o2 : Operand) (xs ys : Array Value) : (eqGuard .neq 27 o1 o2 (.agg xs) (.agg ys)).run Try.prog w = .ok () w := run_eqGuard_agg w .neq _ o1 o2 xs ys (by kernel_rfl)
theorem fill0_any (b : Nat) (S : Nat → Prop) (dn : Bool) (ks : List Int) (n c : Nat) (A : Option Addr) (w : World) (H : QR w b S dn 0 []) (hN : n ≤ 5000) (hn : ks.length = n) (hA : IntR w A ks) (hAS : 0 < n → ∀ a, A = some a → ¬ S a.block) :
    Calls Try.prog 12 #[.pointer (some ⟨b, 0, none⟩), .slice A n c, .int .i64 0] w fun e w' => ∃ B d S', e = .returned (.slice B n d) ∧ n ≤ d ∧ ItsR w' B (itF 0 ks) ∧ QR w' b S' dn n (stS (kI dn) (itF 0 ks)) ∧ Keep S w w' ∧ (∀ k, S' k → S k ∨ w.heap.size ≤ k) ∧ ∀ a, B = some a → w.heap.size ≤ a.block ∧ ¬ S' a.block := by
  have h := fill_any b S dn 0 [] ks n c 0 A w H (by omega) hn (by decide) hA hAS
  rw [Nat.zero_add] at h
  exact h
theorem fill1_any (b : Nat) (S : Nat → Prop) (dn : Bool) (ks : List Int) (n c : Nat) (A : Option Addr) (w : World) (H : QR w b S dn 0 []) (hN : n ≤ 5000) (hn : ks.length = n) (hA : IntR w A ks) (hAS : 0 < n → ∀ a, A = some a → ¬ S a.block) :
    Calls Try.prog 12 #[.pointer (some ⟨b, 0, none⟩), .slice A n c, .int .i64 1000] w fun e w' => ∃ B d S', e = .returned (.slice B n d) ∧ n ≤ d ∧ ItsR w' B (itF 1000 ks) ∧ QR w' b S' dn n (stS (kI dn) (itF 1000 ks)) ∧ Keep S w w' ∧ (∀ k, S' k → S k ∨ w.heap.size ≤ k) ∧ ∀ a, B = some a → w.heap.size ≤ a.block ∧ ¬ S' a.block := by
  have h := fill_any b S dn 0 [] ks n c 1000 A w H (by omega) hn (by decide) hA hAS
  rw [Nat.zero_add] at h
  exact h
/-- An argument does not lie in what the call makes. -/
theorem arg_apart {w w1 : World} {A : Option Addr} {l : List Int} {n : Nat} {S : Nat → Prop} (hn : l.length = n) (hi : IntR w A l) (hS : ∀ k, S k → w.heap.size ≤ k) : 0 < n → ∀ a, A = some a → ¬ S a.block := fun h9 a ha e => by
  obtain ⟨b, o, e2, hlt, _⟩ := hi (by omega)
  rw [ha] at e2
  cases e2
  have := hS _ e
  simp at this
  omega
theorem funcI_nil_eq (w : World) : (binOp .eql 70 .nilFunc .nilFunc).run Try.prog w = .ok (.bool true) w := by kernel_rfl
theorem newI_nil (w : World) : Calls Try.prog 29 #[.nilFunc] w fun e w' => e = .returned (.pointer none) ∧ w = w' := by
  have hq := funcI_nil_eq
  go_enter Try.func29, Try.ntmps29
  go_wp2_with fail
  go_ret
  exact ⟨rfl, rfl⟩
theorem ptrI_neq (w : World) : (binOp .neq 57 (.pointer none) (.pointer none)).run Try.prog w = .ok (.bool false) w := by kernel_rfl
theorem ptr_left (a : Addr) (w : World) : (binOp .eql 24 (.pointer none) (.pointer (some a))).run Try.prog w = .ok (.bool false) w := by
  have h : ∀ d : Nat, (Op.equalIn (d + 1) 24 (.pointer none) (.pointer (some a))).run Try.prog w = .ok false w := fun d => by
    simp [Op.equalIn, run_underlying Try.underlying24, sizeOf, typeInfo]
  simp only [binOp]
  simp [Op.equal, Op.maxDepth, h 9999]
set_option maxRecDepth 100000 in
theorem merge_nilp (q : Nat) (w : World) : Calls Try.prog 23 #[.pointer (some ⟨q, 0, none⟩), .pointer none] w fun e w' => e = .returned (.tuple #[]) ∧ Below w.heap.size w w' := by
  have hpe := ptr_left ⟨q, 0, none⟩
  have HP := Lib.hid (fun W => pop_nil W)
  go_enter Try.func23, Try.ntmps23
  go_wp2_with fail
  refine (HP.out _).mono ?_
  rintro e w1 ⟨rfl, hb1⟩
  unfold hdV
  go_wp2_with fail
  go_loopw [5] (fun vo wr => vo = .bool false ∧ Below w.heap.size w wr) (fun _ _ => 0)
  case atStart => exact ⟨rfl, hb1.alloc hb1.size _⟩
  case round =>
    obtain ⟨rfl, hB⟩ := hrel
    go_wp2_with fail
    go_end0
    exact ⟨rfl, hB⟩
/-- drain of all, and one more. -/
theorem drainAll_any (b : Nat) (S : Nat → Prop) (dn : Bool) (N : Nat) (V : List It) (v : Nat) (w : World) (H : QR w b S dn N V) (hN : N ≤ 4000) (hv : V.length = v) :
    Calls Try.prog 14 #[.pointer (some ⟨b, 0, none⟩), .int .i64 ((v : Int) + 1)] w fun e w' => ∃ B d, e = .returned (.slice B v d) ∧ ItsR w' B V ∧ QR w' b S dn N [] ∧ Keep S w w' ∧ ∀ a, B = some a → w.heap.size ≤ a.block := by
  have := H.len.1
  have h := drain_any b S dn N V v (v + 1) w H (by omega) hv (by omega) (by omega)
  rw [show ((v + 1 : Nat) : Int) = (v : Int) + 1 by omega] at h
  exact h
end Go.Proofs.Ytkbfpkejogdieaa
