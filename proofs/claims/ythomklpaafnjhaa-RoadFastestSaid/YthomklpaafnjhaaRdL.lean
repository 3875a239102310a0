/-
  The way that goes by the first good exit, plain; lengths compared. No condition.
-/
import Derived.Test.YthomklpaafnjhaaRdI
import Derived.Laws.StructEq
import Derived.ChangeKeysEq
namespace Go.Proofs.Ythomklpaafnjhaa
open Go.RowKit
set_option linter.unusedVariables false

/-- A best way from node v goes on by exit x. -/
def okX (D : Nat → Option Nat) (v : Nat) (x : Ed) : Bool :=
  match D x.t.toNat with
  | none => false
  | some n => match D v with
    | none => false
    | some m => decide (up1 n x.s.toNat = m)
/-- The first such exit. -/
def nxt (D : Nat → Option Nat) (l : List Ed) (v : Nat) : Option Ed := (exT l (v : Int) l.length).find? (okX D v)
/-- The edges of the way by first good exits. -/
def pth (D : Nat → Option Nat) (l : List Ed) : Nat → Nat → List Int
  | 0, _ => []
  | k + 1, v => match nxt D l v with
    | none => []
    | some x => x.f :: pth D l k x.t.toNat
theorem pth_some {D : Nat → Option Nat} {l : List Ed} {k v : Nat} {x : Ed} (h : nxt D l v = some x) : pth D l (k + 1) v = x.f :: pth D l k x.t.toNat := by
  rw [pth, h]
theorem okX_iff {D : Nat → Option Nat} {v m : Nat} {x : Ed} (hv : D v = some m) : okX D v x = true ↔ ∃ n, D x.t.toNat = some n ∧ up1 n x.s.toNat = m := by
  unfold okX
  rw [hv]
  cases D x.t.toNat with
  | none => simp
  | some n => simp
/-- From every node that is not the goal there is a good exit. -/
theorem nxt_some {N a v m : Nat} {l : List Ed} {D : Nat → Option Nat} (hN : OkL N l) (h64 : N ≤ 64) (ha : a < N) (hD : Ds (rev (arcs l)) a D) (hv : D v = some m) (hne : v ≠ a) :
    ∃ x n, nxt D l v = some x ∧ x ∈ exT l (v : Int) l.length ∧ D x.t.toNat = some n ∧ up1 n x.s.toNat = m ∧ n % 1048576 + 1 = m % 1048576 := by
  have h1 := hD v
  rw [hv] at h1
  obtain ⟨s, k, hw, hm, hk, _⟩ := h1.form hN.net.rev ha
  have hk64 : N ≤ N := Nat.le_refl _
  cases hw with
  | nil => exact absurd rfl hne
  | @snoc u _ w s k hu he =>
    obtain ⟨i, hi, e⟩ := mem_arcs.1 (mem_rev.1 he)
    unfold arc at e
    simp only [Prod.mk.injEq] at e
    obtain ⟨e1, e2, e3⟩ := e
    obtain ⟨b1, b2, b3, b4, b5, b6⟩ := hN i hi
    have h2 := hD u
    cases hu2 : D u with
    | none => rw [hu2] at h2; exact absurd hu (h2 _ _)
    | some n =>
      rw [hu2] at h2
      have h3 := h2.2 _ _ hu
      obtain ⟨m', h4, h5⟩ := hD.step hu2 he
      rw [hv] at h4
      cases h4
      have h6 : up1 n w = m := by
        rw [hm] at h5 ⊢
        rw [← up1_ln] at h5 ⊢
        unfold up1 at *
        omega
      have hmem : (⟨(i : Int), (l.getD i ed0).t, (l.getD i ed0).s⟩ : Ed) ∈ exT l (v : Int) l.length := exT_mem.2 ⟨i, hi, by omega, rfl⟩
      have hok : okX D v ⟨(i : Int), (l.getD i ed0).t, (l.getD i ed0).s⟩ = true := (okX_iff hv).2 ⟨n, by rw [← e2]; exact hu2, by rw [← e3]; exact h6⟩
      cases hn : nxt D l v with
      | none =>
        unfold nxt at hn
        have := List.find?_eq_none.1 hn _ hmem
        exact absurd hok this
      | some x =>
        have hx1 := List.mem_of_find?_eq_some hn
        have hx2 := List.find?_some hn
        obtain ⟨n', g1, g2⟩ := (okX_iff hv).1 hx2
        refine ⟨x, n', rfl, hx1, g1, g2, ?_⟩
        have h7 := hD x.t.toNat
        rw [g1] at h7
        obtain ⟨s', k', _, q1, q2, _⟩ := h7.form hN.net.rev ha
        have h8 : m = ln (s' + x.s.toNat) (k' + 1) := by rw [← g2, q1, up1_ln]
        rw [h8, q1, (ln_parts (by omega)).2, (ln_parts (by omega)).2]
theorem pth_len {N a : Nat} {l : List Ed} {D : Nat → Option Nat} (hN : OkL N l) (h64 : N ≤ 64) (ha : a < N) (hD : Ds (rev (arcs l)) a D) : ∀ k v m, D v = some m → m % 1048576 = k → (pth D l k v).length = k := by
  intro k
  induction k with
  | zero => intro v m _ _; rfl
  | succ k ih =>
    intro v m hv hm
    by_cases e : v = a
    · subst e
      have := (hD v).unique (IsD.self _ v)
      rw [hv] at this
      cases this
      simp at hm
    · obtain ⟨x, n, h1, _, h3, _, h5⟩ := nxt_some hN h64 ha hD hv e
      rw [pth_some h1, List.length_cons, ih x.t.toNat n h3 (by omega)]
/-- The number of edges is none at the goal only. -/
theorem goal_iff {N a v m : Nat} {l : List Ed} {D : Nat → Option Nat} (hN : OkL N l) (h64 : N ≤ 64) (ha : a < N) (hD : Ds (rev (arcs l)) a D) (hv : D v = some m) : v = a ↔ m % 1048576 = 0 := by
  constructor
  · intro e
    subst e
    have := (hD v).unique (IsD.self _ v)
    rw [hv] at this
    cases this
    rfl
  · intro h0
    have h1 := hD v
    rw [hv] at h1
    obtain ⟨s, k, hw, rfl, hk, _⟩ := h1.form hN.net.rev ha
    rw [(ln_parts (by omega)).2] at h0
    subst h0
    cases hw with
    | nil => rfl

theorem run_eqL (w : World) (d : Nat) (a0 a1 b0 b1 : Int) :
    (Op.equalIn (d + 1 + 1) 55 (.agg #[.int .i64 a0, .int .i64 a1]) (.agg #[.int .i64 b0, .int .i64 b1])).run Try.prog w = .ok (a0 == b0 && a1 == b1) w := by
  rw [Op.equalIn]
  simp only [Sem.run_bind, run_underlying Try.underlying55, Result.andThen_ok]
  have hp : ∀ (w : World) (xs : Array Value) (k : Nat) (v : Value), xs[k]? = some v → (part 3 xs k).run Try.prog w = .ok v w := fun w xs k v h => run_part_plain w (by kernel_rfl) h
  have hq : ∀ (w : World) (a b : Int), (Op.equalIn (d + 1) 3 (.int .i64 a) (.int .i64 b)).run Try.prog w = .ok (a == b) w := fun w a b => run_equalIn_int w d _ .i64 .i64 a b Try.underlying3
  have p0 := fun w => hp w #[.int .i64 a0, .int .i64 a1] 0 _ rfl
  have p1 := fun w => hp w #[.int .i64 a0, .int .i64 a1] 1 _ rfl
  have q0 := fun w => hp w #[.int .i64 b0, .int .i64 b1] 0 _ rfl
  have q1 := fun w => hp w #[.int .i64 b0, .int .i64 b1] 1 _ rfl
  by_cases h : a0 = b0
  · subst h
    by_cases h2 : a1 = b1 <;> simp [p0, p1, q0, q1, hq, h2]
  · have hb : (a0 == b0) = false := by simp [h]
    simp [p0, q0, hq, hb]
theorem run_eqlL (w : World) (a0 a1 b0 b1 : Int) : (binOp .eql 55 (.agg #[.int .i64 a0, .int .i64 a1]) (.agg #[.int .i64 b0, .int .i64 b1])).run Try.prog w = .ok (.bool (a0 == b0 && a1 == b1)) w := by
  rw [run_eql_struct, run_eqL w 9998]
  rfl
theorem run_guardL (w : World) (o1 o2 : Operand) (xs ys : Array Value) : (eqGuard .eql 55 o1 o2 (.agg xs) (.agg ys)).run Try.prog w = .ok () w := run_eqGuard_agg w .eql _ o1 o2 xs ys (by kernel_rfl)
end Go.Proofs.Ythomklpaafnjhaa
