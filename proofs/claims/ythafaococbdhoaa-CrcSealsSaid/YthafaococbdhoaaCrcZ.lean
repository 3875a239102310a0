/-
  Try.
-/
import Derived.Test.YthafaococbdhoaaCrcC
import Derived.Deep.RegionHeld3
import Derived.IntWalk
import Derived.Laws.StructEq
import Derived.ChangeKeysEq
namespace Go.Proofs.Ythafaococbdhoaa
open Go.RowKit Go.Maps
set_option linter.unusedVariables false

theorem run_part (w : World) (ab o m c x y : Nat) (k1 k2 : IntKind) (i j : Int) (hi : i = x) (hj : j = y) (hx : x ≤ y) (hy : y ≤ c) (hc : ¬ c = x) :
    (Instr.sliceAt 22 (.slice (some ⟨ab, o, none⟩) m c) (some (.int k1 i)) (some (.int k2 j)) none).run Try.prog w = .ok (.slice (some ⟨ab, o + x, none⟩) (y - x) (c - x)) w := by
  subst hi hj
  have z1 : (0 : Int) ≤ (x : Int) := by omega
  have z2 : (x : Int) ≤ (y : Int) := by omega
  have z3 : (y : Int) ≤ (c : Int) := by omega
  simp [go_sem, hc, z1, z2, z3]
theorem run_array (w : World) (A : Addr) (n c : Nat) (h : 4 ≤ n) : (Instr.arrayAt 46 (.slice (some A) n c)).run Try.prog w = .ok (.pointer (some A)) w := by
  have hn : ¬ n < 4 := by omega
  simp [Instr.arrayAt, run_underlying Try.underlying46, hn]
theorem cellsU8' : Try.prog.cellsOf 5 = 1 := by kernel_rfl
theorem run_eq4 (w : World) (d : Nat) (a0 a1 a2 a3 b0 b1 b2 b3 : Int) :
    (Op.equalIn (d + 1 + 1) 46 (.agg #[.int .u8 a0, .int .u8 a1, .int .u8 a2, .int .u8 a3]) (.agg #[.int .u8 b0, .int .u8 b1, .int .u8 b2, .int .u8 b3])).run Try.prog w = .ok (a0 == b0 && (a1 == b1 && (a2 == b2 && a3 == b3))) w := by
  rw [Op.equalIn]
  simp only [Sem.run_bind, run_underlying Try.underlying46, Result.andThen_ok]
  obtain ⟨ii, hii, _⟩ := info_parts info_u8
  have hp : ∀ (w : World) (xs : Array Value) (k : Nat) (v : Value), xs[k]? = some v → (part 5 xs k).run Try.prog w = .ok v w := fun w xs k v h => run_part_plain w (by kernel_rfl) h
  have hq : ∀ (w : World) (a b : Int), (Op.equalIn (d + 1) 5 (.int .u8 a) (.int .u8 b)).run Try.prog w = .ok (a == b) w := fun w a b => run_equalIn_int w d _ .u8 .u8 a b Try.underlying5
  rw [run_sizeOf w hii]
  simp only [Result.andThen_ok, cellsU8', Std.Legacy.Range.forIn_eq_forIn_range', Std.Legacy.Range.size]
  simp only [show ((4 : Nat) - 0 + 1 - 1) / 1 = 4 from rfl, List.range'_succ, List.range'_zero, List.forIn_cons, List.forIn_nil, Sem.run_bind]
  simp only [Nat.mul_one, Nat.zero_add, Nat.reduceAdd]
  have p0 := fun w => hp w #[.int .u8 a0, .int .u8 a1, .int .u8 a2, .int .u8 a3] 0 _ rfl
  have p1 := fun w => hp w #[.int .u8 a0, .int .u8 a1, .int .u8 a2, .int .u8 a3] 1 _ rfl
  have p2 := fun w => hp w #[.int .u8 a0, .int .u8 a1, .int .u8 a2, .int .u8 a3] 2 _ rfl
  have p3 := fun w => hp w #[.int .u8 a0, .int .u8 a1, .int .u8 a2, .int .u8 a3] 3 _ rfl
  have q0 := fun w => hp w #[.int .u8 b0, .int .u8 b1, .int .u8 b2, .int .u8 b3] 0 _ rfl
  have q1 := fun w => hp w #[.int .u8 b0, .int .u8 b1, .int .u8 b2, .int .u8 b3] 1 _ rfl
  have q2 := fun w => hp w #[.int .u8 b0, .int .u8 b1, .int .u8 b2, .int .u8 b3] 2 _ rfl
  have q3 := fun w => hp w #[.int .u8 b0, .int .u8 b1, .int .u8 b2, .int .u8 b3] 3 _ rfl
  cases h0 : (a0 == b0)
  · simp [p0, q0, hq, h0]
  cases h1 : (a1 == b1)
  · simp [p0, q0, p1, q1, hq, h0, h1]
  cases h2 : (a2 == b2)
  · simp [p0, q0, p1, q1, p2, q2, hq, h0, h1, h2]
  cases h3 : (a3 == b3)
  · simp [p0, q0, p1, q1, p2, q2, p3, q3, hq, h0, h1, h2, h3]
  · simp [p0, q0, p1, q1, p2, q2, p3, q3, hq, h0, h1, h2, h3]
theorem bc_inj {a b : UInt8} (h : (a.toNat : Int) = (b.toNat : Int)) : a = b := UInt8.toNat_inj.1 (by omega)
theorem tailV_four {s : Nat} {y0 y1 y2 y3 : UInt8} (h : tail s = [y0, y1, y2, y3]) : tailV s = .agg #[.int .u8 (y0.toNat : Int), .int .u8 (y1.toNat : Int), .int .u8 (y2.toNat : Int), .int .u8 (y3.toNat : Int)] := by
  unfold tailV
  rw [h]
  rfl
/-- Two arrays of four bytes compared. -/
theorem run_neq4 (w : World) (s : Nat) (y0 y1 y2 y3 : UInt8) (r : Bool) (hr : (r = true) = (tail s = [y0, y1, y2, y3])) :
    (binOp .neq 46 (.agg #[.int .u8 (y0.toNat : Int), .int .u8 (y1.toNat : Int), .int .u8 (y2.toNat : Int), .int .u8 (y3.toNat : Int)]) (tailV s)).run Try.prog w = .ok (.bool (!r)) w := by
  obtain ⟨x0, x1, x2, x3, hx⟩ : ∃ x0 x1 x2 x3, tail s = [x0, x1, x2, x3] := ⟨_, _, _, _, rfl⟩
  rw [tailV_four hx, run_neq_struct, run_eq4 w 9998]
  rw [hx] at hr
  simp only [Result.andThen_ok]
  congr 3
  rw [Bool.eq_iff_iff, hr]
  simp only [Bool.and_eq_true, beq_iff_eq, List.cons.injEq, and_true]
  constructor
  · rintro ⟨h0, h1, h2, h3⟩
    exact ⟨(bc_inj h0).symm, (bc_inj h1).symm, (bc_inj h2).symm, (bc_inj h3).symm⟩
  · rintro ⟨rfl, rfl, rfl, rfl⟩
    exact ⟨rfl, rfl, rfl, rfl⟩
theorem run_guard4 (w : World) (o1 o2 : Operand) (xs : Array Value) (s : Nat) : (eqGuard .neq 46 o1 o2 (.agg xs) (tailV s)).run Try.prog w = .ok () w := run_eqGuard_agg w .neq _ o1 o2 xs _ (by kernel_rfl)
end Go.Proofs.Ythafaococbdhoaa
