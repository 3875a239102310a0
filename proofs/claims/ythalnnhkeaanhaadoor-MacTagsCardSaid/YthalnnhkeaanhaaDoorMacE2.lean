/-
  Two keys compared. No condition.
-/
import Derived.Test.YthalnnhkeaanhaaDoorMacW
import Derived.Lib.QuietBelow
import Derived.IntWalk
import Derived.Laws.StructEq
import Derived.ChangeKeysEq
namespace Go.Proofs.YthalnnhkeaanhaaDoor
open Go.RowKit
set_option linter.unusedVariables false

theorem run_eqK (w : World) (d : Nat) (a0 a1 : Int) :
    (Op.equalIn (d + 1 + 1) 24 (.agg #[.int .u64 a0, .int .u64 a1]) (.agg #[.int .u64 a0, .int .u64 a1])).run Tryd.prog w = .ok true w := by
  rw [Op.equalIn]
  simp only [Sem.run_bind, run_underlying Tryd.underlying24, Result.andThen_ok]
  have hp : ∀ (w : World) (xs : Array Value) (k : Nat) (v : Value), xs[k]? = some v → (part 22 xs k).run Tryd.prog w = .ok v w := fun w xs k v h => run_part_plain w (by kernel_rfl) h
  have hq : ∀ (w : World) (a b : Int), (Op.equalIn (d + 1) 22 (.int .u64 a) (.int .u64 b)).run Tryd.prog w = .ok (a == b) w := fun w a b => run_equalIn_int w d _ .u64 .u64 a b Tryd.underlying22
  have p0 := fun w => hp w #[.int .u64 a0, .int .u64 a1] 0 _ rfl
  have p1 := fun w => hp w #[.int .u64 a0, .int .u64 a1] 1 _ rfl
  simp [p0, p1, hq]
theorem run_eqlK (w : World) (a0 a1 : Int) : (binOp .eql 24 (.agg #[.int .u64 a0, .int .u64 a1]) (.agg #[.int .u64 a0, .int .u64 a1])).run Tryd.prog w = .ok (.bool true) w := by
  rw [run_eql_struct, run_eqK w 9998]
  rfl
theorem run_guardK (w : World) (o1 o2 : Operand) (xs ys : Array Value) : (eqGuard .eql 24 o1 o2 (.agg xs) (.agg ys)).run Tryd.prog w = .ok () w := run_eqGuard_agg w .eql _ o1 o2 xs ys (by kernel_rfl)

end Go.Proofs.YthalnnhkeaanhaaDoor
