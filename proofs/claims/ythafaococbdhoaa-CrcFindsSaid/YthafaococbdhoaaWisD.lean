/-
  The contract of PutInt. Condition: at most 50000 bytes.
-/
import Derived.Test.YthafaococbdhoaaWirC
namespace Go.Proofs.Ythafaococbdhoaa
open Go.RowKit Go.Maps
set_option linter.unusedVariables false

set_option maxRecDepth 100000 in
set_option maxHeartbeats 1000000 in
theorem putInt_own (A : Option Addr) (l : List UInt8) (m c : Nat) (n : Int) (w : World) (hm : l.length = m) (hl : m ≤ 50000) (hc : m ≤ c) (h : BytR w A l) (lo : -9223372036854775808 ≤ n) (hi : n ≤ 9223372036854775807) :
    Calls Try.prog 25 #[.slice A m c, .int .i64 n] w fun e w' => ∃ v', e = .returned v' ∧ Hid (OwnB w' w.heap.size v' (l ++ enc n)) ∧ Below w.heap.size w w' := by
  have HA := Lib.hid (appendInt_any w.heap.size (.slice A m m) l n w (by omega) (Or.inr ⟨A, by rw [hm], h⟩) (Nat.le_refl _) lo hi)
  clear h hm
  go_enter Try.func25, Try.ntmps25
  go_wp2_with fail
  refine HA.out.mono ?_
  rintro e w1 ⟨v1, rfl, hO, hB⟩
  go_wp2_with fail
  go_ret
  exact ⟨_, rfl, hO, hB⟩
theorem str_len (s : ByteArray) : s.data.toList.length = s.size := by rw [Array.length_toList]; rfl
end Go.Proofs.Ythafaococbdhoaa
