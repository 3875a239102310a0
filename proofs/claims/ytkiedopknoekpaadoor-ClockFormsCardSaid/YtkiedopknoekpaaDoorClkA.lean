/-
  The contracts of the functions on single moments and single windows, of package clock and of its specification. Condition: integers of 64 bits.
-/
import Derived.Test.YtkiedopknoekpaaDoorClkSort
import Derived.Test.YtkiedopknoekpaaDoorChecked
import Derived.Lib.Hide
import Derived.WalkLawsBesides
import Derived.WalkSpells
import Derived.RegionTactic
import Derived.Lib.SmallJoins
import Derived.ChangeAlike
import Derived.Deep.LoopGhost
import Derived.Deep.QuietTactic
import Derived.BigQuiet
import Derived.Maps.AppendAt
import Derived.Laws.OwnMore
import Derived.Deep.AppendLies
import Derived.WalkSmall
import Derived.Laws.NewBlocks
namespace Go.Proofs.YtkiedopknoekpaaDoor
open Go.RowKit
set_option linter.unusedVariables false

theorem ret_bool {a b : Bool} (h : a = b) : Ending.returned (.bool a) = .returned (.bool b) := by rw [h]
theorem ret_int {k : IntKind} {a b : Int} (h : a = b) : Ending.returned (.int k a) = .returned (.int k b) := by rw [h]
theorem ret_pair {k k' : IntKind} {a b c d : Int} (h : a = b) (h' : c = d) : Ending.returned (.tuple #[.int k a, .int k' c]) = .returned (.tuple #[.int k b, .int k' d]) := by rw [h, h']
theorem val_int' {k : IntKind} {a b : Int} (h : a = b) : Value.int k a = Value.int k b := by rw [h]

/-- Is it a moment? -/
def momB (t : Int) : Bool := decide (0 ≤ t) && decide (t ≤ 4294943999)
theorem momB_true {t : Int} (h : momB t = true) : 0 ≤ t ∧ t ≤ 4294943999 := by
  unfold momB at h
  simpa using h
theorem momB_false {t : Int} (h : momB t = false) : t < 0 ∨ 4294943999 < t := by
  unfold momB at h
  simp at h
  omega
theorem validMoment_any (t : Int) (w : World) (h0 : -9223372036854775808 ≤ t) (h1 : t ≤ 9223372036854775807) :
    Calls Tryd.prog 37 #[.int .i64 t] w fun e w' => e = .returned (.bool (momB t)) ∧ w = w' := by
  by_cases c0 : 0 ≤ t
  · by_cases c1 : t ≤ 4294943999
    · have e : momB t = true := by unfold momB; simp [c0, c1]
      rw [e]
      clear e
      go_enter Tryd.func37, Tryd.ntmps37
      go_wp2
      go_ret
      exact ⟨rfl, rfl⟩
    · have e : momB t = false := by unfold momB; simp [c1]
      rw [e]
      clear e
      go_enter Tryd.func37, Tryd.ntmps37
      go_wp2
      go_ret
      exact ⟨rfl, rfl⟩
  · have e : momB t = false := by unfold momB; simp [c0]
    rw [e]
    clear e
    go_enter Tryd.func37, Tryd.ntmps37
    go_wp2
    go_ret
    exact ⟨rfl, rfl⟩
def dayS (t : Int) : Int × Int := if momB t then (t / 86400, 0) else (0, 1)
def slotS (t : Int) : Int × Int := if momB t then (t / 3600 % 168, 0) else (0, 1)
def weekdayS (d : Int) : Int × Int := if 0 ≤ d ∧ d ≤ 49709 then (d % 7, 0) else (0, 1)
theorem day_any (t : Int) (w : World) (h0 : -9223372036854775808 ≤ t) (h1 : t ≤ 9223372036854775807) :
    Calls Tryd.prog 11 #[.int .i64 t] w fun e w' => e = .returned (.tuple #[.int .i64 (dayS t).1, .int .i64 (dayS t).2]) ∧ w = w' := by
  cases hm : momB t
  · have e : dayS t = (0, 1) := by simp [dayS, hm]
    rw [e]
    clear e
    go_enter Tryd.func11, Tryd.ntmps11
    go_wp2_with (go_at_call 37; refine (validMoment_any _ _ (by omega) (by omega)).mono ?_; rintro e w' ⟨rfl, rfl⟩)
    go_ret2
    exact ⟨rfl, rfl⟩
  · have hb := momB_true hm
    have e : dayS t = (t / 86400, 0) := by simp [dayS, hm]
    rw [e]
    clear e
    go_enter Tryd.func11, Tryd.ntmps11
    go_wp2_with (go_at_call 37; refine (validMoment_any _ _ (by omega) (by omega)).mono ?_; rintro e w' ⟨rfl, rfl⟩)
    go_ret2
    exact ⟨rfl, rfl⟩
theorem slot_any (t : Int) (w : World) (h0 : -9223372036854775808 ≤ t) (h1 : t ≤ 9223372036854775807) :
    Calls Tryd.prog 13 #[.int .i64 t] w fun e w' => e = .returned (.tuple #[.int .i64 (slotS t).1, .int .i64 (slotS t).2]) ∧ w = w' := by
  cases hm : momB t
  · have e : slotS t = (0, 1) := by simp [slotS, hm]
    rw [e]
    clear e
    go_enter Tryd.func13, Tryd.ntmps13
    go_wp2_with (go_at_call 37; refine (validMoment_any _ _ (by omega) (by omega)).mono ?_; rintro e w' ⟨rfl, rfl⟩)
    go_ret2
    exact ⟨rfl, rfl⟩
  · have hb := momB_true hm
    have e : slotS t = (t / 3600 % 168, 0) := by simp [slotS, hm]
    rw [e]
    clear e
    go_enter Tryd.func13, Tryd.ntmps13
    go_wp2_with (go_at_call 37; refine (validMoment_any _ _ (by omega) (by omega)).mono ?_; rintro e w' ⟨rfl, rfl⟩)
    go_ret2
    exact ⟨rfl, rfl⟩
theorem weekday_any (t : Int) (w : World) (h0 : -9223372036854775808 ≤ t) (h1 : t ≤ 9223372036854775807) :
    Calls Tryd.prog 15 #[.int .i64 t] w fun e w' => e = .returned (.tuple #[.int .i64 (weekdayS t).1, .int .i64 (weekdayS t).2]) ∧ w = w' := by
  by_cases c0 : t < 0
  · have e : weekdayS t = (0, 1) := by unfold weekdayS; rw [if_neg (by omega)]
    rw [e]
    clear e
    go_enter Tryd.func15, Tryd.ntmps15
    go_wp2
    go_ret2
    exact ⟨rfl, rfl⟩
  · by_cases c1 : 49709 < t
    · have e : weekdayS t = (0, 1) := by unfold weekdayS; rw [if_neg (by omega)]
      rw [e]
      clear e
      go_enter Tryd.func15, Tryd.ntmps15
      go_wp2
      go_ret2
      exact ⟨rfl, rfl⟩
    · have e : weekdayS t = (t % 7, 0) := by unfold weekdayS; rw [if_pos (by omega)]
      rw [e]
      clear e
      go_enter Tryd.func15, Tryd.ntmps15
      go_wp2
      go_ret2
      exact ⟨rfl, rfl⟩
theorem refWeekday_any (t : Int) (w : World) (h0 : -9223372036854775808 ≤ t) (h1 : t ≤ 9223372036854775807) :
    Calls Tryd.prog 16 #[.int .i64 t] w fun e w' => e = .returned (.tuple #[.int .i64 (weekdayS t).1, .int .i64 (weekdayS t).2]) ∧ w = w' := by
  by_cases c0 : t < 0
  · have e : weekdayS t = (0, 1) := by unfold weekdayS; rw [if_neg (by omega)]
    rw [e]
    clear e
    go_enter Tryd.func16, Tryd.ntmps16
    go_wp2
    go_ret2
    exact ⟨rfl, rfl⟩
  · by_cases c1 : 49709 < t
    · have e : weekdayS t = (0, 1) := by unfold weekdayS; rw [if_neg (by omega)]
      rw [e]
      clear e
      go_enter Tryd.func16, Tryd.ntmps16
      go_wp2
      go_ret2
      exact ⟨rfl, rfl⟩
    · have e : weekdayS t = (t % 7, 0) := by unfold weekdayS; rw [if_pos (by omega)]
      rw [e]
      clear e
      go_enter Tryd.func16, Tryd.ntmps16
      go_wp2
      go_ret2
      exact ⟨rfl, rfl⟩
theorem refDay_any (t : Int) (w : World) (h0 : -9223372036854775808 ≤ t) (h1 : t ≤ 9223372036854775807) :
    Calls Tryd.prog 12 #[.int .i64 t] w fun e w' => e = .returned (.tuple #[.int .i64 (dayS t).1, .int .i64 (dayS t).2]) ∧ w = w' := by
  by_cases c0 : t < 0
  · have e : dayS t = (0, 1) := by have : ¬ 0 ≤ t := by omega
                                   simp [dayS, momB, this]
    rw [e]
    clear e
    go_enter Tryd.func12, Tryd.ntmps12
    go_wp2
    go_ret2
    exact ⟨rfl, rfl⟩
  · by_cases c1 : 4294943999 < t
    · have e : dayS t = (0, 1) := by have : ¬ t ≤ 4294943999 := by omega
                                     simp [dayS, momB, this]
      rw [e]
      clear e
      go_enter Tryd.func12, Tryd.ntmps12
      go_wp2
      go_ret2
      exact ⟨rfl, rfl⟩
    · have e : dayS t = (t / 86400, 0) := by have : 0 ≤ t ∧ t ≤ 4294943999 := by omega
                                             simp [dayS, momB, this]
      rw [e]
      clear e
      go_enter Tryd.func12, Tryd.ntmps12
      go_wp2
      go_ret2
      exact ⟨rfl, rfl⟩
theorem slot_two (t : Int) (h0 : 0 ≤ t) : t / 86400 % 7 * 24 + t % 86400 / 3600 = t / 3600 % 168 := by omega
theorem refSlot_any (t : Int) (w : World) (h0 : -9223372036854775808 ≤ t) (h1 : t ≤ 9223372036854775807) :
    Calls Tryd.prog 14 #[.int .i64 t] w fun e w' => e = .returned (.tuple #[.int .i64 (slotS t).1, .int .i64 (slotS t).2]) ∧ w = w' := by
  by_cases c0 : t < 0
  · have e : slotS t = (0, 1) := by have : ¬ 0 ≤ t := by omega
                                    simp [slotS, momB, this]
    rw [e]
    clear e
    go_enter Tryd.func14, Tryd.ntmps14
    go_wp2
    go_ret2
    exact ⟨rfl, rfl⟩
  · by_cases c1 : 4294943999 < t
    · have e : slotS t = (0, 1) := by have : ¬ t ≤ 4294943999 := by omega
                                      simp [slotS, momB, this]
      rw [e]
      clear e
      go_enter Tryd.func14, Tryd.ntmps14
      go_wp2
      go_ret2
      exact ⟨rfl, rfl⟩
    · have e : slotS t = (t / 3600 % 168, 0) := by have : 0 ≤ t ∧ t ≤ 4294943999 := by omega
                                                   simp [slotS, momB, this]
      have HE := Lib.hid e
      have h2 := Lib.hid (slot_two t (by omega))
      clear e
      go_enter Tryd.func14, Tryd.ntmps14
      go_wp2
      go_ret2
      exact ⟨ret_pair (by rw [HE.out]; exact h2.out) (by rw [HE.out]), rfl⟩

/-! ### Windows -/
theorem okB_decide (a b : Int) : okB (a, b) = (decide (0 ≤ a) && decide (a ≤ b) && decide (b ≤ 4294944000)) := rfl
theorem valid_any (a b : Int) (w : World) (ha : -9223372036854775808 ≤ a) (ha' : a ≤ 9223372036854775807) (hb : -9223372036854775808 ≤ b) (hb' : b ≤ 9223372036854775807) :
    Calls Tryd.prog 17 #[.agg #[.int .i64 a, .int .i64 b]] w fun e w' => e = .returned (.bool (okB (a, b))) ∧ w' = w.alloc (.cells #[.int .i64 a, .int .i64 b] 23) := by
  by_cases c0 : 0 ≤ a
  · by_cases c1 : a ≤ b
    · by_cases c2 : b ≤ 4294944000
      · have e : okB (a, b) = true := by rw [okB_decide]; simp [c0, c1, c2]
        rw [e]; clear e
        go_enter Tryd.func17, Tryd.ntmps17
        go_wp2
        go_ret
        exact ⟨rfl, rfl⟩
      · have e : okB (a, b) = false := by rw [okB_decide]; simp [c2]
        rw [e]; clear e
        go_enter Tryd.func17, Tryd.ntmps17
        go_wp2
        go_ret
        exact ⟨rfl, rfl⟩
    · have e : okB (a, b) = false := by rw [okB_decide]; simp [c1]
      rw [e]; clear e
      go_enter Tryd.func17, Tryd.ntmps17
      go_wp2
      go_ret
      exact ⟨rfl, rfl⟩
  · have e : okB (a, b) = false := by rw [okB_decide]; simp [c0]
    rw [e]; clear e
    go_enter Tryd.func17, Tryd.ntmps17
    go_wp2
    go_ret
    exact ⟨rfl, rfl⟩
theorem refValid_any (a b : Int) (w : World) (ha : -9223372036854775808 ≤ a) (ha' : a ≤ 9223372036854775807) (hb : -9223372036854775808 ≤ b) (hb' : b ≤ 9223372036854775807) :
    Calls Tryd.prog 18 #[.agg #[.int .i64 a, .int .i64 b]] w fun e w' => e = .returned (.bool (okB (a, b))) ∧ w' = w.alloc (.cells #[.int .i64 a, .int .i64 b] 23) := by
  by_cases c0 : 0 ≤ a
  · by_cases c1 : a ≤ b
    · by_cases c2 : b ≤ 4294944000
      · have e : okB (a, b) = true := by rw [okB_decide]; simp [c0, c1, c2]
        rw [e]; clear e
        go_enter Tryd.func18, Tryd.ntmps18
        go_wp2
        go_ret
        exact ⟨rfl, rfl⟩
      · have e : okB (a, b) = false := by rw [okB_decide]; simp [c2]
        rw [e]; clear e
        go_enter Tryd.func18, Tryd.ntmps18
        go_wp2
        go_ret
        exact ⟨rfl, rfl⟩
    · have e : okB (a, b) = false := by rw [okB_decide]; simp [c1]
      rw [e]; clear e
      go_enter Tryd.func18, Tryd.ntmps18
      go_wp2
      go_ret
      exact ⟨rfl, rfl⟩
  · have e : okB (a, b) = false := by rw [okB_decide]; simp [c0]
    rw [e]; clear e
    go_enter Tryd.func18, Tryd.ntmps18
    go_wp2
    go_ret
    exact ⟨rfl, rfl⟩
end Go.Proofs.YtkiedopknoekpaaDoor
