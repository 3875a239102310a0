/-
  The contract of awake: the examples of the chapter. No condition.
-/
import Derived.Test.YthomklpaafnjhaaRdU
namespace Go.Proofs.Ythomklpaafnjhaa
open Go.RowKit
set_option linter.unusedVariables false

theorem same_yes (l : List Int) (n c d : Nat) (A B : Option Addr) (w : World) (hn : l.length = n) (hb : n ≤ 4096) (hA : IntR w A l) (hB : IntR w B l) :
    Calls Try.prog 15 #[.slice A n c, .slice B n d] w fun e w' => e = .returned (.bool true) ∧ Below w.heap.size w w' := by
  have h := same_any l l n n c d A B w hn hn hb hA hB
  rw [decide_eq_true rfl] at h
  exact h
theorem sameTable_yes (l : List (List Int)) (n c d : Nat) (A B : Option Addr) (w : World) (hn : l.length = n) (hb : n ≤ 4096) (hr : ∀ j, j < n → (l.getD j []).length ≤ 4096) (hA : RowsR w A l) (hB : RowsR w B l) :
    Calls Try.prog 18 #[.slice A n c, .slice B n d] w fun e w' => e = .returned (.bool true) ∧ Below w.heap.size w w' := by
  have h := sameTable_any l l n n c d A B w hn hn hb hr hA hB
  rw [decide_eq_true rfl] at h
  exact h
theorem rows_lit (w : World) (T1 T2 : TypeId) : RowsR (((w.alloc (.cells #[.int .i64 0, .int .i64 (-1)] T1)).alloc (.cells #[.int .i64 10, .int .i64 0] T1)).alloc (.cells #[.slice (some ⟨w.heap.size, 0, none⟩) 2 2, .slice (some ⟨w.heap.size + 1, 0, none⟩) 2 2] T2)) (some ⟨w.heap.size + 2, 0, none⟩) [[0, -1], [10, 0]] := fun _ => by
  have e1 : (w.alloc (.cells #[.int .i64 0, .int .i64 (-1)] T1)).heap.size = w.heap.size + 1 := by simp
  have e2 : ((w.alloc (.cells #[.int .i64 0, .int .i64 (-1)] T1)).alloc (.cells #[.int .i64 10, .int .i64 0] T1)).heap.size = w.heap.size + 2 := by simp
  refine ⟨_, 0, rfl, by rw [← e2]; exact alloc_lt _ _, fun k hk => ?_⟩
  rw [Nat.zero_add, ← e2, World.cell?_alloc_new]
  have hk2 : k < 2 := hk
  obtain rfl | rfl : k = 0 ∨ k = 1 := by omega
  · exact ⟨_, _, rfl, (((IntR.lit w [0, -1] _ T1 rfl).below (below_alloc _ _)).below (below_alloc _ _))⟩
  · refine ⟨_, _, rfl, ?_⟩
    rw [← e1]
    exact ((IntR.lit _ [10, 0] _ T1 rfl).below (below_alloc _ _))
set_option maxRecDepth 100000 in
set_option maxHeartbeats 4000000 in
theorem awake_any (w : World) : Calls Try.prog 10 #[] w fun e w' => e = .returned (.bool true) ∧ Below w.heap.size w w' := by
  go_enter Try.func10, Try.ntmps10
  go_wp2_with fail
  refine (square_any _).mono ?_
  rintro e w1 ⟨A1, c1, rfl, hE1, hB1⟩
  have HB1 := Lib.hid hB1
  have HE1 := Lib.hid hE1
  clear hB1 hE1
  go_wp2_with fail
  refine (ex1 _ _ _ HE1.out).mono ?_
  rintro e w2 ⟨B2, d2, rfl, hI2, hB2⟩
  have HB2 := Lib.hid (Below.step HB1.out hB2)
  have HI2 := Lib.hid hI2
  clear hB2 hI2 HB1 HE1
  go_wp2_with fail
  refine (square_any _).mono ?_
  rintro e w3 ⟨A3, c3, rfl, hE3, hB3⟩
  have HB3 := Lib.hid (Below.step HB2.out hB3)
  have HI3 := Lib.hid (HI2.out.below hB3)
  have HE3 := Lib.hid hE3
  clear hB3 hE3 HB2 HI2
  go_wp2_with fail
  refine (ex2 _ _ _ HE3.out).mono ?_
  rintro e w4 ⟨B4, d4, rfl, hI4, hB4⟩
  have HB4 := Lib.hid (Below.step HB3.out hB4)
  have HI4 := Lib.hid (HI3.out.below hB4)
  have HJ4 := Lib.hid hI4
  clear hB4 hI4 HB3 HE3 HI3
  go_wp2_with fail
  refine (square_any _).mono ?_
  rintro e w5 ⟨A5, c5, rfl, hE5, hB5⟩
  have HB5 := Lib.hid (Below.step HB4.out hB5)
  have HI5 := Lib.hid (HI4.out.below hB5)
  have HJ5 := Lib.hid (HJ4.out.below hB5)
  have HE5 := Lib.hid hE5
  clear hB5 hE5 HB4 HI4 HJ4
  go_wp2_with fail
  refine (ex3 _ _ _ HE5.out).mono ?_
  rintro e w6 ⟨B6, d6, rfl, hI6, hB6⟩
  have HB6 := Lib.hid (Below.step HB5.out hB6)
  have HI6 := Lib.hid (HI5.out.below hB6)
  have HJ6 := Lib.hid (HJ5.out.below hB6)
  have HK6 := Lib.hid hI6
  clear hB6 hI6 HB5 HI5 HJ5 HE5
  go_wp2_with fail
  refine (square_any _).mono ?_
  rintro e w7 ⟨A7, c7, rfl, hE7, hB7⟩
  have HB7 := Lib.hid (Below.step HB6.out hB7)
  have HI7 := Lib.hid (HI6.out.below hB7)
  have HJ7 := Lib.hid (HJ6.out.below hB7)
  have HK7 := Lib.hid (HK6.out.below hB7)
  have HE7 := Lib.hid hE7
  clear hB7 hE7 HB6 HI6 HJ6 HK6
  go_wp2_with fail
  refine (ex4 _ _ _ HE7.out).mono ?_
  rintro e w8 ⟨B8, d8, k8, rfl, hB8⟩
  have HB8 := Lib.hid (Below.step HB7.out hB8)
  have HI8 := Lib.hid (HI7.out.below hB8)
  have HJ8 := Lib.hid (HJ7.out.below hB8)
  have HK8 := Lib.hid (HK7.out.below hB8)
  clear hB8 HB7 HI7 HJ7 HK7 HE7
  go_wp2_with fail
  refine (square_any _).mono ?_
  rintro e w9 ⟨A9, c9, rfl, hE9, hB9⟩
  have HBL := Lib.hid (below_alloc w9 (.cells #[.int .i64 2, .int .i64 0] 3))
  have HB9 := Lib.hid ((Below.step (Below.step HB8.out hB9) HBL.out))
  have HI9 := Lib.hid ((HI8.out.below hB9).below HBL.out)
  have HJ9 := Lib.hid ((HJ8.out.below hB9).below HBL.out)
  have HK9 := Lib.hid ((HK8.out.below hB9).below HBL.out)
  have HE9 := Lib.hid (hE9.below HBL.out)
  have HN9 := Lib.hid (IntR.lit w9 [2, 0] #[.int .i64 2, .int .i64 0] 3 rfl)
  clear hB9 hE9 HB8 HI8 HJ8 HK8
  go_wp2_with fail
  refine (ex5 _ _ _ _ _ HE9.out HN9.out).mono ?_
  rintro e wA ⟨BA, dA, rfl, hTA, hBA⟩
  have HBA := Lib.hid (Below.step HB9.out hBA)
  have HIA := Lib.hid (HI9.out.below hBA)
  have HJA := Lib.hid (HJ9.out.below hBA)
  have HKA := Lib.hid (HK9.out.below hBA)
  have HTA := Lib.hid hTA
  clear hBA hTA HB9 HI9 HJ9 HK9 HE9 HN9 HBL
  go_wp2_with fail
  have l1 := Lib.hid (below_alloc wA (.cells #[.int .i64 0, .int .i64 5, .int .i64 10, .int .i64 (-1)] 3))
  refine (same_yes [0, 5, 10, -1] 4 _ _ _ _ _ rfl (by decide) (HIA.out.below l1.out) (IntR.lit wA _ _ _ rfl)).mono ?_
  rintro e wB ⟨rfl, hB⟩
  have hB2 := l1.out.trans (hB.mono l1.out.size)
  have HBB := Lib.hid (Below.step HBA.out hB2)
  have HJB := Lib.hid (HJA.out.below hB2)
  have HKB := Lib.hid (HKA.out.below hB2)
  have HTB := Lib.hid (HTA.out.below hB2)
  clear hB hB2 l1 HBA HIA HJA HKA HTA
  go_wp2_with fail
  have l2 := Lib.hid (below_alloc wB (.cells #[.int .i64 2] 3))
  refine (same_yes [2] 1 _ _ _ _ _ rfl (by decide) (HJB.out.below l2.out) (IntR.lit wB _ _ _ rfl)).mono ?_
  rintro e wC ⟨rfl, hB⟩
  have hB2 := l2.out.trans (hB.mono l2.out.size)
  have HBC := Lib.hid (Below.step HBB.out hB2)
  have HKC := Lib.hid (HKB.out.below hB2)
  have HTC := Lib.hid (HTB.out.below hB2)
  clear hB hB2 l2 HBB HJB HKB HTB
  go_wp2_with fail
  have l3 := Lib.hid (below_alloc wC (.cells #[.int .i64 0] 3))
  refine (same_yes [0] 1 _ _ _ _ _ rfl (by decide) (HKC.out.below l3.out) (IntR.lit wC _ _ _ rfl)).mono ?_
  rintro e wD ⟨rfl, hB⟩
  have hB2 := l3.out.trans (hB.mono l3.out.size)
  have HBD := Lib.hid (Below.step HBC.out hB2)
  have HTD := Lib.hid (HTC.out.below hB2)
  clear hB hB2 l3 HBC HKC HTC
  go_wp2_with fail
  have l4 := Lib.hid (((below_alloc wD (.cells #[.int .i64 0, .int .i64 (-1)] 3)).alloc (Nat.le_of_lt (alloc_lt _ _)) (.cells #[.int .i64 10, .int .i64 0] 3)).alloc (by simp; omega) (.cells #[.slice (some ⟨wD.heap.size, 0, none⟩) 2 2, .slice (some ⟨wD.heap.size + 1, 0, none⟩) 2 2] 27))
  refine (sameTable_yes [[0, -1], [10, 0]] 2 _ _ _ _ _ rfl (by decide) (by decide) (HTD.out.below l4.out) (rows_lit wD _ _)).mono ?_
  rintro e wE ⟨rfl, hB⟩
  have HBE := Lib.hid (Below.step HBD.out (l4.out.trans (hB.mono l4.out.size)))
  clear hB l4 HBD HTD
  go_wp2_with fail
  go_ret
  exact ⟨rfl, HBE.out⟩
end Go.Proofs.Ythomklpaafnjhaa
