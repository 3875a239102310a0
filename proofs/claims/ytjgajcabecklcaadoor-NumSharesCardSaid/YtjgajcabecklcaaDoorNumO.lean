/-
  The law's own awake (it checks the chapter's examples) returns true. Condition: Go's own tables and error values hold what the program's text lays.
-/
import Derived.Test.YtjgajcabecklcaaDoorNumN
namespace Go.Proofs.YtjgajcabecklcaaDoor
open Go.RowKit
set_option linter.unusedVariables false

set_option maxRecDepth 100000 in
set_option maxHeartbeats 1000000 in
theorem awake_any (w : World) (f : Facts w) : Calls Tryd.prog 17 #[] w fun e w' => e = .returned (.bool true) ∧ Below w.heap.size w w' := by
  have F := Lib.hid f
  clear f
  go_enter Tryd.func17, Tryd.ntmps17
  go_wp2_with fail
  refine (ex1 _).mono ?_
  rintro e w1 ⟨rfl, rfl⟩
  go_wp2_with fail
  refine (ex2 _).mono ?_
  rintro e w1 ⟨rfl, rfl⟩
  go_wp2_with fail
  refine (ex3 _).mono ?_
  rintro e w1 ⟨rfl, rfl⟩
  go_wp2_with fail
  refine (ex4 _).mono ?_
  rintro e w1 ⟨rfl, n4, hw1⟩
  have hb1 : Below w.heap.size w w1 := hw1 ▸ below_drewN' w n4
  clear hw1
  go_wp2_with fail
  refine (ex5 _).mono ?_
  rintro e w2 ⟨rfl, rfl⟩
  go_wp2_with fail
  refine (ex6 w1).mono ?_
  rintro e w6 ⟨blk, rfl, hk1, hk2, hR, hb6⟩
  have hb2 := Below.step hb1 hb6
  have HR := Lib.hid hR
  clear hR hb6
  go_wp2_with fail
  refine (ex7 _ (F.out.below hb2)).mono ?_
  rintro e w7 ⟨rfl, hb7⟩
  have HR7 := Lib.hid (HR.out.below hb7 hk2)
  have hk7 : blk < w7.heap.size := Nat.lt_of_lt_of_le hk2 hb7.size
  have hb3 := Below.step hb2 hb7
  go_wp2_with fail
  refine (ex8 _ (F.out.below hb3)).mono ?_
  rintro e w8 ⟨rfl, hb8⟩
  have HR8 := Lib.hid (HR7.out.below hb8 hk7)
  have hk8 : blk < w8.heap.size := Nat.lt_of_lt_of_le hk7 hb8.size
  have hb4 := Below.step hb3 hb8
  clear HR HR7 hb7 hb8 hb1 hb2 hb3
  go_wp2_with fail
  refine (ex9 w8).mono ?_
  rintro e w9 ⟨rfl, hw9⟩
  have hb9 : Below w.heap.size w w9 := hw9 ▸ hb4.alloc hb4.size _
  have HR9 : Hid (Row w9 blk [4, 0, 1, 2]) := hw9 ▸ (HR8.out.below ((Below.refl w8.heap.size w8).alloc (Nat.le_refl _) _) hk8)
  have hk9 : blk < w9.heap.size := by rw [← hw9]; simp; omega
  clear hw9 HR8 hk8 hk7 hk2 hk1
  go_wp2_with fail
  have i1 : IntsAt (w9.alloc (.cells #[.int .i64 4, .int .i64 0, .int .i64 1, .int .i64 2] 3)) (.slice (some ⟨blk, 0, none⟩) 4 4) [4, 0, 1, 2] :=
    (HR9.out.below ((Below.refl w9.heap.size w9).alloc (Nat.le_refl _) _) hk9).ints (l := [4, 0, 1, 2]) (by decide) (by decide)
  have i2 : IntsAt (w9.alloc (.cells #[.int .i64 4, .int .i64 0, .int .i64 1, .int .i64 2] 3)) (.slice (some ⟨w9.heap.size, 0, none⟩) 4 4) [4, 0, 1, 2] := ints_new [4, 0, 1, 2] w9 3 (by decide) (by decide)
  have hs := same_true [4, 0, 1, 2] _ _ _ i1 i2
  refine hs.mono ?_
  rintro e w10 ⟨rfl, hb10⟩
  have hb11 : Below w.heap.size w w10 := (hb9.alloc hb9.size _).trans (hb10.mono (by have := hb9.size; simp; omega))
  clear hs i1 i2 hb10 HR9 hk9 hb9 hb4
  go_wp2
  go_ret
  exact ⟨rfl, hb11⟩
end Go.Proofs.YtjgajcabecklcaaDoor
