/-
  The contracts of short and of awake: the chapter's examples. No condition.
-/
import Derived.Test.YthafaococbdhoaaCrcG
import Derived.Lib.SlBytesConst
import Derived.Lib.SmallJoins
namespace Go.Proofs.Ythafaococbdhoaa
open Go.RowKit Go.Maps
set_option linter.unusedVariables false

theorem short_any (A : Option Addr) (m c : Nat) (w : World) (r : Bool) (hr : (m ≤ 3000) = (r = true)) :
    Calls Try.prog 10 #[.slice A m c] w fun e w' => e = .returned (.bool r) ∧ w = w' := by
  have HR := Lib.hid hr
  clear hr
  go_enter Try.func10, Try.ntmps10
  go_wp2_with fail
  go_ret
  refine ⟨ret_bool ?_, rfl⟩
  rw [Bool.eq_iff_iff, decide_eq_true_iff, ← HR.out]
  omega

theorem x0 : Op [2, 97, 67, 190, 183, 232] 0 = ([97], 6, 0) := by decide +kernel
theorem x1 : Op [2, 97, 67, 190, 183, 232] 1 = ([], 0, 3) := by decide +kernel
theorem x7 : Op [2, 97, 67, 190, 183, 232] 7 = ([], 0, 1) := by decide +kernel
theorem xr : Rc [2, 97, 67, 190, 183, 232, 2] 8 0 [] = ([[97]], 6) := by decide +kernel
theorem xs : cs [49, 50, 51, 52, 53, 54, 55, 56, 57] = 3421780262 := by decide +kernel
theorem xn : cs [] = 0 := by decide +kernel
theorem xf : fr [97] = [2, 97, 67, 190, 183, 232] := by
  unfold fr enc
  rw [show zz (([97] : List UInt8).length : Int) = 2 from rfl, leb_small (by decide)]
  decide +kernel
theorem aw_seal (w : World) (b : Nat) (h : BytR w (some ⟨b, 0, none⟩) [97]) : Calls Try.prog 14 #[.slice (some ⟨b, 0, none⟩) 1 1] w fun e w' => ∃ B d, e = .returned (.tuple #[.slice B 6 d, .int .i64 0]) ∧ Hid (BytR w' B [2, 97, 67, 190, 183, 232]) ∧ Below w.heap.size w w' := by
  refine (seal_any _ [97] 1 1 w rfl (by decide) h).mono ?_
  rintro e w' ⟨v, rfl, hO, hB⟩
  have h := hO.out
  rw [xf] at h
  obtain ⟨B, d, rfl, _, hr⟩ := h.form
  exact ⟨B, d, rfl, hr, hB⟩
theorem aw_open0 (w : World) (b : Nat) (h : BytR w (some ⟨b, 0, none⟩) [2, 97, 67, 190, 183, 232]) : Calls Try.prog 17 #[.slice (some ⟨b, 0, none⟩) 6 6, .int .i64 0] w fun e w' => ∃ B d, e = .returned (.tuple #[.slice B 1 d, .int .i64 6, .int .i64 0]) ∧ Hid (BytR w' B [97]) ∧ Below w.heap.size w w' := by
  refine (open_any _ _ 6 6 0 w _ _ _ x0 rfl (by decide) (by decide) h (by decide) (by decide)).mono ?_
  rintro e w' ⟨v, rfl, hO, hB⟩
  obtain ⟨B, d, rfl, _, hr⟩ := hO.form
  exact ⟨B, d, rfl, hr, hB⟩
theorem aw_open1 (w : World) (b : Nat) (h : BytR w (some ⟨b, 0, none⟩) [2, 97, 67, 190, 183, 232]) : Calls Try.prog 17 #[.slice (some ⟨b, 0, none⟩) 6 6, .int .i64 1] w fun e w' => ∃ v, e = .returned (.tuple #[v, .int .i64 0, .int .i64 3]) ∧ Below w.heap.size w w' := by
  refine (open_any _ _ 6 6 1 w _ _ _ x1 rfl (by decide) (by decide) h (by decide) (by decide)).mono ?_
  rintro e w' ⟨v, rfl, hO, hB⟩
  exact ⟨v, rfl, hB⟩
theorem aw_open7 (w : World) (b : Nat) (h : BytR w (some ⟨b, 0, none⟩) [2, 97, 67, 190, 183, 232]) : Calls Try.prog 17 #[.slice (some ⟨b, 0, none⟩) 6 6, .int .i64 7] w fun e w' => ∃ v, e = .returned (.tuple #[v, .int .i64 0, .int .i64 1]) ∧ Below w.heap.size w w' := by
  refine (open_any _ _ 6 6 7 w _ _ _ x7 rfl (by decide) (by decide) h (by decide) (by decide)).mono ?_
  rintro e w' ⟨v, rfl, hO, hB⟩
  exact ⟨v, rfl, hB⟩
theorem aw_recover (w : World) (B : Option Addr) (d : Nat) (hd : 7 ≤ d) (h : BytR w B [2, 97, 67, 190, 183, 232, 2]) : Calls Try.prog 19 #[.slice B 7 d] w fun e w' => ∃ A c, e = .returned (.tuple #[.slice A 1 c, .int .i64 6]) ∧ Below w.heap.size w w' := by
  refine (recover_any _ _ 7 d 8 w _ _ (by decide) xr rfl (by decide) hd h).mono ?_
  rintro e w' ⟨v, rfl, hO, hB⟩
  obtain ⟨A, c, rfl, _, _⟩ := hO.form
  exact ⟨A, c, rfl, hB⟩
theorem aw_sum (w : World) (b : Nat) (h : BytR w (some ⟨b, 0, none⟩) [49, 50, 51, 52, 53, 54, 55, 56, 57]) : Calls Try.prog 12 #[.slice (some ⟨b, 0, none⟩) 9 9] w fun e w' => e = .returned (.int .i64 3421780262) ∧ Below w.heap.size w w' := by
  have := sum_any (some ⟨b, 0, none⟩) _ 9 9 w rfl (by decide) h
  rw [xs] at this
  exact this
theorem aw_none (w : World) : Calls Try.prog 12 #[.slice none 0 0] w fun e w' => e = .returned (.int .i64 0) ∧ Below w.heap.size w w' := by
  have := sum_any none [] 0 0 w rfl (by decide) (VsR.nil w _)
  rw [xn] at this
  exact this
theorem aw_same (w : World) (B : Option Addr) (d b : Nat) (h : BytR w B [2, 97, 67, 190, 183, 232]) (h2 : BytR w (some ⟨b, 0, none⟩) [2, 97, 67, 190, 183, 232]) : Calls Try.prog 16 #[.slice B 6 d, .slice (some ⟨b, 0, none⟩) 6 6] w fun e w' => e = .returned (.bool true) ∧ Below w.heap.size w w' :=
  (same_any B 6 d _ 6 6 _ _ true w (by simp) rfl rfl (by decide) h h2).mono fun e w' ⟨he, q, hq⟩ => ⟨he, hq ▸ Below.drewN (Below.refl _ _) q⟩

/-- A marked row of bytes. -/
theorem BytR.mark (w : World) (l : List UInt8) (fr : Nat × Nat) : BytR (w.alloc (.cells (l.map bc).toArray 5 fr)) (some ⟨w.heap.size, 0, none⟩) l := fun _ => by
  refine ⟨w.heap.size, 0, rfl, by simp, fun k v hk => ?_⟩
  rw [Nat.zero_add, World.cell?_alloc_mark]
  simpa using hk

set_option maxRecDepth 100000 in
set_option maxHeartbeats 4000000 in
theorem awake_any (w : World) : Calls Try.prog 11 #[] w fun e w' => e = .returned (.bool true) ∧ Below w.heap.size w w' := by
  obtain ⟨g, hg⟩ : ∃ g, w.heap.size = g := ⟨_, rfl⟩
  obtain ⟨w0, hw0⟩ : ∃ w0, (w.alloc (.cells #[.int .u8 2, .int .u8 97, .int .u8 67, .int .u8 190, .int .u8 183, .int .u8 232] 5)).alloc (.cells #[.int .u8 97] 5 (1, 2)) = w0 := ⟨_, rfl⟩
  have hB0 : Below w.heap.size w w0 := by
    rw [← hw0]
    exact ((Below.refl _ _).alloc (Nat.le_refl _) _).alloc (by simp) _
  have HA : Hid (BytR w0 (some ⟨g, 0, none⟩) [2, 97, 67, 190, 183, 232]) := Lib.hid (by
    rw [← hw0, ← hg]
    exact (BytR.lit w [2, 97, 67, 190, 183, 232]).below ((Below.refl _ _).alloc (Nat.le_refl _) _))
  have HB : Hid (BytR w0 (some ⟨g + 1, 0, none⟩) [97]) := Lib.hid (by
    have := BytR.mark (w.alloc (.cells #[.int .u8 2, .int .u8 97, .int .u8 67, .int .u8 190, .int .u8 183, .int .u8 232] 5)) [97] (1, 2)
    rw [show (w.alloc (.cells #[.int .u8 2, .int .u8 97, .int .u8 67, .int .u8 190, .int .u8 183, .int .u8 232] 5)).heap.size = g + 1 by simp [hg]] at this
    rw [← hw0]
    exact this)
  have HG := Lib.hid hg
  have HW := Lib.hid hw0
  have kc : ∀ n c, (convert 22 22 (.slice (some ⟨w.heap.size + 1, 0, none⟩) n c)).run Try.prog ((w.alloc (.cells #[.int .u8 2, .int .u8 97, .int .u8 67, .int .u8 190, .int .u8 183, .int .u8 232] 5)).alloc (.cells #[.int .u8 97] 5)) = .ok (.slice (some ⟨w.heap.size + 1, 0, none⟩) n c) ((w.alloc (.cells #[.int .u8 2, .int .u8 97, .int .u8 67, .int .u8 190, .int .u8 183, .int .u8 232] 5)).alloc (.cells #[.int .u8 97] 5 (1, 2))) := fun n c =>
    Joins.run_convert_bytes_const_at (w.alloc (.cells #[.int .u8 2, .int .u8 97, .int .u8 67, .int .u8 190, .int .u8 183, .int .u8 232] 5)) 22 5 #[.int .u8 97] n c (w.heap.size + 1) (by simp) Try.underlying22 Try.underlying5
  have kd : ∀ (w : World) n c, (convert 22 22 (.slice (some ⟨w.heap.size, 0, none⟩) n c)).run Try.prog (w.alloc (.cells #[.int .u8 49, .int .u8 50, .int .u8 51, .int .u8 52, .int .u8 53, .int .u8 54, .int .u8 55, .int .u8 56, .int .u8 57] 5)) = .ok (.slice (some ⟨w.heap.size, 0, none⟩) n c) (w.alloc (.cells #[.int .u8 49, .int .u8 50, .int .u8 51, .int .u8 52, .int .u8 53, .int .u8 54, .int .u8 55, .int .u8 56, .int .u8 57] 5 (9, 10))) := fun w n c =>
    Lib.run_convert_bytes_const w 22 5 #[.int .u8 49, .int .u8 50, .int .u8 51, .int .u8 52, .int .u8 53, .int .u8 54, .int .u8 55, .int .u8 56, .int .u8 57] n c Try.underlying22 Try.underlying5
  clear hw0 hg
  go_enter Try.func11, Try.ntmps11
  go_wp2_with fail
  rw [HW.out, HG.out]
  clear kc
  refine (aw_seal w0 _ HB.out).mono ?_
  rintro e w1 ⟨B1, d1, rfl, hI1, hB1⟩
  have HA1 := Lib.hid (HA.out.below hB1)
  have hB2 := Below.step hB0 hB1
  clear hB0 hB1 HA HB
  go_wp2_with fail
  refine (aw_open0 _ _ HA1.out).mono ?_
  rintro e w2 ⟨B2, d2, rfl, hI2, hB3⟩
  have HA2 := Lib.hid (HA1.out.below hB3)
  have HI1 := Lib.hid (hI1.out.below hB3)
  have hB4 := Below.step hB2 hB3
  clear hB2 hB3 HA1 hI1
  go_wp2_with fail
  refine (aw_open1 _ _ HA2.out).mono ?_
  rintro e w3 ⟨v3, rfl, hB5⟩
  have HA3 := Lib.hid (HA2.out.below hB5)
  have HI2 := Lib.hid (HI1.out.below hB5)
  have HI3 := Lib.hid (hI2.out.below hB5)
  have hB6 := Below.step hB4 hB5
  clear hB4 hB5 HA2 HI1 hI2
  go_wp2_with fail
  refine (aw_open7 _ _ HA3.out).mono ?_
  rintro e w4 ⟨v4, rfl, hB7⟩
  have HA4 := Lib.hid (HA3.out.below hB7)
  have HI4 := Lib.hid (HI2.out.below hB7)
  have HI5 := Lib.hid (HI3.out.below hB7)
  have hB8 := Below.step hB6 hB7
  have hsz8 := hB8.size
  clear hB6 hB7 HA3 HI2 HI3
  have hx4 : w4.heap.size ≤ (w4.alloc (.cells #[.int .u8 2] 5)).heap.size := by simp
  go_wp2_with (at_builtin; refine wpList_append_byte rfl _ _ rfl w4.heap.size _ [2, 97, 67, 190, 183, 232] rfl (Or.inr ⟨some ⟨g, 0, none⟩, rfl, HA4.out.below ((Below.refl _ _).alloc (Nat.le_refl _) _)⟩) _ _ 2 rfl ?y0 (by decide) ?y2 ?_)
  case y0 => rw [World.cell?_alloc_new]; rfl
  case y2 => first | exact hx4 | (simp)
  intro v5 w5 hO5 hB9
  obtain ⟨B5, d5, hv5, hd5, hR5⟩ := hO5.out.form
  subst hv5
  have hB10 : Below w4.heap.size w4 w5 := ((Below.refl _ _).alloc (Nat.le_refl _) _).trans hB9
  have HR5 := Lib.hid hR5
  have HA6 := Lib.hid (HA4.out.below hB10)
  have HI6 := Lib.hid (HI4.out.below hB10)
  have HI7 := Lib.hid (HI5.out.below hB10)
  have hB11 := Below.step hB8 hB10
  clear hB8 hB9 hB10 HA4 HI4 HI5 hO5 hR5 hx4 hsz8
  go_wp2_with fail
  refine (aw_recover _ B5 d5 hd5 HR5.out).mono ?_
  rintro e w6 ⟨A6, c6, rfl, hB12⟩
  have HA7 := Lib.hid (HA6.out.below hB12)
  have HI8 := Lib.hid (HI6.out.below hB12)
  have HI9 := Lib.hid (HI7.out.below hB12)
  have hB13 := Below.step hB11 hB12
  clear hB11 hB12 HA6 HI6 HI7 HR5
  go_wp2_with fail
  obtain ⟨w7, hw7⟩ : ∃ w7, w6.alloc (.cells #[.int .u8 49, .int .u8 50, .int .u8 51, .int .u8 52, .int .u8 53, .int .u8 54, .int .u8 55, .int .u8 56, .int .u8 57] 5 (9, 10)) = w7 := ⟨_, rfl⟩
  obtain ⟨g6, hg6⟩ : ∃ g6, w6.heap.size = g6 := ⟨_, rfl⟩
  have hB14 : Below w6.heap.size w6 w7 := by
    rw [← hw7]
    exact (Below.refl _ _).alloc (Nat.le_refl _) _
  have HD : Hid (BytR w7 (some ⟨g6, 0, none⟩) [49, 50, 51, 52, 53, 54, 55, 56, 57]) := Lib.hid (by
    rw [← hw7, ← hg6]
    exact BytR.mark w6 [49, 50, 51, 52, 53, 54, 55, 56, 57] (9, 10))
  have hB15 := Below.step hB13 hB14
  have HA8 := Lib.hid (HA7.out.below hB14)
  have HI10 := Lib.hid (HI8.out.below hB14)
  have HI11 := Lib.hid (HI9.out.below hB14)
  rw [hw7, hg6]
  clear hw7 hg6 hB13 hB14 HA7 HI8 HI9 kd
  refine (aw_sum _ _ HD.out).mono ?_
  rintro e w8 ⟨rfl, hB16⟩
  have HA9 := Lib.hid (HA8.out.below hB16)
  have HI12 := Lib.hid (HI10.out.below hB16)
  have HI13 := Lib.hid (HI11.out.below hB16)
  have hB17 := Below.step hB15 hB16
  clear hB15 hB16 HA8 HI10 HI11 HD
  go_wp2_with fail
  refine (aw_none _).mono ?_
  rintro e w9 ⟨rfl, hB18⟩
  have HA10 := Lib.hid (HA9.out.below hB18)
  have HI14 := Lib.hid (HI12.out.below hB18)
  have HI15 := Lib.hid (HI13.out.below hB18)
  have hB19 := Below.step hB17 hB18
  clear hB17 hB18 HA9 HI12 HI13
  go_wp2_with fail
  refine (aw_same _ B1 d1 g HI14.out HA10.out).mono ?_
  rintro e w10 ⟨rfl, hB20⟩
  have ks := run_string_of w10 B2 [97] 1 d2 rfl (HI15.out.below hB20)
  have hB21 := Below.step hB19 hB20
  clear hB19 hB20 HA10 HI14 HI15
  go_wp2_with fail
  go_ret
  exact ⟨rfl, hB21⟩
end Go.Proofs.Ythafaococbdhoaa
