/-
  The contract of awake: the chapter's examples. No condition.
-/
import Derived.Test.YtlanbilcekepnaaWirL
namespace Go.Proofs.Ytlanbilcekepnaa
open Go.RowKit Go.Maps
set_option linter.unusedVariables false

theorem BytR.lit (w : World) (l : List UInt8) : BytR (w.alloc (.cells (l.map bc).toArray 5)) (some ⟨w.heap.size, 0, none⟩) l := fun _ => by
  refine ⟨w.heap.size, 0, rfl, by simp, fun k v hk => ?_⟩
  rw [Nat.zero_add, World.cell?_alloc_new]
  simpa using hk
theorem IntR.lit (w : World) (l : List Int) : IntR (w.alloc (.cells (l.map ic).toArray 3)) (some ⟨w.heap.size, 0, none⟩) l := fun _ => by
  refine ⟨w.heap.size, 0, rfl, by simp, fun k v hk => ?_⟩
  rw [Nat.zero_add, World.cell?_alloc_new]
  simpa using hk
theorem e1 : It [128, 1] 0 = (64, 2, 0) := by decide +kernel
theorem e2 : It [128, 0] 0 = (0, 0, 3) := by decide +kernel
theorem e3 : It [128] 0 = (0, 0, 4) := by decide +kernel
theorem e4 : Tt [4, 104, 105] 0 = ([104, 105], 3, 0) := by decide +kernel
theorem e5 : Ls [4, 0, 1] 0 = ([0, -1], 3, 0) := by decide +kernel
theorem leb64 : enc 64 = [128, 1] := by
  unfold enc
  rw [show zz 64 = 128 from rfl, leb_big (by decide), leb_small (by decide)]
  rfl
theorem enc2 : enc 2 = [4] := by
  unfold enc
  rw [show zz 2 = 4 from rfl, leb_small (by decide)]
  rfl
theorem encs01 : encs [0, -1] = [0, 1] := by
  unfold encs encs encs enc
  rw [show zz 0 = 0 from rfl, show zz (-1) = 1 from rfl, leb_small (by decide), leb_small (by decide)]
  rfl
theorem lowB {w w' : World} {o : Obj} (h : Below (w.alloc o).heap.size (w.alloc o) w') : Below w.heap.size w w' := ((Below.refl w.heap.size w).alloc (Nat.le_refl _) _).trans (h.mono (by simp))
theorem low {w : World} {o : Obj} {f : Nat} {ar : Array Value} {E : Ending} (h : Calls Try.prog f ar (w.alloc o) fun e w' => e = E ∧ w.alloc o = w') : Calls Try.prog f ar (w.alloc o) fun e w' => e = E ∧ Below w.heap.size w w' :=
  h.mono fun _ _ ⟨he, hw⟩ => ⟨he, hw ▸ (Below.refl _ _).alloc (Nat.le_refl _) _⟩
theorem int1 (w : World) : Calls Try.prog 19 #[.slice (some ⟨w.heap.size, 0, none⟩) 2 2, .int .i64 0] (w.alloc (.cells #[.int .u8 128, .int .u8 1] 5)) fun e w' => e = .returned (.tuple #[.int .i64 64, .int .i64 2, .int .i64 0]) ∧ Below w.heap.size w w' :=
  low (int_any _ [128, 1] 2 2 0 _ 64 2 0 e1 rfl (by decide) (by decide) (BytR.lit w [128, 1]) (by decide) (by decide))
theorem int2 (w : World) : Calls Try.prog 19 #[.slice (some ⟨w.heap.size, 0, none⟩) 2 2, .int .i64 0] (w.alloc (.cells #[.int .u8 128, .int .u8 0] 5)) fun e w' => e = .returned (.tuple #[.int .i64 0, .int .i64 0, .int .i64 3]) ∧ Below w.heap.size w w' :=
  low (int_any _ [128, 0] 2 2 0 _ 0 0 3 e2 rfl (by decide) (by decide) (BytR.lit w [128, 0]) (by decide) (by decide))
theorem int3 (w : World) : Calls Try.prog 19 #[.slice (some ⟨w.heap.size, 0, none⟩) 1 1, .int .i64 0] (w.alloc (.cells #[.int .u8 128] 5)) fun e w' => e = .returned (.tuple #[.int .i64 0, .int .i64 0, .int .i64 4]) ∧ Below w.heap.size w w' :=
  low (int_any _ [128] 1 1 0 _ 0 0 4 e3 rfl (by decide) (by decide) (BytR.lit w [128]) (by decide) (by decide))
theorem text4 (w : World) : Calls Try.prog 21 #[.slice (some ⟨w.heap.size, 0, none⟩) 3 3, .int .i64 0] (w.alloc (.cells #[.int .u8 4, .int .u8 104, .int .u8 105] 5)) fun e w' => e = .returned (.tuple #[.string ⟨#[104, 105]⟩, .int .i64 3, .int .i64 0]) ∧ Below w.heap.size w w' :=
  low (text_any _ [4, 104, 105] 3 3 0 _ [104, 105] 3 0 e4 rfl (by decide) (by decide) (BytR.lit w [4, 104, 105]) (by decide) (by decide))
theorem ints5 (w : World) : Calls Try.prog 23 #[.slice (some ⟨w.heap.size, 0, none⟩) 3 3, .int .i64 0] (w.alloc (.cells #[.int .u8 4, .int .u8 0, .int .u8 1] 5)) fun e w' => ∃ B d, e = .returned (.tuple #[.slice B 2 d, .int .i64 3, .int .i64 0]) ∧ Hid (IntR w' B [0, -1]) ∧ Below w.heap.size w w' := by
  refine (ints_any _ [4, 0, 1] 3 3 0 _ [0, -1] 3 0 e5 rfl (by decide) (by decide) (BytR.lit w [4, 0, 1]) (by decide) (by decide)).mono ?_
  rintro e w' ⟨v, rfl, hO, hB⟩
  obtain ⟨B, d, rfl, _, hr⟩ := hO.form
  exact ⟨B, d, rfl, hr, lowB hB⟩
theorem put1 (w : World) : Calls Try.prog 13 #[.slice (some ⟨w.heap.size, 0, none⟩) 1 1, .int .i64 64] (w.alloc (.cells #[.int .u8 9] 5)) fun e w' => ∃ B d, e = .returned (.slice B 3 d) ∧ Hid (BytR w' B [9, 128, 1]) ∧ Below w.heap.size w w' := by
  refine (putInt_own _ [9] 1 1 64 _ rfl (by decide) (by decide) (BytR.lit w [9]) (by decide) (by decide)).mono ?_
  rintro e w' ⟨v, rfl, hO, hB⟩
  have h := hO.out
  rw [leb64] at h
  obtain ⟨B, d, rfl, _, hr⟩ := h.form
  exact ⟨B, d, rfl, hr, lowB hB⟩
theorem put2 (w : World) : Calls Try.prog 15 #[.slice none 0 0, .string ⟨#[104, 105]⟩] w fun e w' => ∃ B d, e = .returned (.slice B 3 d) ∧ Hid (BytR w' B [4, 104, 105]) ∧ Below w.heap.size w w' := by
  refine (putText_own none [] 0 0 ⟨#[104, 105]⟩ w rfl (by decide) (by decide +kernel) (by decide) (VsR.nil w _)).mono ?_
  rintro e w' ⟨v, rfl, hO, hB⟩
  have h := hO.out
  rw [show ((ByteArray.size ⟨#[104, 105]⟩ : Nat) : Int) = 2 from rfl, enc2] at h
  obtain ⟨B, d, rfl, _, hr⟩ := h.form
  exact ⟨B, d, rfl, hr, hB⟩
theorem wide01 : WideI [0, -1] := fun k hk => by
  match k, hk with
  | 0, _ => decide
  | 1, _ => decide
theorem put3 (w : World) : Calls Try.prog 17 #[.slice none 0 0, .slice (some ⟨w.heap.size, 0, none⟩) 2 2] (w.alloc (.cells #[.int .i64 0, .int .i64 (-1)] 3)) fun e w' => ∃ B d, e = .returned (.slice B 3 d) ∧ Hid (BytR w' B [4, 0, 1]) ∧ Below w.heap.size w w' := by
  refine (putInts_own none [] 0 0 _ [0, -1] 2 2 _ rfl (by decide) (by decide) (VsR.nil _ _) rfl (by decide) wide01 (IntR.lit w [0, -1])).mono ?_
  rintro e w' ⟨v, rfl, hO, hB⟩
  have h := hO.out
  rw [show (([0, -1] : List Int).length : Int) = 2 from rfl, enc2, encs01] at h
  obtain ⟨B, d, rfl, _, hr⟩ := h.form
  exact ⟨B, d, rfl, hr, lowB hB⟩
theorem same1 (w : World) (B : Option Addr) (d : Nat) (h : BytR w B [9, 128, 1]) : Calls Try.prog 12 #[.slice B 3 d, .slice (some ⟨w.heap.size, 0, none⟩) 3 3] (w.alloc (.cells #[.int .u8 9, .int .u8 128, .int .u8 1] 5)) fun e w' => e = .returned (.bool true) ∧ Below w.heap.size w w' :=
  low (sameB_any B 3 d _ 3 3 [9, 128, 1] _ rfl rfl (h.below ((Below.refl _ _).alloc (Nat.le_refl _) _)) (BytR.lit w [9, 128, 1]))
theorem same2 (w : World) (B : Option Addr) (d : Nat) (h : BytR w B [4, 104, 105]) : Calls Try.prog 12 #[.slice B 3 d, .slice (some ⟨w.heap.size, 0, none⟩) 3 3] (w.alloc (.cells #[.int .u8 4, .int .u8 104, .int .u8 105] 5)) fun e w' => e = .returned (.bool true) ∧ Below w.heap.size w w' :=
  low (sameB_any B 3 d _ 3 3 [4, 104, 105] _ rfl rfl (h.below ((Below.refl _ _).alloc (Nat.le_refl _) _)) (BytR.lit w [4, 104, 105]))
theorem same3 (w : World) (B : Option Addr) (d : Nat) (h : BytR w B [4, 0, 1]) : Calls Try.prog 12 #[.slice B 3 d, .slice (some ⟨w.heap.size, 0, none⟩) 3 3] (w.alloc (.cells #[.int .u8 4, .int .u8 0, .int .u8 1] 5)) fun e w' => e = .returned (.bool true) ∧ Below w.heap.size w w' :=
  low (sameB_any B 3 d _ 3 3 [4, 0, 1] _ rfl rfl (h.below ((Below.refl _ _).alloc (Nat.le_refl _) _)) (BytR.lit w [4, 0, 1]))
theorem same4 (w : World) (B : Option Addr) (d : Nat) (h : IntR w B [0, -1]) : Calls Try.prog 25 #[.slice B 2 d, .slice (some ⟨w.heap.size, 0, none⟩) 2 2] (w.alloc (.cells #[.int .i64 0, .int .i64 (-1)] 3)) fun e w' => e = .returned (.bool true) ∧ Below w.heap.size w w' :=
  (sameI_any B 2 d _ 2 [0, -1] _ rfl (by decide) (h.below ((Below.refl _ _).alloc (Nat.le_refl _) _)) (IntR.lit w [0, -1])).mono fun _ _ ⟨he, hb⟩ => ⟨he, lowB hb⟩

set_option maxRecDepth 100000 in
set_option maxHeartbeats 4000000 in
theorem awake_any (w : World) : Calls Try.prog 11 #[] w fun e w' => e = .returned (.bool true) ∧ Below w.heap.size w w' := by
  go_enter Try.func11, Try.ntmps11
  go_wp2_with fail
  refine (int1 _).mono ?_
  rintro e w1 ⟨rfl, hB1⟩
  go_wp2_with fail
  refine (int2 _).mono ?_
  rintro e w2 ⟨rfl, hB2⟩
  have hB3 := Below.step hB1 hB2
  clear hB1 hB2
  go_wp2_with fail
  refine (int3 _).mono ?_
  rintro e w3 ⟨rfl, hB4⟩
  have hB5 := Below.step hB3 hB4
  clear hB3 hB4
  go_wp2_with fail
  refine (text4 _).mono ?_
  rintro e w4 ⟨rfl, hB6⟩
  have hB7 := Below.step hB5 hB6
  clear hB5 hB6
  go_wp2_with fail
  refine (ints5 _).mono ?_
  rintro e w5 ⟨B5, d5, rfl, hI5, hB8⟩
  have hB9 := Below.step hB7 hB8
  clear hB7 hB8
  go_wp2_with fail
  refine (same4 _ _ _ hI5.out).mono ?_
  rintro e w6 ⟨rfl, hB10⟩
  have hB11 := Below.step hB9 hB10
  clear hB9 hB10 hI5
  go_wp2_with fail
  refine (put1 _).mono ?_
  rintro e w7 ⟨B7, d7, rfl, hI7, hB12⟩
  have hB13 := Below.step hB11 hB12
  clear hB11 hB12
  go_wp2_with fail
  refine (same1 _ _ _ hI7.out).mono ?_
  rintro e w8 ⟨rfl, hB14⟩
  have hB15 := Below.step hB13 hB14
  clear hB13 hB14 hI7
  go_wp2_with fail
  refine (put2 _).mono ?_
  rintro e w9 ⟨B9, d9, rfl, hI9, hB16⟩
  have hB17 := Below.step hB15 hB16
  clear hB15 hB16
  go_wp2_with fail
  refine (same2 _ _ _ hI9.out).mono ?_
  rintro e w10 ⟨rfl, hB18⟩
  have hB19 := Below.step hB17 hB18
  clear hB17 hB18 hI9
  go_wp2_with fail
  refine (put3 _).mono ?_
  rintro e w11 ⟨B11, d11, rfl, hI11, hB20⟩
  have hB21 := Below.step hB19 hB20
  clear hB19 hB20
  go_wp2_with fail
  refine (same3 _ _ _ hI11.out).mono ?_
  rintro e w12 ⟨rfl, hB22⟩
  have hB23 := Below.step hB21 hB22
  clear hB21 hB22 hI11
  go_wp2_with fail
  go_ret
  exact ⟨rfl, hB23⟩
end Go.Proofs.Ytlanbilcekepnaa
