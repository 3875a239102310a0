/-
  The contract of awake: the chapter's examples. No condition.
-/
import Derived.Test.YtagpkijgednmnaaIdtG
namespace Go.Proofs.Ytagpkijgednmnaa
open Go.RowKit Go.Maps
set_option linter.unusedVariables false

def sHar : ByteArray := ⟨#[104, 97, 114, 98, 111, 117, 114]⟩
def sOld : ByteArray := ⟨#[111, 108, 100, 45, 116, 111, 119, 110]⟩
def sPark : ByteArray := ⟨#[112, 97, 114, 107]⟩
def sA : ByteArray := ⟨#[97]⟩
def sB : ByteArray := ⟨#[98]⟩
def sH : ByteArray := ⟨#[45]⟩
theorem v1 : Vd sHar = true := by decide +kernel
theorem v2 : Vd sOld = true := by decide +kernel
theorem v3 : Vd sPark = true := by decide +kernel
theorem e1 : newE [] [sHar, sOld] = 0 := by decide +kernel
theorem e2 : newE [] [sA, sH, sA] = 5 := by decide +kernel
theorem e3 : newE [] [sA, sB, sA] = 6 := by decide +kernel
theorem e4 : addE [sHar, sOld] sHar = 6 := by decide +kernel
theorem e5 : addE [sHar, sOld] sPark = 0 := by decide +kernel
theorem e6 : sOld ∈ [sHar, sOld, sPark] := by simp
theorem e7 : plc [sHar, sOld, sPark] sOld = 1 := by decide +kernel
theorem e8 : Vd ⟨#[122, 57]⟩ = true := by decide +kernel
theorem e9 : Vd ⟨#[57, 122]⟩ = false := by decide +kernel

theorem StR.lit (w : World) (l : List ByteArray) : StR (w.alloc (.cells (l.map Value.string).toArray 9)) (some ⟨w.heap.size, 0, none⟩) l := fun _ => by
  refine ⟨w.heap.size, 0, rfl, by simp, fun k hk => ?_⟩
  rw [Nat.zero_add, World.cell?_alloc_new]
  simp [hk]
theorem wideS_of {l : List ByteArray} (h : l.all (fun s => decide (s.size ≤ 100)) = true) : WideS l := fun k hk => by
  have := of_decide_eq_true (List.all_eq_true.1 h (l.getD k ByteArray.empty) (by simp [hk]))
  omega
theorem new1 (w : World) : Calls Try.prog 14 #[.slice (some ⟨w.heap.size, 0, none⟩) 2 2] (w.alloc (.cells #[.string ⟨#[104, 97, 114, 98, 111, 117, 114]⟩, .string ⟨#[111, 108, 100, 45, 116, 111, 119, 110]⟩] 9)) fun e w' => ∃ b S, e = .returned (.tuple #[.pointer (some ⟨b, 0, none⟩), .int .i64 0]) ∧ Hid (Tab w' b S [sHar, sOld]) ∧ Hid (∀ k, S k → w.heap.size ≤ k) ∧ Below w.heap.size w w' := by
  have h := new_any [sHar, sOld] (some ⟨w.heap.size, 0, none⟩) 2 _ (by decide) (wideS_of (by decide +kernel)) (StR.lit w [sHar, sOld])
  refine h.mono ?_
  rintro e w' ⟨hB, hh⟩
  have hB2 : Below w.heap.size w w' := ((Below.refl w.heap.size w).alloc (Nat.le_refl _) _).trans (hB.mono (by simp))
  rcases hh with ⟨_, b, S, rfl, hT, hS⟩ | ⟨hne, _⟩
  · exact ⟨b, S, rfl, hT, Lib.hid (fun k hk => by have := hS k hk; simp at this; omega), hB2⟩
  · exact absurd e1 hne
theorem new2 (w : World) : Calls Try.prog 14 #[.slice (some ⟨w.heap.size, 0, none⟩) 3 3] (w.alloc (.cells #[.string ⟨#[97]⟩, .string ⟨#[45]⟩, .string ⟨#[97]⟩] 9)) fun e w' => e = .returned (.tuple #[.pointer none, .int .i64 5]) ∧ Below w.heap.size w w' := by
  have h := new_any [sA, sH, sA] (some ⟨w.heap.size, 0, none⟩) 3 _ (by decide) (wideS_of (by decide +kernel)) (StR.lit w [sA, sH, sA])
  refine h.mono ?_
  rintro e w' ⟨hB, hh⟩
  have hB2 : Below w.heap.size w w' := ((Below.refl w.heap.size w).alloc (Nat.le_refl _) _).trans (hB.mono (by simp))
  rcases hh with ⟨hz, _⟩ | ⟨_, rfl⟩
  · rw [e2] at hz; exact absurd hz (by decide)
  · exact ⟨by rw [e2]; rfl, hB2⟩
theorem new3 (w : World) : Calls Try.prog 14 #[.slice (some ⟨w.heap.size, 0, none⟩) 3 3] (w.alloc (.cells #[.string ⟨#[97]⟩, .string ⟨#[98]⟩, .string ⟨#[97]⟩] 9)) fun e w' => e = .returned (.tuple #[.pointer none, .int .i64 6]) ∧ Below w.heap.size w w' := by
  have h := new_any [sA, sB, sA] (some ⟨w.heap.size, 0, none⟩) 3 _ (by decide) (wideS_of (by decide +kernel)) (StR.lit w [sA, sB, sA])
  refine h.mono ?_
  rintro e w' ⟨hB, hh⟩
  have hB2 : Below w.heap.size w w' := ((Below.refl w.heap.size w).alloc (Nat.le_refl _) _).trans (hB.mono (by simp))
  rcases hh with ⟨hz, _⟩ | ⟨_, rfl⟩
  · rw [e3] at hz; exact absurd hz (by decide)
  · exact ⟨by rw [e3]; rfl, hB2⟩

theorem add_har (b : Nat) (S : Nat → Prop) (w : World) (h : Hid (Tab w b S [sHar, sOld])) : Calls Try.prog 17 #[.pointer (some ⟨b, 0, none⟩), .string ⟨#[104, 97, 114, 98, 111, 117, 114]⟩] w fun e w' => e = .returned (.tuple #[.int .i64 0, .int .i64 6]) ∧ w = w' := by
  have := add_err b S [sHar, sOld] sHar w h.out (by decide +kernel) (by rw [e4]; decide)
  rw [e4] at this
  exact this
theorem add_park (b : Nat) (S : Nat → Prop) (w : World) (h : Hid (Tab w b S [sHar, sOld])) : Calls Try.prog 17 #[.pointer (some ⟨b, 0, none⟩), .string ⟨#[112, 97, 114, 107]⟩] w fun e w' => e = .returned (.tuple #[.int .i64 2, .int .i64 0]) ∧ ∃ S', Hid (Tab w' b S' [sHar, sOld, sPark]) ∧ Hid (Keep S w w') ∧ Hid (∀ k, S' k → S k ∨ w.heap.size ≤ k) :=
  add_ok b S [sHar, sOld] sPark w h.out (by decide +kernel) e5
theorem find_old (b : Nat) (S : Nat → Prop) (w : World) (h : Hid (Tab w b S [sHar, sOld, sPark])) : Calls Try.prog 21 #[.pointer (some ⟨b, 0, none⟩), .string ⟨#[111, 108, 100, 45, 116, 111, 119, 110]⟩] w fun e w' => e = .returned (.tuple #[.int .i64 1, .bool true]) ∧ w = w' := by
  have := find_in b S [sHar, sOld, sPark] sOld w h.out (by decide +kernel) e6
  rw [e7] at this
  exact this
theorem name_2 (b : Nat) (S : Nat → Prop) (w : World) (h : Hid (Tab w b S [sHar, sOld, sPark])) : Calls Try.prog 20 #[.pointer (some ⟨b, 0, none⟩), .int .i64 2] w fun e w' => e = .returned (.tuple #[.string ⟨#[112, 97, 114, 107]⟩, .int .i64 0]) ∧ w = w' :=
  name_in b S [sHar, sOld, sPark] 2 w h.out (by decide)
theorem len_3 (b : Nat) (S : Nat → Prop) (w : World) (h : Hid (Tab w b S [sHar, sOld, sPark])) : Calls Try.prog 19 #[.pointer (some ⟨b, 0, none⟩)] w fun e w' => e = .returned (.int .i64 3) ∧ w = w' :=
  len_any b S [sHar, sOld, sPark] w h.out
theorem valid_z9 (w : World) : Calls Try.prog 11 #[.string ⟨#[122, 57]⟩] w fun e w' => e = .returned (.bool true) ∧ w = w' := by
  have := valid_any ⟨#[122, 57]⟩ w (by decide +kernel)
  rwa [e8] at this
theorem valid_9z (w : World) : Calls Try.prog 11 #[.string ⟨#[57, 122]⟩] w fun e w' => e = .returned (.bool false) ∧ w = w' := by
  have := valid_any ⟨#[57, 122]⟩ w (by decide +kernel)
  rwa [e9] at this

set_option maxRecDepth 100000 in
set_option maxHeartbeats 4000000 in
theorem awake_any (w : World) : Calls Try.prog 10 #[] w fun e w' => e = .returned (.bool true) ∧ Below w.heap.size w w' := by
  go_enter Try.func10, Try.ntmps10
  go_wp2_with fail
  refine (new1 _).mono ?_
  rintro e w1 ⟨b, S, rfl, hT1, hS1, hB1⟩
  go_wp2_with fail
  refine (add_har b S _ hT1).mono ?_
  rintro e w' ⟨rfl, rfl⟩
  go_wp2_with fail
  refine (add_park b S _ hT1).mono ?_
  rintro e w2 ⟨rfl, S2, hT2, hK2, hS2⟩
  have hB2 : Below w.heap.size w w2 := hB1.trans (hK2.out.below hS1.out hB1.size)
  clear hT1 hK2 hS2 hS1 hB1
  go_wp2_with fail
  refine (find_old b S2 _ hT2).mono ?_
  rintro e w' ⟨rfl, rfl⟩
  go_wp2_with fail
  refine (name_2 b S2 _ hT2).mono ?_
  rintro e w' ⟨rfl, rfl⟩
  go_wp2_with fail
  refine (new2 _).mono ?_
  rintro e w3 ⟨rfl, hB3⟩
  have hT3 : Hid (Tab w3 b S2 [sHar, sOld, sPark]) := Lib.hid (hT2.out.below hB3)
  have hB3' : Below w.heap.size w w3 := hB2.trans (hB3.mono hB2.size)
  clear hT2 hB2 hB3
  go_wp2_with fail
  refine (new3 _).mono ?_
  rintro e w4 ⟨rfl, hB4⟩
  have hT4 : Hid (Tab w4 b S2 [sHar, sOld, sPark]) := Lib.hid (hT3.out.below hB4)
  have hB4' : Below w.heap.size w w4 := hB3'.trans (hB4.mono hB3'.size)
  clear hT3 hB3' hB4
  go_wp2_with fail
  refine (len_3 b S2 _ hT4).mono ?_
  rintro e w' ⟨rfl, rfl⟩
  go_wp2_with fail
  refine (valid_z9 _).mono ?_
  rintro e w' ⟨rfl, rfl⟩
  go_wp2_with fail
  refine (valid_9z _).mono ?_
  rintro e w' ⟨rfl, rfl⟩
  go_wp2_with fail
  go_ret
  exact ⟨rfl, hB4'⟩
end Go.Proofs.Ytagpkijgednmnaa
