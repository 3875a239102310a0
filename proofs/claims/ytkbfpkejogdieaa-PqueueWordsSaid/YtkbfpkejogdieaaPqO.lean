/-
  The contract of awake: the second example of the chapter. No condition.
-/
import Derived.Test.YtkbfpkejogdieaaPqN
namespace Go.Proofs.Ytkbfpkejogdieaa
open Go.RowKit
set_option linter.unusedVariables false

theorem new_up (w : World) :
    Calls Try.prog 10 #[.func (.func 11) #[] #[]] w fun e w' => ∃ b S, e = .returned (.pointer (some ⟨b, 0, none⟩)) ∧ QR w' b S false 0 [] ∧ (∀ k, S k → w.heap.size ≤ k) ∧ Below w.heap.size w w' := new_any false w
theorem new_down (w : World) :
    Calls Try.prog 10 #[.func (.func 15) #[] #[]] w fun e w' => ∃ b S, e = .returned (.pointer (some ⟨b, 0, none⟩)) ∧ QR w' b S true 0 [] ∧ (∀ k, S k → w.heap.size ≤ k) ∧ Below w.heap.size w w' := new_any true w
theorem eq_items (a b : Int) (w : World) : (binOp .eql 27 (.agg #[.int .i64 3, .int .i64 11]) (.agg #[.int .i64 3, .int .i64 11])).run Try.prog w = .ok (.bool true) w := by kernel_rfl
theorem ints2 (w : World) (k : Nat) (t : TypeId) (hk : w.heap.size = k) : IntR (w.alloc (.cells #[.int .i64 1, .int .i64 3] t)) (some ⟨k, 0, none⟩) [1, 3] := fun _ => by
  subst hk
  refine ⟨_, 0, rfl, by simp, fun j hj => ?_⟩
  rw [World.cell?_alloc_new]
  match j, hj with
  | 0, _ => rfl
  | 1, _ => rfl
theorem ints3 (w : World) (k : Nat) (t : TypeId) (hk : w.heap.size = k) : IntR (w.alloc (.cells #[.int .i64 2, .int .i64 3, .int .i64 1] t)) (some ⟨k, 0, none⟩) [2, 3, 1] := fun _ => by
  subst hk
  refine ⟨_, 0, rfl, by simp, fun j hj => ?_⟩
  rw [World.cell?_alloc_new]
  match j, hj with
  | 0, _ => rfl
  | 1, _ => rfl
  | 2, _ => rfl
theorem fill_one (b : Nat) (S : Nat → Prop) (blk : Nat) (w : World) (H : QR w b S false 0 []) (hA : IntR w (some ⟨blk, 0, none⟩) [1, 3]) (hAS : ¬ S blk) (hlt : blk < w.heap.size) :
    Calls Try.prog 12 #[.pointer (some ⟨b, 0, none⟩), .slice (some ⟨blk, 0, none⟩) 2 2, .int .i64 0] w fun e w' => ∃ v S', e = .returned v ∧ QR w' b S' false 2 [(1, 0), (3, 1)] ∧ Keep S w w' ∧ ∀ k, S' k → S k ∨ w.heap.size ≤ k :=
  (fill_any b S false 0 [] [1, 3] 2 2 0 (some ⟨blk, 0, none⟩) w H (by decide) rfl (by decide) hA (fun _ a ha => by cases ha; exact hAS)).mono fun e w' ⟨B, d, S', he, _, _, hq, hk, hs, _⟩ => ⟨_, S', he, hq, hk, hs⟩
theorem fill_two (b : Nat) (S : Nat → Prop) (blk : Nat) (w : World) (H : QR w b S true 0 []) (hA : IntR w (some ⟨blk, 0, none⟩) [2, 3, 1]) (hAS : ¬ S blk) (hlt : blk < w.heap.size) :
    Calls Try.prog 12 #[.pointer (some ⟨b, 0, none⟩), .slice (some ⟨blk, 0, none⟩) 3 3, .int .i64 10] w fun e w' => ∃ v S', e = .returned v ∧ QR w' b S' true 3 [(3, 11), (2, 10), (1, 12)] ∧ Keep S w w' ∧ ∀ k, S' k → S k ∨ w.heap.size ≤ k :=
  (fill_any b S true 0 [] [2, 3, 1] 3 3 10 (some ⟨blk, 0, none⟩) w H (by decide) rfl (by decide) hA (fun _ a ha => by cases ha; exact hAS)).mono fun e w' ⟨B, d, S', he, _, _, hq, hk, hs, _⟩ => ⟨_, S', he, hq, hk, hs⟩
theorem merge_one (q p : Nat) (Sq Sp : Nat → Prop) (w : World) (Hq : QR w q Sq false 2 [(1, 0), (3, 1)]) (Hp : QR w p Sp true 3 [(3, 11), (2, 10), (1, 12)]) (hdis : ∀ k, Sq k → ¬ Sp k) :
    Calls Try.prog 23 #[.pointer (some ⟨q, 0, none⟩), .pointer (some ⟨p, 0, none⟩)] w fun e w' => e = .returned (.tuple #[]) ∧ ∃ Sq', QR w' q Sq' false 5 [(1, 0), (1, 12), (2, 10), (3, 1), (3, 11)] ∧ QR w' p Sp true 3 [] ∧
      Keep (fun k => Sq k ∨ Sp k) w w' ∧ (∀ k, Sq' k → Sq k ∨ w.heap.size ≤ k) ∧ ∀ k, Sq' k → ¬ Sp k :=
  merge_any q p Sq Sp false true 2 3 [(1, 0), (3, 1)] [(3, 11), (2, 10), (1, 12)] w Hq Hp hdis (by decide) (by decide)
theorem drain_one (b : Nat) (S : Nat → Prop) (w : World) (H : QR w b S false 5 [(1, 0), (1, 12), (2, 10), (3, 1), (3, 11)]) :
    Calls Try.prog 14 #[.pointer (some ⟨b, 0, none⟩), .int .i64 9] w fun e w' => ∃ B d, e = .returned (.slice B 5 d) ∧ ItsR w' B [(1, 0), (1, 12), (2, 10), (3, 1), (3, 11)] ∧ Keep S w w' :=
  (drain_any b S false 5 _ 5 9 w H (by decide) rfl (by decide) (by decide)).mono fun e w' ⟨B, d, he, hr, hq, hk, _⟩ => ⟨B, d, he, hr, hk⟩
theorem peek_one (b : Nat) (S : Nat → Prop) (w : World) (H : QR w b S true 3 [(3, 11), (2, 10), (1, 12)]) :
    Calls Try.prog 20 #[.pointer (some ⟨b, 0, none⟩)] w fun e w' => e = .returned (.tuple #[.agg #[.int .i64 3, .int .i64 11], .bool true]) ∧ Below w.heap.size w w' := peek_any b S true 3 _ w H (by decide)
theorem items5 (w : World) (k : Nat) (t : TypeId) (hk : w.heap.size = k) : ItsR (w.alloc (.cells #[.int .i64 1, .int .i64 0, .int .i64 1, .int .i64 12, .int .i64 2, .int .i64 10, .int .i64 3, .int .i64 1, .int .i64 3, .int .i64 11] t)) (some ⟨k, 0, none⟩) [(1, 0), (1, 12), (2, 10), (3, 1), (3, 11)] := fun _ => by
  subst hk
  refine ⟨_, 0, rfl, by simp, fun j hj => ?_⟩
  rw [World.cell?_alloc_new, World.cell?_alloc_new]
  match j, hj with
  | 0, _ => exact ⟨rfl, rfl⟩
  | 1, _ => exact ⟨rfl, rfl⟩
  | 2, _ => exact ⟨rfl, rfl⟩
  | 3, _ => exact ⟨rfl, rfl⟩
  | 4, _ => exact ⟨rfl, rfl⟩

set_option maxRecDepth 100000 in
set_option maxHeartbeats 2000000 in
theorem awake_any (w : World) : Calls Try.prog 9 #[] w fun e w' => e = .returned (.bool true) ∧ Below w.heap.size w w' := by
  have heq := eq_items 0 0
  go_enter Try.func9, Try.ntmps9
  go_wp2_with fail
  refine (new_up _).mono ?_
  rintro e w1 ⟨q, Sq, rfl, hq1, hs1, hb1⟩
  have HQ1 := Lib.hid hq1
  have HS1 := Lib.hid hs1
  clear hq1 hs1
  go_wp2_with fail
  refine (new_down _).mono ?_
  rintro e w2 ⟨p, Sp, rfl, hp2, hs2, hb2⟩
  have HP2 := Lib.hid hp2
  have HQ2 := Lib.hid (HQ1.out.below hb2)
  have HS2 := Lib.hid hs2
  have hB2 := Below.step hb1 hb2
  have HD : Hid (∀ k, Sq k → ¬ Sp k) := Lib.hid (fun k e e2 => by have h1 := HQ1.out.lt k e; have h2 := HS2.out k e2; omega)
  have HSS : Hid (∀ k, Sq k ∨ Sp k → w.heap.size ≤ k) := Lib.hid (fun k e => by
    have := hb1.size
    rcases e with e | e
    · exact HS1.out k e
    · have := HS2.out k e; omega)
  clear hp2 hs2 hb1 hb2 HQ1 HS1
  go_wp2_with fail
  refine (fill_one q Sq w2.heap.size _ ?_ (ints2 w2 _ _ rfl) ?_ ?_).mono ?_
  · exact HQ2.out.keep (S' := fun _ => False) (Keep.alloc0 _ _) (fun _ _ e => e)
  · exact fun e => by have := HQ2.out.lt _ e; omega
  · simp
  rintro e w3 ⟨v3, Sq3, rfl, hq3, hk3, hs3⟩
  have k23 : Keep Sq w2 w3 := (Keep.alloc0 w2 _).step hk3
  have hs3' : ∀ k, Sq3 k → Sq k ∨ w2.heap.size ≤ k := fun k e => by
    rcases hs3 k e with h | h
    · exact Or.inl h
    · simp at h; exact Or.inr (by omega)
  have HQ3 := Lib.hid hq3
  have HP3 := Lib.hid (HP2.out.keep k23 (fun k e e2 => HD.out k e2 e))
  have HD3 : Hid (∀ k, Sq3 k → ¬ Sp k) := Lib.hid (fun k e e2 => by
    rcases hs3' k e with h | h
    · exact HD.out k h e2
    · have := HP2.out.lt k e2; omega)
  have hw2 := hB2.size
  have HSS3 : Hid (∀ k, Sq3 k ∨ Sp k → w.heap.size ≤ k) := Lib.hid (fun k e => by
    rcases e with e | e
    · rcases hs3' k e with h | h
      · exact HSS.out k (Or.inl h)
      · omega
    · exact HSS.out k (Or.inr e))
  have hB3 : Below w.heap.size w w3 := hB2.trans (k23.below (fun k e => HSS.out k (Or.inl e)) hw2)
  clear hq3 hk3 hs3 hs3' k23 HP2 HQ2 HS2 HD HSS hB2
  go_wp2_with fail
  refine (fill_two p Sp w3.heap.size _ ?_ (ints3 w3 _ _ rfl) ?_ ?_).mono ?_
  · exact HP3.out.keep (S' := fun _ => False) (Keep.alloc0 _ _) (fun _ _ e => e)
  · exact fun e => by have := HP3.out.lt _ e; omega
  · simp
  rintro e w4 ⟨v4, Sp4, rfl, hp4, hk4, hs4⟩
  have k34 : Keep Sp w3 w4 := (Keep.alloc0 w3 _).step hk4
  have hs4' : ∀ k, Sp4 k → Sp k ∨ w3.heap.size ≤ k := fun k e => by
    rcases hs4 k e with h | h
    · exact Or.inl h
    · simp at h; exact Or.inr (by omega)
  have HP4 := Lib.hid hp4
  have HQ4 := Lib.hid (HQ3.out.keep k34 HD3.out)
  have HD4 : Hid (∀ k, Sq3 k → ¬ Sp4 k) := Lib.hid (fun k e e2 => by
    rcases hs4' k e2 with h | h
    · exact HD3.out k e h
    · have := HQ3.out.lt k e; omega)
  have hw3 := hB3.size
  have HSS4 : Hid (∀ k, Sq3 k ∨ Sp4 k → w.heap.size ≤ k) := Lib.hid (fun k e => by
    rcases e with e | e
    · exact HSS3.out k (Or.inl e)
    · rcases hs4' k e with h | h
      · exact HSS3.out k (Or.inr h)
      · omega)
  have hB4 : Below w.heap.size w w4 := hB3.trans (k34.below (fun k e => HSS3.out k (Or.inr e)) hw3)
  clear hp4 hk4 hs4 hs4' k34 HP3 HQ3 HD3 HSS3 hB3 hw2 hw3
  go_wp2_with fail
  refine (peek_one p Sp4 _ HP4.out).mono ?_
  rintro e w5 ⟨rfl, hb5⟩
  have HP5 := Lib.hid (HP4.out.below hb5)
  have HQ5 := Lib.hid (HQ4.out.below hb5)
  have hB5 := Below.step hB4 hb5
  have HSB : Hid (∀ k, Sq3 k ∨ Sp4 k → k < w5.heap.size) := Lib.hid (fun k e => by
    rcases e with e | e
    · exact HQ5.out.lt k e
    · exact HP5.out.lt k e)
  clear hb5 HP4 HQ4 hB4
  go_wp2_with fail
  refine (merge_one q p Sq3 Sp4 _ ?_ ?_ HD4.out).mono ?_
  · exact HQ5.out.keep (S' := fun _ => False) (Keep.alloc0 _ _) (fun _ _ e => e)
  · exact HP5.out.keep (S' := fun _ => False) (Keep.alloc0 _ _) (fun _ _ e => e)
  rintro e w6 ⟨rfl, Sq6, hq6, hp6, hk6, hs6, hd6⟩
  have hv6 : VarI w6 w5.heap.size (3, 11) := (VarI.made w5 (3, 11) 27).keep hk6 (fun e => by have := HSB.out _ e; omega)
  obtain ⟨c0, c1, _, _⟩ := hv6
  simp only at c0 c1
  have hw5 := hB5.size
  have hB6 : Below w.heap.size w w6 := (hB5.alloc hB5.size _).trans (hk6.below (fun k e => HSS4.out k e) (by simp; omega))
  have HL1 := Lib.hid (len_any p Sp4 true 3 0 [] w6 hp6 rfl)
  have HL2 := Lib.hid (len_any q Sq6 false 5 5 _ w6 hq6 rfl)
  have HDR := Lib.hid (drain_one q Sq6 w6 hq6)
  have HS6 : Hid (∀ k, Sq6 k → w.heap.size ≤ k) := Lib.hid (fun k e => by
    rcases hs6 k e with h | h
    · exact HSS4.out k (Or.inl h)
    · simp at h; omega)
  clear hq6 hp6 hk6 hs6 hd6 HQ5 HP5 HSB HSS4 HD4 hB5
  go_wp2_with fail
  refine HL1.out.mono ?_
  rintro e w7 ⟨rfl, rfl⟩
  go_wp2_with fail
  refine HL2.out.mono ?_
  rintro e w7 ⟨rfl, rfl⟩
  go_wp2_with fail
  refine HDR.out.mono ?_
  rintro e w7 ⟨B, d, rfl, hr7, hk7⟩
  have HR7 := Lib.hid hr7
  have HB7 : Hid (Below w.heap.size w w7) := Lib.hid (hB6.trans (hk7.below HS6.out hB6.size))
  clear hr7 hk7 hB6 c0 c1
  go_wp2_with fail
  refine (same_any _ _ rfl B (some ⟨w7.heap.size, 0, none⟩) 5 d 5 _ rfl (by decide) (HR7.out.below ((Below.refl _ _).alloc (Nat.le_refl _) _)) (items5 w7 _ _ rfl)).mono ?_
  rintro e w8 ⟨rfl, hb8⟩
  have HB8 : Hid (Below w.heap.size w w8) := Lib.hid ((HB7.out.alloc HB7.out.size _).trans (hb8.mono (by have := HB7.out.size; simp; omega)))
  clear hb8
  go_wp2_with fail
  go_ret
  exact ⟨rfl, HB8.out⟩
end Go.Proofs.Ytkbfpkejogdieaa
