/-
  The law's own awake (it checks the chapter's examples) returns true. Condition: Go's own tables and error values hold what the program's text lays.
-/
import Derived.Test.YtkiedopknoekpaaDoorClkT
import Derived.Test.YtkiedopknoekpaaDoorClkW
namespace Go.Proofs.YtkiedopknoekpaaDoor
open Go.RowKit
set_option linter.unusedVariables false

theorem w_any (a b : Int) (W : World) : Calls Tryd.prog 38 #[.int .i64 a, .int .i64 b] W fun e w' => e = .returned (.agg #[.int .i64 a, .int .i64 b]) ∧ Below W.heap.size W w' := by
  go_enter Tryd.func38, Tryd.ntmps38
  go_wp2
  exact bodyPost_ret (v := .agg #[.int .i64 a, .int .i64 b]) (by simp [results, Tryd.results38, go_sem]) rfl ⟨rfl, (Below.refl _ _).alloc (Nat.le_refl _) _⟩
theorem ws_new (w : World) (l : List Win) (cs : Array Value) (T : TypeId) (h : cs = (flatW l).toArray) : WsR (w.alloc (.cells cs T)) (some ⟨w.heap.size, 0, none⟩) l := fun _ => by
  refine ⟨w.heap.size, 0, rfl, by simp, fun k hk => ?_⟩
  obtain ⟨g0, g1⟩ := flatW_get l k hk
  rw [World.cell?_alloc_new, World.cell?_alloc_new, h, Nat.zero_add]
  simpa using ⟨g0, g1⟩

theorem ex1 (w : World) : Calls Tryd.prog 13 #[.int .i64 700000] w fun e w' => e = .returned (.tuple #[.int .i64 26, .int .i64 0]) ∧ w = w' := by
  have := slot_any 700000 w (by decide) (by decide)
  rwa [show slotS 700000 = (26, 0) by decide] at this
theorem ex2 (w : World) : Calls Tryd.prog 13 #[.int .i64 4294943999] w fun e w' => e = .returned (.tuple #[.int .i64 71, .int .i64 0]) ∧ w = w' := by
  have := slot_any 4294943999 w (by decide) (by decide)
  rwa [show slotS 4294943999 = (71, 0) by decide] at this
theorem wide_lit (l : List Win) (h : allB l = true) : WideW l := wide_of_all h
theorem ex3 (w : World) (A : Option Addr) (c : Nat) (h : WsR w A [(5, 9), (1, 3), (3, 4)]) : Calls Tryd.prog 21 #[.slice A 3 c] w (RetWsE w [(1, 4), (5, 9)] 0) := by
  have := union_any [(5, 9), (1, 3), (3, 4)] A c w (by decide) (wide_lit _ (by decide)) h
  rwa [show unionS [(5, 9), (1, 3), (3, 4)] = ([(1, 4), (5, 9)], 0) by decide] at this
theorem mns_ex : minusS [(0, 10)] [(3, 5)] = ([(0, 3), (5, 10)], 0) := by
  have e1 : nf [(0, 10)] = [(0, 10)] := by decide
  have e2 : gp 0 (nf [(3, 5)]) = [(0, 3), (5, 4294944000)] := by decide
  have e3 : (allB [(0, 10)] && allB [(3, 5)]) = true := by decide
  unfold minusS
  rw [if_pos e3]
  unfold mns
  rw [e1, e2, ov_cons, ov_cons, ov_nil']
  simp only [ov_nil]
  decide
theorem ex4 (w : World) (A B : Option Addr) (c d : Nat) (h : WsR w A [(0, 10)]) (h' : WsR w B [(3, 5)]) : Calls Tryd.prog 25 #[.slice A 1 c, .slice B 1 d] w (RetWsE w [(0, 3), (5, 10)] 0) := by
  have := minus_any [(0, 10)] [(3, 5)] A B c d w (by decide) (by decide) (wide_lit _ (by decide)) (wide_lit _ (by decide)) h h'
  rwa [mns_ex] at this
theorem ex5 (w : World) (A : Option Addr) (c : Nat) (h : WsR w A [(0, 4), (2, 6)]) : Calls Tryd.prog 27 #[.slice A 2 c] w fun e w' => e = .returned (.tuple #[.int .i64 6, .int .i64 0]) ∧ Below w.heap.size w w' := by
  have := length_any [(0, 4), (2, 6)] A c w (by decide) (wide_lit _ (by decide)) h
  rwa [show lengthS [(0, 4), (2, 6)] = (6, 0) by decide] at this
theorem ex6 (w : World) (f : Facts w) : Calls Tryd.prog 30 #[.int .i64 1065900] w fun e w' => e = .returned (.tuple #[.string ⟨#[49, 50, 32, 48, 56, 58, 48, 53, 58, 48, 48]⟩, .int .i64 0]) ∧ Below w.heap.size w w' := by
  have h := text_any 1065900 w (by decide) (by decide) f
  have e : textS 1065900 = (⟨#[49, 50, 32, 48, 56, 58, 48, 53, 58, 48, 48]⟩, 0) := by
    have hm : momB 1065900 = true := by decide
    unfold textS
    rw [hm, if_pos rfl]
    have ht : momT (1065900 : Int).toNat = [49, 50, 32, 48, 56, 58, 48, 53, 58, 48, 48] := by
      show momT 1065900 = _
      unfold momT
      rw [show Lib.decDigits (1065900 / 86400) = [49, 50] by simp [Lib.decDigits]]
      decide
    rw [ht]
    rfl
  rwa [e] at h
theorem ex7_no (t : Nat) (ht : t ≤ 4294943999) : (⟨#[49, 50, 32, 56, 58, 48, 53, 58, 48, 48]⟩ : ByteArray) ≠ strOf (momT t) := fun e => by
  have h : [49, 50, 32, 56, 58, 48, 53, 58, 48, 48] = momT t := by
    have := congrArg (fun x : ByteArray => x.data.toList) e
    simpa [strOf] using this
  have hl := mom_len t
  rw [← h] at hl
  have h1 : (Lib.decDigits (t / 86400)).length = 1 := by simp at hl; omega
  obtain ⟨x, hx⟩ := List.length_eq_one_iff.1 h1
  unfold momT at h
  rw [hx] at h
  injection h with _ h
  injection h with h _
  exact absurd h (by decide)
theorem ex7 (w : World) (f : Facts w) : Calls Tryd.prog 32 #[.string ⟨#[49, 50, 32, 56, 58, 48, 53, 58, 48, 48]⟩] w fun e w' => e = .returned (.tuple #[.int .i64 0, .int .i64 3]) ∧ Below w.heap.size w w' :=
  parse_any _ (0, 3) w (by decide) f (Or.inr ⟨ex7_no, rfl⟩)
theorem ex8 (w : World) (A B : Option Addr) (c d : Nat) (h : WsR w A [(1, 4), (5, 9)]) (h' : WsR w B [(1, 4), (5, 9)]) : Calls Tryd.prog 29 #[.slice A 2 c, .slice B 2 d] w fun e w' => e = .returned (.bool true) ∧ Below w.heap.size w w' := by
  have := same_any [(1, 4), (5, 9)] [(1, 4), (5, 9)] A B c d w (by decide) (by decide) h h'
  rwa [show sameB [(1, 4), (5, 9)] [(1, 4), (5, 9)] = true by decide] at this
theorem ex9 (w : World) (A B : Option Addr) (c d : Nat) (h : WsR w A [(0, 3), (5, 10)]) (h' : WsR w B [(0, 3), (5, 10)]) : Calls Tryd.prog 29 #[.slice A 2 c, .slice B 2 d] w fun e w' => e = .returned (.bool true) ∧ Below w.heap.size w w' := by
  have := same_any [(0, 3), (5, 10)] [(0, 3), (5, 10)] A B c d w (by decide) (by decide) h h'
  rwa [show sameB [(0, 3), (5, 10)] [(0, 3), (5, 10)] = true by decide] at this

set_option maxRecDepth 100000 in
set_option maxHeartbeats 2000000 in
theorem awake_any (w : World) (f : Facts w) : Calls Tryd.prog 19 #[] w fun e w' => e = .returned (.bool true) ∧ Below w.heap.size w w' := by
  have F := Lib.hid f
  clear f
  go_enter Tryd.func19, Tryd.ntmps19
  go_wp2_with fail
  refine (ex1 _).mono ?_
  rintro e w1 ⟨rfl, rfl⟩
  go_wp2_with fail
  refine (ex2 _).mono ?_
  rintro e w1 ⟨rfl, rfl⟩
  go_wp2_with fail
  refine (w_any 5 9 _).mono ?_
  rintro e w1 ⟨rfl, hb1⟩
  go_wp2_with fail
  refine (w_any 1 3 _).mono ?_
  rintro e w2 ⟨rfl, hb2⟩
  have hb2 := Below.step hb1 hb2
  go_wp2_with fail
  refine (w_any 3 4 _).mono ?_
  rintro e w3 ⟨rfl, hb3⟩
  have hb3 := Below.step hb2 hb3
  clear hb1 hb2
  go_wp2_with fail
  refine (ex3 _ _ _ (ws_new w3 [(5, 9), (1, 3), (3, 4)] _ _ rfl)).mono ?_
  rintro e w4 ⟨A1, k1, rfl, hU, hb4⟩
  have hb4 : Below w.heap.size w w4 := Below.step (hb3.alloc hb3.size _) hb4
  have HU := Lib.hid hU
  clear hU hb3
  go_wp2_with fail
  refine (w_any 0 10 _).mono ?_
  rintro e w5 ⟨rfl, hb5⟩
  have HU5 := Lib.hid (HU.out.below hb5)
  have hb5 : Below w.heap.size w w5 := Below.step hb4 hb5
  clear HU hb4
  have hs5 := ws_new w5 [(0, 10)] #[.int .i64 0, .int .i64 10] 23 rfl
  have hu5 := HU5.out.below ((Below.refl w5.heap.size w5).alloc (Nat.le_refl _) (.cells #[.int .i64 0, .int .i64 10] 23))
  have hx5 : Below w.heap.size w (w5.alloc (.cells #[.int .i64 0, .int .i64 10] 23)) := hb5.alloc hb5.size _
  have HS5 := Lib.hid hs5
  have HV5 := Lib.hid hu5
  clear hs5 hu5 HU5
  go_wp2_with fail
  refine (w_any 3 5 _).mono ?_
  rintro e w6 ⟨rfl, hb6⟩
  have HS6 := Lib.hid (HS5.out.below hb6)
  have HU6 := Lib.hid (HV5.out.below hb6)
  have hb6 : Below w.heap.size w w6 := Below.step hx5 hb6
  clear HS5 HV5 hx5 hb5
  have hal := (Below.refl w6.heap.size w6).alloc (Nat.le_refl _) (.cells #[.int .i64 3, .int .i64 5] 23)
  have HS7 := Lib.hid (HS6.out.below hal)
  have HU7 := Lib.hid (HU6.out.below hal)
  have HT7 := Lib.hid (ws_new w6 [(3, 5)] #[.int .i64 3, .int .i64 5] 23 rfl)
  have hb7 : Below w.heap.size w (w6.alloc (.cells #[.int .i64 3, .int .i64 5] 23)) := hb6.alloc hb6.size _
  clear HS6 HU6 hal hb6
  go_wp2_with fail
  refine (ex4 _ _ _ _ _ HS7.out HT7.out).mono ?_
  rintro e w8 ⟨A2, k2, rfl, hM, hb8⟩
  have HU8 := Lib.hid (HU7.out.below hb8)
  have hb8 : Below w.heap.size w w8 := Below.step hb7 hb8
  have HM8 : Hid (WsR w8 A2 [(0, 3), (5, 10)]) := Lib.hid hM
  clear HS7 HU7 HT7 hM hb7
  go_wp2_with fail
  refine (w_any 0 4 _).mono ?_
  rintro e w9 ⟨rfl, hb9⟩
  have HU9 := Lib.hid (HU8.out.below hb9)
  have HM9 := Lib.hid (HM8.out.below hb9)
  have hb9 : Below w.heap.size w w9 := Below.step hb8 hb9
  clear HU8 HM8 hb8
  go_wp2_with fail
  refine (w_any 2 6 _).mono ?_
  rintro e w10 ⟨rfl, hb10⟩
  have hal := (Below.refl w10.heap.size w10).alloc (Nat.le_refl _) (.cells #[.int .i64 0, .int .i64 4, .int .i64 2, .int .i64 6] 23)
  have HU10 := Lib.hid ((HU9.out.below hb10).below hal)
  have HM10 := Lib.hid ((HM9.out.below hb10).below hal)
  have hb10 : Below w.heap.size w (w10.alloc (.cells #[.int .i64 0, .int .i64 4, .int .i64 2, .int .i64 6] 23)) := Below.step (Below.step hb9 hb10) hal
  have HL10 := Lib.hid (ws_new w10 [(0, 4), (2, 6)] #[.int .i64 0, .int .i64 4, .int .i64 2, .int .i64 6] 23 rfl)
  clear HU9 HM9 hb9 hal
  go_wp2_with fail
  refine (ex5 _ _ _ HL10.out).mono ?_
  rintro e w11 ⟨rfl, hb11⟩
  have HU11 := Lib.hid (HU10.out.below hb11)
  have HM11 := Lib.hid (HM10.out.below hb11)
  have hb11 : Below w.heap.size w w11 := Below.step hb10 hb11
  clear HU10 HM10 HL10 hb10
  go_wp2_with fail
  refine (ex6 _ (F.out.below hb11)).mono ?_
  rintro e w12 ⟨rfl, hb12⟩
  have HU12 := Lib.hid (HU11.out.below hb12)
  have HM12 := Lib.hid (HM11.out.below hb12)
  have hb12 : Below w.heap.size w w12 := Below.step hb11 hb12
  clear HU11 HM11 hb11
  go_wp2_with fail
  refine (ex7 _ (F.out.below hb12)).mono ?_
  rintro e w13 ⟨rfl, hb13⟩
  have HU13 := Lib.hid (HU12.out.below hb13)
  have HM13 := Lib.hid (HM12.out.below hb13)
  have hb13 : Below w.heap.size w w13 := Below.step hb12 hb13
  clear HU12 HM12 hb12
  go_wp2_with fail
  refine (w_any 1 4 _).mono ?_
  rintro e w14 ⟨rfl, hb14⟩
  have HU14 := Lib.hid (HU13.out.below hb14)
  have HM14 := Lib.hid (HM13.out.below hb14)
  have hb14 : Below w.heap.size w w14 := Below.step hb13 hb14
  clear HU13 HM13 hb13
  go_wp2_with fail
  refine (w_any 5 9 _).mono ?_
  rintro e w15 ⟨rfl, hb15⟩
  have hal := (Below.refl w15.heap.size w15).alloc (Nat.le_refl _) (.cells #[.int .i64 1, .int .i64 4, .int .i64 5, .int .i64 9] 23)
  have HU15 : Hid (WsR (w15.alloc (.cells #[.int .i64 1, .int .i64 4, .int .i64 5, .int .i64 9] 23)) A1 [(1, 4), (5, 9)]) := Lib.hid ((HU14.out.below hb15).below hal)
  have HM15 := Lib.hid ((HM14.out.below hb15).below hal)
  have hb15 : Below w.heap.size w (w15.alloc (.cells #[.int .i64 1, .int .i64 4, .int .i64 5, .int .i64 9] 23)) := Below.step (Below.step hb14 hb15) hal
  have HL15 := Lib.hid (ws_new w15 [(1, 4), (5, 9)] #[.int .i64 1, .int .i64 4, .int .i64 5, .int .i64 9] 23 rfl)
  clear HU14 HM14 hb14 hal
  go_wp2_with fail
  refine (ex8 _ _ _ _ _ HU15.out HL15.out).mono ?_
  rintro e w16 ⟨rfl, hb16⟩
  have HM16 := Lib.hid (HM15.out.below hb16)
  have hb16 : Below w.heap.size w w16 := Below.step hb15 hb16
  clear HU15 HM15 HL15 hb15
  go_wp2_with fail
  refine (w_any 0 3 _).mono ?_
  rintro e w17 ⟨rfl, hb17⟩
  have HM17 := Lib.hid (HM16.out.below hb17)
  have hb17 : Below w.heap.size w w17 := Below.step hb16 hb17
  clear HM16 hb16
  go_wp2_with fail
  refine (w_any 5 10 _).mono ?_
  rintro e w18 ⟨rfl, hb18⟩
  have hal := (Below.refl w18.heap.size w18).alloc (Nat.le_refl _) (.cells #[.int .i64 0, .int .i64 3, .int .i64 5, .int .i64 10] 23)
  have HM18 := Lib.hid ((HM17.out.below hb18).below hal)
  have hb18 : Below w.heap.size w (w18.alloc (.cells #[.int .i64 0, .int .i64 3, .int .i64 5, .int .i64 10] 23)) := Below.step (Below.step hb17 hb18) hal
  have HL18 := Lib.hid (ws_new w18 [(0, 3), (5, 10)] #[.int .i64 0, .int .i64 3, .int .i64 5, .int .i64 10] 23 rfl)
  clear HM17 hb17 hal
  go_wp2_with fail
  refine (ex9 _ _ _ _ _ HM18.out HL18.out).mono ?_
  rintro e w19 ⟨rfl, hb19⟩
  have hb19 : Below w.heap.size w w19 := Below.step hb18 hb19
  clear HM18 HL18 hb18
  go_wp2
  go_ret
  exact ⟨rfl, hb19⟩
end Go.Proofs.YtkiedopknoekpaaDoor
