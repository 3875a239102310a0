/-
  The contracts of turning (math/bits.RotateLeft64 and the specification's turn) and of mix. Condition: numbers below 2^64.
-/
import Derived.Test.YthalnnhkeaanhaaDoorMacPlain
import Derived.StillTailTactics
namespace Go.Proofs.YthalnnhkeaanhaaDoor
open Go.RowKit Go.Maps
set_option linter.unusedVariables false

theorem rl_walk (x n : Nat) (P Q : Int) (h : x < 18446744073709551616) (hP : P = ((2 ^ n : Nat) : Int)) (hQ : Q = ((2 ^ (64 - n) : Nat) : Int)) : bits .or .u64 (IntKind.u64.wrap ((x : Int) * P)) ((x : Int) / Q) = (rl x n : Int) := by
  rw [← rl_bits x n h, IntKind.wrap_u64, hP, hQ]
  congr 1
theorem turn_cases {Q : Prop} {n : Nat} (hn : Trn n) (h13 : n = 13 → Q) (h16 : n = 16 → Q) (h17 : n = 17 → Q) (h21 : n = 21 → Q) (h32 : n = 32 → Q) : Q := by
  rcases hn with h | h | h | h | h
  · exact h13 h
  · exact h16 h
  · exact h17 h
  · exact h21 h
  · exact h32 h

set_option maxRecDepth 100000 in
set_option maxHeartbeats 1000000 in
theorem rotate_any (x n : Nat) (w : World) (hx : x < 18446744073709551616) (hn : Trn n) :
    Calls Tryd.prog 37 #[.int .u64 (x : Int), .int .i64 (n : Int)] w fun e w' => e = .returned (.int .u64 (rl x n : Int)) ∧ w' = w := by
  have HB := Lib.hid (fun P Q => rl_walk x n P Q hx)
  have a13 : bits .and .u64 13 63 = 13 := by decide
  have a16 : bits .and .u64 16 63 = 16 := by decide
  have a17 : bits .and .u64 17 63 = 17 := by decide
  have a21 : bits .and .u64 21 63 = 21 := by decide
  have a32 : bits .and .u64 32 63 = 32 := by decide
  rcases hn with rfl | rfl | rfl | rfl | rfl
  · go_enter Tryd.func37, Tryd.ntmps37
    go_wp2_with fail
    go_ret
    exact ⟨ret_int (HB.out _ _ rfl rfl), rfl⟩
  · go_enter Tryd.func37, Tryd.ntmps37
    go_wp2_with fail
    go_ret
    exact ⟨ret_int (HB.out _ _ rfl rfl), rfl⟩
  · go_enter Tryd.func37, Tryd.ntmps37
    go_wp2_with fail
    go_ret
    exact ⟨ret_int (HB.out _ _ rfl rfl), rfl⟩
  · go_enter Tryd.func37, Tryd.ntmps37
    go_wp2_with fail
    go_ret
    exact ⟨ret_int (HB.out _ _ rfl rfl), rfl⟩
  · go_enter Tryd.func37, Tryd.ntmps37
    go_wp2_with fail
    go_ret
    exact ⟨ret_int (HB.out _ _ rfl rfl), rfl⟩

set_option maxRecDepth 100000 in
set_option maxHeartbeats 1000000 in
theorem turn_any (x n : Nat) (w : World) (hx : x < 18446744073709551616) (hn : Trn n) :
    Calls Tryd.prog 32 #[.int .u64 (x : Int), .int .i64 (n : Int)] w fun e w' => e = .returned (.int .u64 (rl x n : Int)) ∧ ∃ k, w' = w.drewN k := by
  have HB := Lib.hid (fun P Q => rl_walk x n P Q hx)
  rcases hn with rfl | rfl | rfl | rfl | rfl
  · go_enter Tryd.func32, Tryd.ntmps32
    go_wp2_with fail
    go_quiet (fail)
    go_wp2
    go_ret
    exact ⟨ret_int (HB.out _ _ rfl rfl), _, rfl⟩
  · go_enter Tryd.func32, Tryd.ntmps32
    go_wp2_with fail
    go_quiet (fail)
    go_wp2
    go_ret
    exact ⟨ret_int (HB.out _ _ rfl rfl), _, rfl⟩
  · go_enter Tryd.func32, Tryd.ntmps32
    go_wp2_with fail
    go_quiet (fail)
    go_wp2
    go_ret
    exact ⟨ret_int (HB.out _ _ rfl rfl), _, rfl⟩
  · go_enter Tryd.func32, Tryd.ntmps32
    go_wp2_with fail
    go_quiet (fail)
    go_wp2
    go_ret
    exact ⟨ret_int (HB.out _ _ rfl rfl), _, rfl⟩
  · go_enter Tryd.func32, Tryd.ntmps32
    go_wp2_with fail
    go_quiet (fail)
    go_wp2
    go_ret
    exact ⟨ret_int (HB.out _ _ rfl rfl), _, rfl⟩

/-- Four numbers in a block of their own. -/
def four (v : Nat → Nat) : Array Value := #[.int .u64 (v 0 : Int), .int .u64 (v 1 : Int), .int .u64 (v 2 : Int), .int .u64 (v 3 : Int)]
def StR (w : World) (b : Nat) (T : TypeId) (v : Nat → Nat) : Prop := w.heap[b]? = some (.cells (four v) T (0, 0))
theorem four_at (v : Nat → Nat) {k : Nat} (hk : k < 4) : (four v)[k]? = some (.int .u64 (v k : Int)) := by
  rcases (by omega : k = 0 ∨ k = 1 ∨ k = 2 ∨ k = 3) with rfl | rfl | rfl | rfl <;> rfl
theorem four_set (v : Nat → Nat) {k : Nat} (x : Nat) (hk : k < 4) : (four v).setIfInBounds k (.int .u64 (x : Int)) = four (up v k x) := by
  rcases (by omega : k = 0 ∨ k = 1 ∨ k = 2 ∨ k = 3) with rfl | rfl | rfl | rfl <;> rfl
theorem StR.cell {w : World} {b : Nat} {T : TypeId} {v : Nat → Nat} (h : StR w b T v) {k : Nat} (hk : k < 4) : w.cell? ⟨b, k, none⟩ = some (.int .u64 (v k : Int)) :=
  (cell_of_row w b k _ _ _ h).trans (four_at v hk)
theorem StR.frozen {w : World} {b : Nat} {T : TypeId} {v : Nat → Nat} (h : StR w b T v) (k : Nat) : w.frozen? ⟨b, k, none⟩ = false := by
  simp [World.frozen?, show w.heap[b]? = _ from h]
theorem StR.lt {w : World} {b : Nat} {T : TypeId} {v : Nat → Nat} (h : StR w b T v) : b < w.heap.size := (Array.getElem?_eq_some_iff.1 h).1
theorem StR.below {w w' : World} {b B : Nat} {T : TypeId} {v : Nat → Nat} (h : StR w b T v) (hb : Below B w w') (hB : b < B) : StR w' b T v := (hb.block b hB).trans h
theorem StR.set {w : World} {b k : Nat} {T : TypeId} {v : Nat → Nat} (h : StR w b T v) (x : Nat) (hk : k < 4) : StR (w.setCell ⟨b, k, none⟩ (.int .u64 (x : Int))) b T (up v k x) := by
  show (w.setCell ⟨b, k, none⟩ (.int .u64 (x : Int))).heap[b]? = _
  rw [← four_set v x hk]
  simp [World.setCell, Array.getElem?_modify, show w.heap[b]? = _ from h]
theorem StR.drew {w : World} {b : Nat} {T : TypeId} {v : Nat → Nat} (h : StR w b T v) : StR w.drew b T v := h
theorem wrap_sum (x y : Nat) : IntKind.u64.wrap ((x : Int) + (y : Int)) = (((x + y) % 18446744073709551616 : Nat) : Int) := by
  rw [IntKind.wrap_u64]
  omega

set_option maxRecDepth 100000 in
set_option maxHeartbeats 1000000 in
theorem mix_any (b : Nat) (v : Nat → Nat) (i j n : Nat) (w : World) (hs : Sm v) (h : StR w b 42 v) (hi : i < 4) (hj : j < 4) (hij : i ≠ j) (hn : Trn n) :
    Calls Tryd.prog 36 #[.pointer (some ⟨b, 0, none⟩), .int .i64 (i : Int), .int .i64 (j : Int), .int .i64 (n : Int)] w fun e w' => e = .returned (.tuple #[]) ∧ StR w' b 42 (mixS v i j n) ∧ Below b w w' := by
  have H1 := Lib.hid h
  have c0 := h.cell hi
  have c1 := h.cell hj
  have f0 := h.frozen i
  have zi : (i : Int) < 4 := by omega
  have zj : (j : Int) < 4 := by omega
  have HR := Lib.hid (fun w => rotate_any (v j) n w (hs j) hn)
  have hadd := wrap_sum (v i) (v j)
  have hmix : Hid (mixS v i j n = up (up v i ((v i + v j) % 18446744073709551616)) j (rl (v j) n ^^^ ((v i + v j) % 18446744073709551616))) := Lib.hid rfl
  have ha : (v i + v j) % 18446744073709551616 < 18446744073709551616 := Nat.mod_lt _ (by decide)
  obtain ⟨s, hss⟩ : ∃ s, (v i + v j) % 18446744073709551616 = s := ⟨_, rfl⟩
  rw [hss] at hadd hmix ha
  have hxor := u64_xor_nat (rl (v j) n) s (rl_lt n (hs j)) ha
  clear hss
  have e1 : up v i s i = s := up_same v i s
  have e2 : up v i s j = v j := up_other v s (Ne.symm hij)
  clear hs
  obtain ⟨r, hr⟩ : ∃ r, rl (v j) n = r := ⟨_, rfl⟩
  rw [hr] at HR hmix hxor
  clear hr
  obtain ⟨y, hy⟩ : ∃ y, r ^^^ s = y := ⟨_, rfl⟩
  rw [hy] at hmix hxor
  clear hy
  go_enter Tryd.func36, Tryd.ntmps36
  go_wp2_with fail
  go_still_tail 13, (by kernel_rfl)
  change wpList _ _ _ _ _ w.drew
  have H2 : Hid (StR w.drew b 42 v) := H1
  have B2 : Below b w w.drew := (Below.refl b w).drew
  generalize w.drew = w2 at H2 B2 ⊢
  have c0 := H2.out.cell hi
  have c1 := H2.out.cell hj
  have f0 := H2.out.frozen i
  have H3 := Lib.hid (H2.out.set s hi)
  have B3 := B2.setCell (p := ⟨b, i, none⟩) (Nat.le_refl _) (.int .u64 (s : Int))
  go_wp2_with fail
  generalize w2.setCell ⟨b, i, none⟩ (.int .u64 (s : Int)) = w3 at H3 B3 ⊢
  clear c0 c1 f0 H2 B2 hadd
  have d0 := H3.out.cell hi
  have d1 := H3.out.cell hj
  have g1 := H3.out.frozen j
  rw [e1] at d0
  rw [e2] at d1
  have HR2 := Lib.hid (HR.out w3.drew)
  refine wp_region_still_tail 17 (by kernel_rfl) (by kernel_rfl) ?_
  simp only [List.take_succ_cons, List.take_zero, List.drop_succ_cons, List.drop_zero]
  repeat still_step
  still_call HR2.out
  repeat still_step
  refine wpStill_nil ?_
  change wpList _ _ _ _ _ w3.drew
  have H4 : Hid (StR w3.drew b 42 (up v i s)) := H3
  have B4 : Below b w w3.drew := B3.drew
  generalize w3.drew = w4 at H4 B4 ⊢
  have d1 := H4.out.cell hj
  have g1 := H4.out.frozen j
  have H5 : Hid (StR (w4.setCell ⟨b, j, none⟩ (.int .u64 (y : Int))) b 42 (mixS v i j n)) := Lib.hid (by rw [hmix.out]; exact H4.out.set y hj)
  have B5 := B4.setCell (p := ⟨b, j, none⟩) (Nat.le_refl _) (.int .u64 (y : Int))
  go_wp2_with fail
  generalize w4.setCell ⟨b, j, none⟩ (.int .u64 (y : Int)) = w5 at H5 B5 ⊢
  exact bodyPost_end (results_none rfl _ _ _) rfl ⟨rfl, H5.out, B5⟩

theorem trn13 : Trn 13 := Or.inl rfl
theorem trn16 : Trn 16 := Or.inr (Or.inl rfl)
theorem trn17 : Trn 17 := Or.inr (Or.inr (Or.inl rfl))
theorem trn21 : Trn 21 := Or.inr (Or.inr (Or.inr (Or.inl rfl)))
theorem trn32 : Trn 32 := Or.inr (Or.inr (Or.inr (Or.inr rfl)))

set_option maxRecDepth 100000 in
set_option maxHeartbeats 1000000 in
theorem round_any (b : Nat) (v : Nat → Nat) (w : World) (hs : Sm v) (h : StR w b 42 v) :
    Calls Tryd.prog 31 #[.pointer (some ⟨b, 0, none⟩)] w fun e w' => e = .returned (.tuple #[]) ∧ StR w' b 42 (roundS v) ∧ Below b w w' := by
  have HM := Lib.hid (fun v i j n w hs h hi hj hij hn => mix_any b v i j n w hs h hi hj hij hn)
  have HR := Lib.hid (fun x n w hx hn => rotate_any x n w hx hn)
  have H0 := Lib.hid h
  have B0 : Below b w w := Below.refl b w
  have S0 := Lib.hid hs
  have S1 := Lib.hid (mixS_sm hs 0 1 13)
  have S2 := Lib.hid (turnS_sm S1.out 0 32)
  have S3 := Lib.hid (mixS_sm S2.out 2 3 16)
  have S4 := Lib.hid (mixS_sm S3.out 0 3 21)
  have S5 := Lib.hid (mixS_sm S4.out 2 1 17)
  have S6 := Lib.hid (turnS_sm S5.out 2 32)
  have hr : Hid (roundS v = turnS (mixS (mixS (mixS (turnS (mixS v 0 1 13) 0 32) 2 3 16) 0 3 21) 2 1 17) 2 32) := Lib.hid rfl
  clear hs h
  go_enter Tryd.func31, Tryd.ntmps31
  go_wp2_with fail
  refine (HM.out v 0 1 13 _ S0.out H0.out (by decide) (by decide) (by decide) trn13).mono ?_
  rintro e w1 ⟨rfl, HH, BB⟩
  have H1 := Lib.hid HH
  have B1 := B0.trans BB
  clear HH BB H0 B0
  generalize he : mixS v 0 1 13 = v1 at H1 hr S1 S2 S3 S4 S5 S6
  clear he
  go_wp2_with fail
  have k0 := H1.out.cell (k := 0) (by decide)
  have k1 := H1.out.frozen 0
  have HRk := Lib.hid (HR.out (v1 0) 32 w1.drew (S1.out 0) trn32)
  refine wp_region_still_tail 8 (by kernel_rfl) (by kernel_rfl) ?_
  simp only [List.take_succ_cons, List.take_zero, List.drop_succ_cons, List.drop_zero]
  repeat still_step
  still_call HRk.out
  repeat still_step
  refine wpStill_nil ?_
  change wpList _ _ _ _ _ w1.drew
  have HX : Hid (StR w1.drew b 42 v1) := H1
  have BX : Below b w w1.drew := B1.drew
  clear HRk k0 k1 H1 B1
  generalize w1.drew = wx at HX BX ⊢
  have k0 := HX.out.cell (k := 0) (by decide)
  have k1 := HX.out.frozen 0
  have H2 : Hid (StR (wx.setCell ⟨b, 0, none⟩ (.int .u64 (rl (v1 0) 32 : Int))) b 42 (turnS v1 0 32)) := Lib.hid (HX.out.set (rl (v1 0) 32) (by decide))
  have B2 := BX.setCell (p := ⟨b, 0, none⟩) (Nat.le_refl _) (.int .u64 (rl (v1 0) 32 : Int))
  go_wp2_with fail
  generalize wx.setCell ⟨b, 0, none⟩ (.int .u64 (rl (v1 0) 32 : Int)) = w2 at H2 B2 ⊢
  clear k0 k1 HX BX
  generalize he : turnS v1 0 32 = v2 at H2 hr S2 S3 S4 S5 S6 
  clear he
  go_wp2_with fail
  refine (HM.out v2 2 3 16 _ S2.out H2.out (by decide) (by decide) (by decide) trn16).mono ?_
  rintro e w3 ⟨rfl, HH, BB⟩
  have H3 := Lib.hid HH
  have B3 := B2.trans BB
  clear HH BB H2 B2
  generalize he : mixS v2 2 3 16 = v3 at H3 hr S3 S4 S5 S6
  clear he
  go_wp2_with fail
  refine (HM.out v3 0 3 21 _ S3.out H3.out (by decide) (by decide) (by decide) trn21).mono ?_
  rintro e w4 ⟨rfl, HH, BB⟩
  have H4 := Lib.hid HH
  have B4 := B3.trans BB
  clear HH BB H3 B3
  generalize he : mixS v3 0 3 21 = v4 at H4 hr S4 S5 S6
  clear he
  go_wp2_with fail
  refine (HM.out v4 2 1 17 _ S4.out H4.out (by decide) (by decide) (by decide) trn17).mono ?_
  rintro e w5 ⟨rfl, HH, BB⟩
  have H5 := Lib.hid HH
  have B5 := B4.trans BB
  clear HH BB H4 B4
  generalize he : mixS v4 2 1 17 = v5 at H5 hr S5 S6
  clear he
  go_wp2_with fail
  have k0 := H5.out.cell (k := 2) (by decide)
  have k1 := H5.out.frozen 2
  have HRk := Lib.hid (HR.out (v5 2) 32 w5.drew (S5.out 2) trn32)
  refine wp_region_still_tail 8 (by kernel_rfl) (by kernel_rfl) ?_
  simp only [List.take_succ_cons, List.take_zero, List.drop_succ_cons, List.drop_zero]
  repeat still_step
  still_call HRk.out
  repeat still_step
  refine wpStill_nil ?_
  change wpList _ _ _ _ _ w5.drew
  have HX : Hid (StR w5.drew b 42 v5) := H5
  have BX : Below b w w5.drew := B5.drew
  clear HRk k0 k1 H5 B5
  generalize w5.drew = wx at HX BX ⊢
  have k0 := HX.out.cell (k := 2) (by decide)
  have k1 := HX.out.frozen 2
  have H6 : Hid (StR (wx.setCell ⟨b, 2, none⟩ (.int .u64 (rl (v5 2) 32 : Int))) b 42 (turnS v5 2 32)) := Lib.hid (HX.out.set (rl (v5 2) 32) (by decide))
  have B6 := BX.setCell (p := ⟨b, 2, none⟩) (Nat.le_refl _) (.int .u64 (rl (v5 2) 32 : Int))
  go_wp2_with fail
  generalize wx.setCell ⟨b, 2, none⟩ (.int .u64 (rl (v5 2) 32 : Int)) = w6 at H6 B6 ⊢
  clear k0 k1 HX BX
  generalize he : turnS v5 2 32 = v6 at H6 hr S6 
  clear he
  rw [hr.out]
  exact bodyPost_end (results_none rfl _ _ _) rfl ⟨rfl, H6.out, B6⟩
end Go.Proofs.YthalnnhkeaanhaaDoor
