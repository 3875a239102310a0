/-
  The contract of the specification's round. Condition: numbers below 2^64.
-/
import Derived.Test.YthalnnhkeaanhaaDoorMacF
import Derived.Deep.RegionLaw
namespace Go.Proofs.YthalnnhkeaanhaaDoor
open Go.RowKit Go.Maps
set_option linter.unusedVariables false

theorem StR.other {w : World} {b b2 k : Nat} {T : TypeId} {v : Nat → Nat} (h : StR w b T v) (hb : b2 ≠ b) (x : Value) : StR (w.setCell ⟨b2, k, none⟩ x) b T v := by
  show (w.setCell ⟨b2, k, none⟩ x).heap[b]? = _
  simp [World.setCell, Array.getElem?_modify, hb, show w.heap[b]? = _ from h]
/-- The two blocks of the specification's round. -/
structure Jr (w0 : World) (b b2 : Nat) (w : World) (u : Nat → Nat) : Prop where
  one : StR w b 41 u
  two : StR w b2 41 (fun _ => 0)
  bel : Below w0.heap.size w0 w
  le : w0.heap.size ≤ b
  ne : b ≠ b2
  le2 : w0.heap.size ≤ b2
theorem Jr.drewN {w0 w : World} {b b2 : Nat} {u : Nat → Nat} (h : Jr w0 b b2 w u) (n : Nat) : Jr w0 b b2 (w.drewN n) u := ⟨h.one, h.two, Below.drewN h.bel n, h.le, h.ne, h.le2⟩
theorem Jr.drew {w0 w : World} {b b2 : Nat} {u : Nat → Nat} (h : Jr w0 b b2 w u) : Jr w0 b b2 w.drew u := ⟨h.one, h.two, h.bel.drew, h.le, h.ne, h.le2⟩
theorem Jr.set {w0 w : World} {b b2 k : Nat} {u : Nat → Nat} (h : Jr w0 b b2 w u) (x : Nat) (hk : k < 4) : Jr w0 b b2 (w.setCell ⟨b, k, none⟩ (.int .u64 (x : Int))) (up u k x) :=
  ⟨h.one.set x hk, h.two.other h.ne _, h.bel.setCell (p := ⟨b, k, none⟩) h.le _, h.le, h.ne, h.le2⟩
theorem turn_jr (x n : Nat) (w0 : World) (b b2 : Nat) (w : World) (u : Nat → Nat) (hx : x < 18446744073709551616) (hn : Trn n) (h : Jr w0 b b2 w u) :
    Calls Tryd.prog 32 #[.int .u64 (x : Int), .int .i64 (n : Int)] w fun e w' => e = .returned (.int .u64 (rl x n : Int)) ∧ Jr w0 b b2 w' u :=
  (turn_any x n w hx hn).mono fun e w' ⟨he, k, hk⟩ => ⟨he, by rw [hk]; exact h.drewN k⟩

/-- What holds behind a piece of code that is cut off: it went on, with this frame, in such a world. -/
def CutQ (A : Act) (J : World → Prop) : Exit → Act → World → Prop
  | .normal, a, w => a = A ∧ J w
  | _, _, _ => False
theorem wp_cut {P : Program} {c : Code} {Q : Exit → Act → World → Prop} {a : Act} {w : World} (A : Act) (J : World → Prop) (h1 : c.wp P (CutQ A J) a w) (h2 : ∀ w', J w' → Q .normal A w') : c.wp P Q a w :=
  Code.wp_mono (fun e a' w' h => by
    cases e with
    | normal => rw [h.1]; exact h2 w' h.2
    | _ => exact h.elim) h1

set_option maxRecDepth 100000 in
set_option maxHeartbeats 1000000 in
theorem refRound_any (v : Nat → Nat) (w : World) (hs : Sm v) :
    Calls Tryd.prog 26 #[.agg (four v)] w fun e w' => e = .returned (.agg (four (roundS v))) ∧ Below w.heap.size w w' := by
  have HT := Lib.hid (fun x n w0 b b2 w u hx hn h => turn_jr x n w0 b b2 w u hx hn h)
  have HF : Hid (∀ v, four v = #[.int .u64 (v 0 : Int), .int .u64 (v 1 : Int), .int .u64 (v 2 : Int), .int .u64 (v 3 : Int)]) := Lib.hid (fun v => rfl)
  have S0 := Lib.hid hs
  have S1 := Lib.hid (mixS_sm hs 0 1 13)
  have S2 := Lib.hid (turnS_sm S1.out 0 32)
  have S3 := Lib.hid (mixS_sm S2.out 2 3 16)
  have S4 := Lib.hid (mixS_sm S3.out 0 3 21)
  have S5 := Lib.hid (mixS_sm S4.out 2 1 17)
  have hround : Hid (roundS v = turnS (mixS (mixS (mixS (turnS (mixS v 0 1 13) 0 32) 2 3 16) 0 3 21) 2 1 17) 2 32) := Lib.hid rfl
  have hadd := wrap_sum (v 0) (v 1)
  rw [HF.out v]
  clear hs
  have hs1 : (v 0 + v 1) % 18446744073709551616 < 18446744073709551616 := Nat.mod_lt _ (by decide)
  obtain ⟨s, hss⟩ : ∃ s, (v 0 + v 1) % 18446744073709551616 = s := ⟨_, rfl⟩
  rw [hss] at hadd hs1
  have HSS := Lib.hid hss
  clear hss
  go_enter Tryd.func26, Tryd.ntmps26
  go_wp2_with fail
  have J0 : Jr w w.heap.size (w.heap.size + 1) ((w.alloc (.cells #[.int .u64 (s : Int), .int .u64 (v 1 : Int), .int .u64 (v 2 : Int), .int .u64 (v 3 : Int)] 41)).alloc (.cells #[.int .u64 0, .int .u64 0, .int .u64 0, .int .u64 0] 41)) (up v 0 s) := by
    have hlt : w.heap.size < (w.alloc (.cells (four (up v 0 s)) 41)).heap.size := by simp
    refine ⟨?_, ?_, ((Below.refl _ _).alloc (Nat.le_refl _) _).alloc (by simp) _, Nat.le_refl _, by omega, by omega⟩
    · exact ((((Below.refl (w.heap.size + 1) (w.alloc (.cells (four (up v 0 s)) 41))).alloc (by simp) (.cells (four fun _ => 0) 41))).block w.heap.size (by omega)).trans (heap_alloc_new w (.cells (four (up v 0 s)) 41))
    · have := heap_alloc_new (w.alloc (.cells (four (up v 0 s)) 41)) (.cells (four fun _ => 0) 41)
      rwa [World.size_alloc] at this
  obtain ⟨b, hb⟩ : ∃ b, w.heap.size = b := ⟨_, rfl⟩
  obtain ⟨b2, hb2⟩ : ∃ b2, b + 1 = b2 := ⟨_, rfl⟩
  rw [hb, hb2] at J0
  rw [hb, hb2]
  have JJ := Lib.hid J0
  generalize (w.alloc (.cells #[.int .u64 (s : Int), .int .u64 (v 1 : Int), .int .u64 (v 2 : Int), .int .u64 (v 3 : Int)] 41)).alloc (.cells #[.int .u64 0, .int .u64 0, .int .u64 0, .int .u64 0] 41) = WW at JJ J0 ⊢
  have HBB := Lib.hid hb
  clear hb hb2 J0 hadd
  have k0 : WW.drew.cell? ⟨b, 0, none⟩ = some (.int .u64 (s : Int)) := JJ.out.drew.one.cell (by decide)
  have k1 : WW.drew.cell? ⟨b, 1, none⟩ = some (.int .u64 (v 1 : Int)) := JJ.out.drew.one.cell (by decide)
  have f1 : WW.drew.frozen? ⟨b, 1, none⟩ = false := JJ.out.drew.one.frozen 1
  have x1 := u64_xor_nat (rl (v 1) 13) s (rl_lt 13 (S0.out 1)) hs1
  have HT1 := Lib.hid (HT.out (v 1) 13 w b b2 WW.drew _ (S0.out 1) trn13 JJ.out.drew)
  have HMX : Hid (∀ y, rl (v 1) 13 ^^^ s = y → up (up v 0 s) 1 y = mixS v 0 1 13) := Lib.hid (fun y hy => by rw [← hy, ← HSS.out]; rfl)
  obtain ⟨r, hr⟩ : ∃ r, rl (v 1) 13 = r := ⟨_, rfl⟩
  rw [hr] at HT1 x1 HMX
  obtain ⟨y, hy⟩ : ∃ y, r ^^^ s = y := ⟨_, rfl⟩
  rw [hy] at x1
  have HMX := Lib.hid (HMX.out y hy)
  clear hr hy
  have q0 : Hid (∀ w3, Jr w b b2 w3 (up v 0 s) → w3.cell? ⟨b, 0, none⟩ = some (.int .u64 (s : Int)) ∧ w3.cell? ⟨b, 1, none⟩ = some (.int .u64 (v 1 : Int)) ∧ w3.frozen? ⟨b, 1, none⟩ = false) := Lib.hid (fun w3 h => ⟨h.one.cell (by decide), h.one.cell (by decide), h.one.frozen 1⟩)
  apply wp_cut (J := fun w' => Jr w b b2 w' (up (up v 0 s) 1 y))
  case h1 =>
    go_region_law (first | (go_simp; go_at_call 32; refine HT1.out.mono ?_; rintro e w3 ⟨rfl, J3⟩; obtain ⟨g0, g1, g2⟩ := q0.out w3 J3))
    all_goals exact ⟨rfl, J3.set y (by decide)⟩
  intro w4 J4
  rw [HMX.out] at J4
  clear k0 k1 f1 x1 HT1 HMX q0 JJ HSS hs1
  obtain ⟨u1, hu1⟩ : ∃ u, mixS v 0 1 13 = u := ⟨_, rfl⟩
  rw [hu1] at J4 S1 S2 S3 S4 S5 hround
  clear hu1
  have JK := Lib.hid J4
  clear J4
  have c0 : w4.cell? ⟨b, 0, none⟩ = some (.int .u64 (u1 0 : Int)) := JK.out.one.cell (by decide)
  have HT2 := Lib.hid (HT.out (u1 0) 32 w b b2 w4 _ (S1.out 0) trn32 JK.out)
  go_wp2_with fail
  refine HT2.out.mono ?_
  rintro e w5 ⟨rfl, J5⟩
  have J5 := Lib.hid J5
  clear c0 HT2 JK
  have c0 := J5.out.one.cell (k := 0) (by decide)
  have c2 := J5.out.one.cell (k := 2) (by decide)
  have c3 := J5.out.one.cell (k := 3) (by decide)
  have f0 := J5.out.one.frozen 0
  have f2 := J5.out.one.frozen 2
  have hadd := wrap_sum (u1 2) (u1 3)
  have hs1 : (u1 2 + u1 3) % 18446744073709551616 < 18446744073709551616 := Nat.mod_lt _ (by decide)
  obtain ⟨s, hss⟩ : ∃ s, (u1 2 + u1 3) % 18446744073709551616 = s := ⟨_, rfl⟩
  rw [hss] at hadd hs1
  have JJ : Hid (Jr w b b2 ((w5.setCell ⟨b, 0, none⟩ (.int .u64 (rl (u1 0) 32 : Int))).setCell ⟨b, 2, none⟩ (.int .u64 (s : Int))) (up (turnS u1 0 32) 2 s)) := Lib.hid ((J5.out.set (rl (u1 0) 32) (by decide)).set s (by decide))
  have HSS : Hid ((turnS u1 0 32 2 + turnS u1 0 32 3) % 18446744073709551616 = s) := Lib.hid hss
  have HU3 : Hid (turnS u1 0 32 3 = u1 3) := Lib.hid rfl
  clear hss
  generalize rl (u1 0) 32 = x0 at JJ ⊢
  go_wp2_with fail
  clear J5 c0 c2 c3 f0 f2 hadd
  obtain ⟨u2, hu2⟩ : ∃ u, turnS u1 0 32 = u := ⟨_, rfl⟩
  rw [hu2] at JJ HSS S2 S3 S4 S5 hround HU3
  clear hu2
  generalize (w5.setCell ⟨b, 0, none⟩ (.int .u64 (x0 : Int))).setCell ⟨b, 2, none⟩ (.int .u64 (s : Int)) = WW at JJ ⊢
  have k0 : WW.drew.cell? ⟨b, 2, none⟩ = some (.int .u64 (s : Int)) := JJ.out.drew.one.cell (by decide)
  have k1 : WW.drew.cell? ⟨b, 3, none⟩ = some (.int .u64 (u2 3 : Int)) := JJ.out.drew.one.cell (by decide)
  have f1 : WW.drew.frozen? ⟨b, 3, none⟩ = false := JJ.out.drew.one.frozen 3
  have x1 := u64_xor_nat (rl (u2 3) 16) s (rl_lt 16 (S2.out 3)) hs1
  have HT1 := Lib.hid (HT.out (u2 3) 16 w b b2 WW.drew _ (S2.out 3) trn16 JJ.out.drew)
  have HMX : Hid (∀ y, rl (u2 3) 16 ^^^ s = y → up (up u2 2 s) 3 y = mixS u2 2 3 16) := Lib.hid (fun y hy => by rw [← hy, ← HSS.out]; rfl)
  obtain ⟨r, hr⟩ : ∃ r, rl (u2 3) 16 = r := ⟨_, rfl⟩
  rw [hr] at HT1 x1 HMX
  obtain ⟨y, hy⟩ : ∃ y, r ^^^ s = y := ⟨_, rfl⟩
  rw [hy] at x1
  have HMX := Lib.hid (HMX.out y hy)
  clear hr hy
  have q0 : Hid (∀ w3, Jr w b b2 w3 (up u2 2 s) → w3.cell? ⟨b, 2, none⟩ = some (.int .u64 (s : Int)) ∧ w3.cell? ⟨b, 3, none⟩ = some (.int .u64 (u2 3 : Int)) ∧ w3.frozen? ⟨b, 3, none⟩ = false) := Lib.hid (fun w3 h => ⟨h.one.cell (by decide), h.one.cell (by decide), h.one.frozen 3⟩)
  apply wp_cut (J := fun w' => Jr w b b2 w' (up (up u2 2 s) 3 y))
  case h1 =>
    go_region_law (first | (go_simp; go_at_call 32; refine HT1.out.mono ?_; rintro e w3 ⟨rfl, J3⟩; obtain ⟨g0, g1, g2⟩ := q0.out w3 J3))
    all_goals exact ⟨rfl, J3.set y (by decide)⟩
  intro w4 J4
  rw [HMX.out] at J4
  clear k0 k1 f1 x1 HT1 HMX q0 JJ HSS hs1
  obtain ⟨u3, hu3⟩ : ∃ u, mixS u2 2 3 16 = u := ⟨_, rfl⟩
  rw [hu3] at J4 S3 S4 S5 hround
  clear hu3
  have JK := Lib.hid J4
  clear J4
  have c0 := JK.out.one.cell (k := 0) (by decide)
  have c1 := JK.out.one.cell (k := 3) (by decide)
  have f0 := JK.out.one.frozen 0
  have hadd := wrap_sum (u3 0) (u3 3)
  have hs1 : (u3 0 + u3 3) % 18446744073709551616 < 18446744073709551616 := Nat.mod_lt _ (by decide)
  obtain ⟨s, hss⟩ : ∃ s, (u3 0 + u3 3) % 18446744073709551616 = s := ⟨_, rfl⟩
  rw [hss] at hadd hs1
  have HSS := Lib.hid hss
  have JJ := Lib.hid (JK.out.set s (k := 0) (by decide))
  clear hss
  go_wp2_with fail
  generalize w4.setCell ⟨b, 0, none⟩ (.int .u64 (s : Int)) = WW at JJ ⊢
  clear c0 c1 f0 hadd JK
  have k0 : WW.drew.cell? ⟨b, 0, none⟩ = some (.int .u64 (s : Int)) := JJ.out.drew.one.cell (by decide)
  have k1 : WW.drew.cell? ⟨b, 3, none⟩ = some (.int .u64 (u3 3 : Int)) := JJ.out.drew.one.cell (by decide)
  have f1 : WW.drew.frozen? ⟨b, 3, none⟩ = false := JJ.out.drew.one.frozen 3
  have x1 := u64_xor_nat (rl (u3 3) 21) s (rl_lt 21 (S3.out 3)) hs1
  have HT1 := Lib.hid (HT.out (u3 3) 21 w b b2 WW.drew _ (S3.out 3) trn21 JJ.out.drew)
  have HMX : Hid (∀ y, rl (u3 3) 21 ^^^ s = y → up (up u3 0 s) 3 y = mixS u3 0 3 21) := Lib.hid (fun y hy => by rw [← hy, ← HSS.out]; rfl)
  obtain ⟨r, hr⟩ : ∃ r, rl (u3 3) 21 = r := ⟨_, rfl⟩
  rw [hr] at HT1 x1 HMX
  obtain ⟨y, hy⟩ : ∃ y, r ^^^ s = y := ⟨_, rfl⟩
  rw [hy] at x1
  have HMX := Lib.hid (HMX.out y hy)
  clear hr hy
  have q0 : Hid (∀ w3, Jr w b b2 w3 (up u3 0 s) → w3.cell? ⟨b, 0, none⟩ = some (.int .u64 (s : Int)) ∧ w3.cell? ⟨b, 3, none⟩ = some (.int .u64 (u3 3 : Int)) ∧ w3.frozen? ⟨b, 3, none⟩ = false) := Lib.hid (fun w3 h => ⟨h.one.cell (by decide), h.one.cell (by decide), h.one.frozen 3⟩)
  apply wp_cut (J := fun w' => Jr w b b2 w' (up (up u3 0 s) 3 y))
  case h1 =>
    go_region_law (first | (go_simp; go_at_call 32; refine HT1.out.mono ?_; rintro e w3 ⟨rfl, J3⟩; obtain ⟨g0, g1, g2⟩ := q0.out w3 J3))
    all_goals exact ⟨rfl, J3.set y (by decide)⟩
  intro w4 J4
  rw [HMX.out] at J4
  clear k0 k1 f1 x1 HT1 HMX q0 JJ HSS hs1
  obtain ⟨u4, hu4⟩ : ∃ u, mixS u3 0 3 21 = u := ⟨_, rfl⟩
  rw [hu4] at J4 S4 S5 hround
  clear hu4
  have JK := Lib.hid J4
  clear J4
  have c0 := JK.out.one.cell (k := 2) (by decide)
  have c1 := JK.out.one.cell (k := 1) (by decide)
  have f0 := JK.out.one.frozen 2
  have hadd := wrap_sum (u4 2) (u4 1)
  have hs1 : (u4 2 + u4 1) % 18446744073709551616 < 18446744073709551616 := Nat.mod_lt _ (by decide)
  obtain ⟨s, hss⟩ : ∃ s, (u4 2 + u4 1) % 18446744073709551616 = s := ⟨_, rfl⟩
  rw [hss] at hadd hs1
  have HSS := Lib.hid hss
  have JJ := Lib.hid (JK.out.set s (k := 2) (by decide))
  clear hss
  go_wp2_with fail
  generalize w4.setCell ⟨b, 2, none⟩ (.int .u64 (s : Int)) = WW at JJ ⊢
  clear c0 c1 f0 hadd JK
  have k0 : WW.drew.cell? ⟨b, 2, none⟩ = some (.int .u64 (s : Int)) := JJ.out.drew.one.cell (by decide)
  have k1 : WW.drew.cell? ⟨b, 1, none⟩ = some (.int .u64 (u4 1 : Int)) := JJ.out.drew.one.cell (by decide)
  have f1 : WW.drew.frozen? ⟨b, 1, none⟩ = false := JJ.out.drew.one.frozen 1
  have x1 := u64_xor_nat (rl (u4 1) 17) s (rl_lt 17 (S4.out 1)) hs1
  have HT1 := Lib.hid (HT.out (u4 1) 17 w b b2 WW.drew _ (S4.out 1) trn17 JJ.out.drew)
  have HMX : Hid (∀ y, rl (u4 1) 17 ^^^ s = y → up (up u4 2 s) 1 y = mixS u4 2 1 17) := Lib.hid (fun y hy => by rw [← hy, ← HSS.out]; rfl)
  obtain ⟨r, hr⟩ : ∃ r, rl (u4 1) 17 = r := ⟨_, rfl⟩
  rw [hr] at HT1 x1 HMX
  obtain ⟨y, hy⟩ : ∃ y, r ^^^ s = y := ⟨_, rfl⟩
  rw [hy] at x1
  have HMX := Lib.hid (HMX.out y hy)
  clear hr hy
  have q0 : Hid (∀ w3, Jr w b b2 w3 (up u4 2 s) → w3.cell? ⟨b, 2, none⟩ = some (.int .u64 (s : Int)) ∧ w3.cell? ⟨b, 1, none⟩ = some (.int .u64 (u4 1 : Int)) ∧ w3.frozen? ⟨b, 1, none⟩ = false) := Lib.hid (fun w3 h => ⟨h.one.cell (by decide), h.one.cell (by decide), h.one.frozen 1⟩)
  apply wp_cut (J := fun w' => Jr w b b2 w' (up (up u4 2 s) 1 y))
  case h1 =>
    go_region_law (first | (go_simp; go_at_call 32; refine HT1.out.mono ?_; rintro e w3 ⟨rfl, J3⟩; obtain ⟨g0, g1, g2⟩ := q0.out w3 J3))
    all_goals exact ⟨rfl, J3.set y (by decide)⟩
  intro w4 J4
  rw [HMX.out] at J4
  clear k0 k1 f1 x1 HT1 HMX q0 JJ HSS hs1
  obtain ⟨u5, hu5⟩ : ∃ u, mixS u4 2 1 17 = u := ⟨_, rfl⟩
  rw [hu5] at J4 S5 hround
  clear hu5
  have JK := Lib.hid J4
  clear J4
  have c0 : w4.cell? ⟨b, 2, none⟩ = some (.int .u64 (u5 2 : Int)) := JK.out.one.cell (by decide)
  have HT2 := Lib.hid (HT.out (u5 2) 32 w b b2 w4 _ (S5.out 2) trn32 JK.out)
  go_wp2_with fail
  refine HT2.out.mono ?_
  rintro e w5 ⟨rfl, J5⟩
  have J5 := Lib.hid J5
  clear c0 HT2 JK
  have c0 := J5.out.one.cell (k := 0) (by decide)
  have c1 := J5.out.one.cell (k := 1) (by decide)
  have c2 := J5.out.one.cell (k := 2) (by decide)
  have c3 := J5.out.one.cell (k := 3) (by decide)
  have f2 := J5.out.one.frozen 2
  have d0 := J5.out.two.cell (k := 0) (by decide)
  have d1 := J5.out.two.cell (k := 1) (by decide)
  have d2 := J5.out.two.cell (k := 2) (by decide)
  have d3 := J5.out.two.cell (k := 3) (by decide)
  have g0 := J5.out.two.frozen 0
  have g1 := J5.out.two.frozen 1
  have g2 := J5.out.two.frozen 2
  have g3 := J5.out.two.frozen 3
  have hne := J5.out.ne
  have HR6 : Hid (four (turnS u5 2 32) = #[.int .u64 (u5 0 : Int), .int .u64 (u5 1 : Int), .int .u64 (rl (u5 2) 32 : Int), .int .u64 (u5 3 : Int)]) := Lib.hid (by
    show (#[.int .u64 (up u5 2 (rl (u5 2) 32) 0 : Int), .int .u64 (up u5 2 (rl (u5 2) 32) 1 : Int), .int .u64 (up u5 2 (rl (u5 2) 32) 2 : Int), .int .u64 (up u5 2 (rl (u5 2) 32) 3 : Int)] : Array Value) = _
    rw [up_same, up_other _ _ (by decide), up_other _ _ (by decide), up_other _ _ (by decide)])
  generalize rl (u5 2) 32 = x0 at HR6 ⊢
  go_wp2_with fail
  rw [hround.out, HR6.out]
  have hB : ∀ a0 a1 a2 a3 a4, Below w.heap.size w (((((w5.setCell ⟨b, 2, none⟩ a0).setCell ⟨b2, 0, none⟩ a1).setCell ⟨b2, 1, none⟩ a2).setCell ⟨b2, 2, none⟩ a3).setCell ⟨b2, 3, none⟩ a4) := fun a0 a1 a2 a3 a4 => ((((J5.out.bel.setCell (p := ⟨b, 2, none⟩) J5.out.le _).setCell (p := ⟨b2, 0, none⟩) J5.out.le2 _).setCell (p := ⟨b2, 1, none⟩) J5.out.le2 _).setCell (p := ⟨b2, 2, none⟩) J5.out.le2 _).setCell (p := ⟨b2, 3, none⟩) J5.out.le2 _
  first
    | (go_ret; exact ⟨rfl, hB _ _ _ _ _⟩)
    | exact bodyPost_ret (v := .agg #[.int .u64 (u5 0 : Int), .int .u64 (u5 1 : Int), .int .u64 (x0 : Int), .int .u64 (u5 3 : Int)]) (by simp [results, Tryd.results26, go_sem, d0, d1, d2, d3]) rfl ⟨rfl, hB _ _ _ _ _⟩
end Go.Proofs.YthalnnhkeaanhaaDoor
