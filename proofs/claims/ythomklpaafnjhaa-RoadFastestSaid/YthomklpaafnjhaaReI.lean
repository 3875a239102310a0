/-
  The contract of Pop, for ways. Condition: at most 100000 pushes.
-/
import Derived.Test.YthomklpaafnjhaaReH
namespace Go.Proofs.Ythomklpaafnjhaa
open Go.RowKit
set_option linter.unusedVariables false

/-- A block for a result of three numbers. -/
structure ResI (w : World) (r : Nat) : Prop where
  c0 : ∃ u, w.cell? ⟨r, 0, none⟩ = some u
  c1 : ∃ u, w.cell? ⟨r, 1, none⟩ = some u
  c2 : ∃ u, w.cell? ⟨r, 2, none⟩ = some u
  f0 : w.frozen? ⟨r, 0, none⟩ = false
  f1 : w.frozen? ⟨r, 1, none⟩ = false
  f2 : w.frozen? ⟨r, 2, none⟩ = false
theorem ResI.keep {w w' : World} {r : Nat} {S : Nat → Prop} (h : ResI w r) (hk : Keep S w w') (hS : ¬ S r) : ResI w' r := by
  obtain ⟨⟨u, h0⟩, ⟨u2, h1⟩, ⟨u3, h2⟩, g0, g1, g2⟩ := h
  have hr := World.block_lt_of_cell? _ _ h0
  refine ⟨⟨u, ?_⟩, ⟨u2, ?_⟩, ⟨u3, ?_⟩, ?_, ?_, ?_⟩
  · rw [hk.cell (p := ⟨r, 0, none⟩) hr hS]; exact h0
  · rw [hk.cell (p := ⟨r, 1, none⟩) hr hS]; exact h1
  · rw [hk.cell (p := ⟨r, 2, none⟩) hr hS]; exact h2
  · rw [hk.frozen (p := ⟨r, 0, none⟩) hr hS]; exact g0
  · rw [hk.frozen (p := ⟨r, 1, none⟩) hr hS]; exact g1
  · rw [hk.frozen (p := ⟨r, 2, none⟩) hr hS]; exact g2
theorem ResI.made (w : World) (t : TypeId) : ResI (w.alloc (.cells #[.int .i64 0, .int .i64 0, .int .i64 0] t)) w.heap.size :=
  ⟨⟨_, by rw [World.cell?_alloc_new]; rfl⟩, ⟨_, by rw [World.cell?_alloc_new]; rfl⟩, ⟨_, by rw [World.cell?_alloc_new]; rfl⟩, World.frozen?_alloc_new _ _ _ _, World.frozen?_alloc_new _ _ _ _, World.frozen?_alloc_new _ _ _ _⟩
theorem Keep.alloc0 {S : Nat → Prop} (w : World) (o : Obj) : Keep S w (w.alloc o) := (Keep.refl S w).alloc o
theorem ResI.new {w w1 : World} {t : TypeId} (hB : Below (w.alloc (.cells #[.int .i64 0, .int .i64 0, .int .i64 0] t)).heap.size (w.alloc (.cells #[.int .i64 0, .int .i64 0, .int .i64 0] t)) w1) : ResI w1 w.heap.size ∧ w.heap.size < w1.heap.size ∧ Below w.heap.size w w1 := by
  refine ⟨(ResI.made w t).keep (S := fun _ => False) (Keep.ofBelow hB) (fun e => e), ?_, Below.step (b := w.alloc (.cells #[.int .i64 0, .int .i64 0, .int .i64 0] t)) ((Below.refl _ _).alloc (Nat.le_refl _) _) hB⟩
  have := hB.size
  simp at this
  omega

set_option maxRecDepth 100000 in
set_option maxHeartbeats 2000000 in
theorem pop_none (b : Nat) (S : Nat → Prop) (dn : Bool) (N : Nat) (w : World) (H : QR w b S dn N []) :
    Calls Try.prog 37 #[.pointer (some ⟨b, 0, none⟩)] w fun e w' => e = .returned (hdV []) ∧ Below w.heap.size w w' := by
  have HL := Lib.hid (fun W (hB : Below w.heap.size w W) => peek_none b S dn N W (H.below hB))
  clear H
  go_enter Try.func37, Try.ntmps37
  go_wp2_with fail
  refine (HL.out _ ?_).mono ?_
  · exact (Below.refl _ _).alloc (Nat.le_refl _) _
  rintro e w1 ⟨rfl, hB1⟩
  obtain ⟨⟨⟨u0, r0⟩, ⟨u1, r1⟩, ⟨u2, r2⟩, g0, g1, g2⟩, hlt, hB⟩ := ResI.new hB1
  have HB := Lib.hid hB
  clear hB hB1 HL
  go_wp2_with fail
  try simp only [Exit.inBlock, Exit.then]
  refine bodyPost_ret (v := .tuple #[.agg #[.int .i64 0, .int .i64 0, .int .i64 0], .bool false]) ?_ rfl ⟨rfl, ?_⟩
  · rw [results_cell_tmp rfl]; go_simp
  · exact (((HB.out.setCell (p := ⟨w.heap.size, 0, none⟩) (Nat.le_refl _) _).setCell (p := ⟨w.heap.size, 1, none⟩) (Nat.le_refl _) _).setCell (p := ⟨w.heap.size, 2, none⟩) (Nat.le_refl _) _).alloc (by simp; omega) _
theorem pop_nil (w : World) :
    Calls Try.prog 37 #[.pointer none] w fun e w' => e = .returned (hdV []) ∧ Below w.heap.size w w' := by
  have HL := Lib.hid (fun W => peek_nil W)
  go_enter Try.func37, Try.ntmps37
  go_wp2_with fail
  refine (HL.out _).mono ?_
  rintro e w1 ⟨rfl, hB1⟩
  obtain ⟨⟨⟨u0, r0⟩, ⟨u1, r1⟩, ⟨u2, r2⟩, g0, g1, g2⟩, hlt, hB⟩ := ResI.new hB1
  have HB := Lib.hid hB
  clear hB hB1 HL
  go_wp2_with fail
  try simp only [Exit.inBlock, Exit.then]
  refine bodyPost_ret (v := .tuple #[.agg #[.int .i64 0, .int .i64 0, .int .i64 0], .bool false]) ?_ rfl ⟨rfl, ?_⟩
  · rw [results_cell_tmp rfl]; go_simp
  · exact (((HB.out.setCell (p := ⟨w.heap.size, 0, none⟩) (Nat.le_refl _) _).setCell (p := ⟨w.heap.size, 1, none⟩) (Nat.le_refl _) _).setCell (p := ⟨w.heap.size, 2, none⟩) (Nat.le_refl _) _).alloc (by simp; omega) _

set_option maxRecDepth 100000 in
set_option maxHeartbeats 2000000 in
theorem pop_some (b : Nat) (S : Nat → Prop) (dn : Bool) (N : Nat) (x : It) (V : List It) (w : World) (H : QR w b S dn N (x :: V)) (hN : N ≤ 100000) :
    Calls Try.prog 37 #[.pointer (some ⟨b, 0, none⟩)] w fun e w' => e = .returned (hdV (x :: V)) ∧ QR w' b S dn N V ∧ Keep S w w' := by
  have HL := Lib.hid (fun W (hB : Below w.heap.size w W) => peek_some b S dn N x V W (H.below hB) hN)
  have hbw : b < w.heap.size := H.lt b H.sb
  have HH := Lib.hid H
  obtain ⟨v, n, h, c1, hv, hvb, hA, hnN⟩ := H.ex
  have hl := hA.len
  rw [List.length_cons] at hl
  obtain ⟨m, rfl⟩ : ∃ m, n = m + 1 := ⟨V.length, by omega⟩
  rcases hv with ⟨_, h0⟩ | ⟨g, cap, rfl, hp⟩
  · omega
  obtain ⟨hSg, hgb⟩ := hvb g rfl
  have hmc := hp.1
  obtain ⟨x0, x1⟩ := x
  have HP := Lib.hid hp
  have HA := Lib.hid hA
  have HC1 := Lib.hid c1
  have HF1 := Lib.hid H.f1
  have hgw := hp.lt
  have hmz : (m : Int) ≤ (cap : Int) := by omega
  clear H hvb hA hl hp c1
  go_enter Try.func37, Try.ntmps37
  go_wp2_with fail
  refine (HL.out _ ?_).mono ?_
  · exact (Below.refl _ _).alloc (Nat.le_refl _) _
  rintro e w1 ⟨rfl, hB1⟩
  obtain ⟨hres, hlt, hB⟩ := ResI.new hB1
  have HRES := Lib.hid hres
  have HB := Lib.hid hB
  have hb1 : b < w1.heap.size := Nat.lt_of_lt_of_le hbw hB.size
  have c1 : w1.cell? ⟨b, 1, none⟩ = some (.slice (some ⟨g, 0, none⟩) (m + 1) cap) := by rw [hB.cell (p := ⟨b, 1, none⟩) hbw]; exact HC1.out
  clear hres hB hB1 HL
  go_wp2_with fail
  obtain ⟨w2, h2⟩ : ∃ w2, w1.alloc (.cells #[.int .i64 x0, .int .i64 (xS x1), .int .i64 (xE x1)] 65) = w2 := ⟨_, rfl⟩
  rw [h2]
  have k2 : Keep (fun k => k = w.heap.size) w1 w2 := h2 ▸ (Keep.refl _ w1).alloc _
  have hB2 : Below w.heap.size w w2 := h2 ▸ HB.out.alloc HB.out.size _
  have q0 : w2.cell? ⟨w1.heap.size, 0, none⟩ = some (.int .i64 x0) := by rw [← h2, World.cell?_alloc_new]; rfl
  have q1 : w2.cell? ⟨w1.heap.size, 1, none⟩ = some (.int .i64 (xS x1)) := by rw [← h2, World.cell?_alloc_new]; rfl
  have q2 : w2.cell? ⟨w1.heap.size, 2, none⟩ = some (.int .i64 (xE x1)) := by rw [← h2, World.cell?_alloc_new]; rfl
  have hres2 : ResI w2 w.heap.size := HRES.out.keep (S := fun _ => False) (h2 ▸ (Keep.refl _ w1).alloc _) (fun e => e)
  have hs2 : w2.heap.size = w1.heap.size + 1 := by rw [← h2]; simp
  have hp2 : HpR w2 g (m + 1) cap h := HP.out.keep (Keep.ofBelow (S := fun _ => False) hB2) (fun e => e)
  have c2 : w2.cell? ⟨b, 1, none⟩ = some (.slice (some ⟨g, 0, none⟩) (m + 1) cap) := by rw [hB2.cell (p := ⟨b, 1, none⟩) hbw]; exact HC1.out
  have hb2 : b < w2.heap.size := Nat.lt_of_lt_of_le hbw hB2.size
  obtain ⟨i0, i1, i2, i9⟩ := hp2.cell (show m < m + 1 by omega)
  obtain ⟨j0, j1, j2, j9⟩ := hp2.cell (show 0 < m + 1 by omega)
  have j3 := hp2.frozen 0
  have j4 := hp2.frozen 1
  have j5 := hp2.frozen 2
  have j6 := hp2.frozen 3
  simp only [Nat.zero_mul, Nat.zero_add] at j0 j1 j2 j9
  have hp3 : HpR (putE w2 g 0 (h m)).drew g (m + 1) cap (fun t => if t = 0 then h m else h t) := (hp2.put (h m) (by omega) hmc fun t ht => by
    by_cases e : t = 0
    · simp [e]
    · simp [e]; omega).drew
  have k3 : Keep (fun k => k = g) w2 (putE w2 g 0 (h m)).drew := ((Keep.refl (fun k => k = g) w2).putE g 0 (h m) rfl).drew
  simp only [putE, Nat.zero_mul, Nat.zero_add] at hp3 k3
  have HP3 := Lib.hid hp3
  have K3 := Lib.hid k3
  have HB2 := Lib.hid hB2
  have HRES2 := Lib.hid hres2
  have HQ := Lib.hid (And.intro q0 (And.intro q1 q2))
  have HC2 := Lib.hid c2
  obtain ⟨y, hy⟩ : ∃ y, h m = y := ⟨_, rfl⟩
  rw [hy] at i0 i1 i2 i9 K3
  have HY := Lib.hid hy
  obtain ⟨⟨y0, yk⟩, y2⟩ := y
  have hlt2 : w.heap.size < w1.heap.size := hlt
  simp only at i0 i1 i2 i9 K3
  rw [hy] at HP3
  obtain ⟨y1, hy1⟩ : ∃ z, xS yk = z := ⟨_, rfl⟩
  obtain ⟨y3, hy3⟩ : ∃ z, xE yk = z := ⟨_, rfl⟩
  simp only [hy1, hy3] at i1 i2 K3 HP3
  clear h2 hp2 hp3 k3 k2 hB2 hres2 q0 q1 q2 c1 hy hy1 hy3
  go_region
  obtain ⟨w3, h3⟩ : ∃ w3, ((((w2.setCell ⟨g, 0, none⟩ (.int .i64 y0)).setCell ⟨g, 1, none⟩ (.int .i64 y1)).setCell ⟨g, 2, none⟩ (.int .i64 y3)).setCell ⟨g, 3, none⟩ (.int .i64 (y2 : Int))).drew = w3 := ⟨_, rfl⟩
  rw [h3]
  rw [h3] at HP3 K3
  clear i0 i1 i2 i9 j0 j1 j2 j9 j3 j4 j5 j6 c2 h3
  have hgb' : ¬ b = g := fun e => hgb e.symm
  have c3 : w3.cell? ⟨b, 1, none⟩ = some (.slice (some ⟨g, 0, none⟩) (m + 1) cap) := by rw [K3.out.cell (p := ⟨b, 1, none⟩) hb2 hgb']; exact HC2.out
  have f3 : w3.frozen? ⟨b, 1, none⟩ = false := by
    rw [K3.out.frozen (p := ⟨b, 1, none⟩) hb2 hgb', HB2.out.frozen (p := ⟨b, 1, none⟩) hbw]; exact HF1.out
  have hb3 : b < w3.heap.size := Nat.lt_of_lt_of_le hb2 K3.out.size
  obtain ⟨i0, i1, i2, i9⟩ := HP3.out.cell (show m < m + 1 by omega)
  have i3 := HP3.out.frozen (m * 4)
  have i4 := HP3.out.frozen (m * 4 + 1)
  have i5 := HP3.out.frozen (m * 4 + 2)
  have i6 := HP3.out.frozen (m * 4 + 3)
  go_wp2_with fail
  have hp5 := HP3.out.put (m := m) ((0, 0), 0) (show m < cap by omega) (by omega) (h' := fun t => if t = 0 then ((y0, yk), y2) else h t) (fun t ht => by rw [if_neg (show t ≠ m by omega)]; exact ⟨by omega, rfl⟩)
  have k5 : Keep (fun k => k = g ∨ k = b) w3 ((putE w3 g m ((0, 0), 0)).setCell ⟨b, 1, none⟩ (.slice (some ⟨g, 0, none⟩) m cap)) := ((Keep.refl (fun k => k = g ∨ k = b) w3).putE g m ((0, 0), 0) (Or.inl rfl)).set _ _ (Or.inr rfl)
  have hp6 : HpR ((putE w3 g m ((0, 0), 0)).setCell ⟨b, 1, none⟩ (.slice (some ⟨g, 0, none⟩) m cap)) g m cap (fun t => if t = 0 then ((y0, yk), y2) else h t) := hp5.keep ((Keep.refl (fun k => k = b) _).set _ _ rfl) (fun e => hgb e)
  have c5 : ((putE w3 g m ((0, 0), 0)).setCell ⟨b, 1, none⟩ (.slice (some ⟨g, 0, none⟩) m cap)).cell? ⟨b, 1, none⟩ = some (.slice (some ⟨g, 0, none⟩) m cap) := World.cell?_setCell_same _ _ _ (by rw [((Keep.refl (fun k => k = g) w3).putE g m ((0, 0), 0) rfl).cell (p := ⟨b, 1, none⟩) hb3 hgb']; exact c3)
  simp only [putE, x_zero.1, x_zero.2] at k5 hp6 c5
  obtain ⟨w5, h5⟩ : ∃ w5, ((((w3.setCell ⟨g, m * 4, none⟩ (.int .i64 0)).setCell ⟨g, m * 4 + 1, none⟩ (.int .i64 0)).setCell ⟨g, m * 4 + 2, none⟩ (.int .i64 0)).setCell ⟨g, m * 4 + 3, none⟩ (.int .i64 0)).setCell ⟨b, 1, none⟩ (.slice (some ⟨g, 0, none⟩) m cap) = w5 := ⟨_, rfl⟩
  have ez : (((0 : Nat) : Int)) = 0 := rfl
  rw [ez, h5] at k5 hp6 c5
  rw [h5]
  have K5 := Lib.hid k5
  have HP6 := Lib.hid hp6
  have hbs : ∀ k, k < w.heap.size → ¬ k = w1.heap.size := fun k hk => by omega
  have k25 : Keep (fun k => k = g ∨ k = b) w2 w5 := (K3.out.mono (fun k e => Or.inl e)).step k5
  have c50 : w5.cell? ⟨b, 0, none⟩ = some (.func (.func (lessF dn)) #[] #[]) := by
    rw [← h5, World.cell?_setCell_other _ _ _ _ (by simp), World.cell?_setCell_other _ _ _ _ (by simp <;> omega), World.cell?_setCell_other _ _ _ _ (by simp <;> omega), World.cell?_setCell_other _ _ _ _ (by simp <;> omega), World.cell?_setCell_other _ _ _ _ (by simp <;> omega), K3.out.cell (p := ⟨b, 0, none⟩) hb2 hgb', HB2.out.cell (p := ⟨b, 0, none⟩) hbw]
    exact HH.out.c0
  have c52 : w5.cell? ⟨b, 2, none⟩ = some (.int .i64 (N : Int)) := by
    rw [← h5, World.cell?_setCell_other _ _ _ _ (by simp), World.cell?_setCell_other _ _ _ _ (by simp <;> omega), World.cell?_setCell_other _ _ _ _ (by simp <;> omega), World.cell?_setCell_other _ _ _ _ (by simp <;> omega), World.cell?_setCell_other _ _ _ _ (by simp <;> omega), K3.out.cell (p := ⟨b, 2, none⟩) hb2 hgb', HB2.out.cell (p := ⟨b, 2, none⟩) hbw]
    exact HH.out.c2
  have f51 : w5.frozen? ⟨b, 1, none⟩ = false := by
    rw [← h5]; simp only [World.frozen?_setCell]; exact f3
  have f52 : w5.frozen? ⟨b, 2, none⟩ = false := by
    rw [← h5]; simp only [World.frozen?_setCell]
    rw [K3.out.frozen (p := ⟨b, 2, none⟩) hb2 hgb', HB2.out.frozen (p := ⟨b, 2, none⟩) hbw]
    exact HH.out.f2
  have K25 := Lib.hid k25
  have b5 : BlkC w5 b := by
    rw [← h5]
    exact ((((HH.out.blk.keep (Keep.ofBelow (S := fun _ => False) HB2.out) (fun e => e)).keep K3.out hgb').set _ _ _).set _ _ _).set _ _ _ |>.set _ _ _ |>.set _ _ _
  have H5 := Lib.hid (And.intro c50 (And.intro c5 (And.intro c52 (And.intro f51 (And.intro f52 b5)))))
  have hb5 : b < w5.heap.size := Nat.lt_of_lt_of_le hb3 k5.size
  clear k5 hp5 hp6 k25 i0 i1 i2 i9 i3 i4 i5 i6 c3 f3 c52 f51 f52 b5 h5 ez
  refine (sink_any dn b g m cap _ w5 c50 c5 HP6.out (by omega) hgb' (Down.start HA.out.heap (fun t h0 ht => if_neg (by omega)))).mono ?_
  rintro e w6 ⟨rfl, h', p1, p2, p3, p4⟩
  have K26 : Hid (Keep (fun k => k = g ∨ k = b) w2 w6) := Lib.hid (K25.out.step (p4.mono (fun k e => Or.inl e)))
  have hb6 : b < w6.heap.size := Nat.lt_of_lt_of_le hb5 p4.size
  have n0 : w6.cell? ⟨w1.heap.size, 0, none⟩ = some (.int .i64 x0) := by rw [K26.out.cell (p := ⟨w1.heap.size, 0, none⟩) (by rw [hs2]; exact Nat.lt_succ_self _) (by rintro (e | e) <;> (simp only at e; omega))]; exact HQ.out.1
  have n1 : w6.cell? ⟨w1.heap.size, 1, none⟩ = some (.int .i64 (xS x1)) := by rw [K26.out.cell (p := ⟨w1.heap.size, 1, none⟩) (by rw [hs2]; exact Nat.lt_succ_self _) (by rintro (e | e) <;> (simp only at e; omega))]; exact HQ.out.2.1
  have n2 : w6.cell? ⟨w1.heap.size, 2, none⟩ = some (.int .i64 (xE x1)) := by rw [K26.out.cell (p := ⟨w1.heap.size, 2, none⟩) (by rw [hs2]; exact Nat.lt_succ_self _) (by rintro (e | e) <;> (simp only at e; omega))]; exact HQ.out.2.2
  obtain ⟨⟨u0, r0⟩, ⟨u1, r1⟩, ⟨u2, r2⟩, g0, g1, g2⟩ := HRES2.out.keep K26.out (by rintro (e | e) <;> omega)
  have HQ6 : Hid (QR w6 b S dn N V) := Lib.hid (by
    obtain ⟨V', e1, e2⟩ := HA.out.pop (h1 := fun t => if t = 0 then ((y0, yk), y2) else h t) (by rw [if_pos rfl]; exact HY.out.symm) (fun t h0 _ => if_neg (by omega))
    have e3 := (List.cons.inj e1).2
    subst e3
    obtain ⟨d0, d1, d2, d3, d4, d5⟩ := H5.out
    refine ⟨HH.out.sb, fun k e => ?_, ?_, ?_, ?_, ?_, d5.keep p4 hgb', .slice (some ⟨g, 0, none⟩) m cap, m, h', ?_, Or.inr ⟨g, cap, rfl, p1.out⟩, fun k e => ?_, e2 h' p2.out p3.out, by omega⟩
    · exact Nat.lt_of_lt_of_le (HH.out.lt k e) (Nat.le_trans HB2.out.size K26.out.size)
    · rw [p4.cell (p := ⟨b, 0, none⟩) hb5 hgb']; exact d0
    · rw [p4.frozen (p := ⟨b, 1, none⟩) hb5 hgb']; exact d3
    · rw [p4.cell (p := ⟨b, 2, none⟩) hb5 hgb']; exact d2
    · rw [p4.frozen (p := ⟨b, 2, none⟩) hb5 hgb']; exact d4
    · rw [p4.cell (p := ⟨b, 1, none⟩) hb5 hgb']; exact d1
    · simp [Value.ownBlock] at e
      subst e
      exact ⟨hSg, hgb⟩)
  have HK6 : Hid (Keep S w w6) := Lib.hid ((Keep.ofBelow (S := S) HB2.out).step (K26.out.mono (fun k e => by rcases e with rfl | rfl; exact hSg; exact HH.out.sb)))
  have hw6 : w.heap.size < w6.heap.size := World.block_lt_of_cell? _ _ r0
  clear p1 p2 p3 p4 c50 c5
  go_wp2_with fail
  try simp only [Exit.inBlock, Exit.then]
  refine bodyPost_ret (v := .tuple #[.agg #[.int .i64 x0, .int .i64 (xS x1), .int .i64 (xE x1)], .bool true]) ?_ rfl ⟨rfl, ?_, ?_⟩
  · rw [results_cell_tmp rfl]; go_simp
  · exact HQ6.out.keep (S' := fun k => k = w.heap.size) ((((Keep.refl (fun k => k = w.heap.size) w6).set _ _ rfl).set _ _ rfl).set _ _ rfl) (fun k e e2 => by have := HH.out.lt k e; omega)
  · exact ((HK6.out.set' _ _ (Or.inr (Nat.le_refl _))).set' _ _ (Or.inr (Nat.le_refl _))).set' _ _ (Or.inr (Nat.le_refl _))
end Go.Proofs.Ythomklpaafnjhaa
