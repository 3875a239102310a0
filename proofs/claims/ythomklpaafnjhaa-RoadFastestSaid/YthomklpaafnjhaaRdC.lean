/-
  The contract of exits. Condition: a network that Check passes.
-/
import Derived.Test.YthomklpaafnjhaaRdR
import Derived.BigRegion
namespace Go.Proofs.Ythomklpaafnjhaa
open Go.RowKit
set_option linter.unusedVariables false

theorem EdR.at {w : World} {A : Option Addr} {l : List Ed} (h : EdR w A l) {k : Nat} (hk : k < l.length) : ∃ b o, A = some ⟨b, o, none⟩ ∧ b < w.heap.size ∧
    w.cell? ⟨b, o + k * 3, none⟩ = some (.int .i64 (l.getD k ed0).f) ∧ w.cell? ⟨b, o + k * 3 + 1, none⟩ = some (.int .i64 (l.getD k ed0).t) ∧ w.cell? ⟨b, o + k * 3 + 2, none⟩ = some (.int .i64 (l.getD k ed0).s) := by
  obtain ⟨b, o, h1, h2, h3⟩ := h (by omega)
  exact ⟨b, o, h1, h2, h3 k hk⟩

set_option linter.unusedSimpArgs false in
set_option maxRecDepth 100000 in
set_option maxHeartbeats 2000000 in
theorem exits_at (N : Nat) (A : Option Addr) (m c : Nat) (l : List Ed) (w : World) (hN : N ≤ 64) (hm : l.length = m) (hm5 : m ≤ 512) (hA : EdR w A l) (hO : OkL N l) :
    Calls Try.prog 26 #[.agg #[.int .i64 (N : Int), .slice A m c]] w fun e w' => ∃ g, e = .returned (.slice (some ⟨g, 0, none⟩) N N) ∧ XsR w' g N (fun v => exT l (v : Int) m) ∧ w.heap.size ≤ g ∧ Below w.heap.size w w' := by
  have HM := Lib.hid hm
  have HOK := Lib.hid hO
  have HA0 := Lib.hid hA
  have hmk := make_rows N (by omega)
  clear hm hA hO
  go_enter Try.func26, Try.ntmps26
  go_wp2_with fail
  clear hmk
  obtain ⟨w1, hw1⟩ : ∃ w1, w.alloc (.cells #[.int .i64 (N : Int), .slice A m c] 24) = w1 := ⟨_, rfl⟩
  rw [hw1]
  have hB1 : Below w.heap.size w w1 := hw1 ▸ below_alloc _ _
  have HA1 := Lib.hid (HA0.out.below hB1)
  obtain ⟨w2, hw2⟩ : ∃ w2, w1.alloc (.cells (madeCells #[.slice none 0 0] N) 71) = w2 := ⟨_, rfl⟩
  obtain ⟨g, hg⟩ : ∃ g, w.heap.size + 1 = g := ⟨_, rfl⟩
  have hg1 : w1.heap.size = g := by rw [← hw1, ← hg]; simp
  have HB2 : Hid (Below g w1 w2) := Lib.hid (hg1 ▸ hw2 ▸ below_alloc _ _)
  have HXS : Hid (XsO w2 g N (g + 1) (fun v => exT l (v : Int) 0) (fun _ => .slice none 0 0)) := Lib.hid ⟨Nat.lt_succ_self _, by rw [← hw2, ← hg1]; exact Blk.made _ _ _ _ _ (fun _ => rfl), fun v _ => OwnA.nil _ _ _, fun _ _ _ _ _ => Or.inl rfl⟩
  have hs2 : w2.heap.size = g + 1 := by rw [← hw2, ← hg1]; simp
  have HB1 : Hid (Below w.heap.size w w1) := Lib.hid hB1
  have HG1 := Lib.hid hg1
  rw [hw2, hg]
  clear hw1 hw2 hB1 hg1 HA0
  go_loopw [12] (fun i wr => ∃ (k : Nat) (val : Nat → Value), k ≤ m ∧ i = .int .i64 (k : Int) ∧ Hid (XsO wr g N (g + 1) (fun v => exT l (v : Int) k) val) ∧ Hid (Below g w1 wr)) (fun i _ => m - (intOf i).toNat)
  case atStart => exact ⟨0, _, by omega, rfl, HXS, HB2⟩
  case round =>
    obtain ⟨k, val, hk, rfl, HX, HBW⟩ := hrel
    by_cases hlt : k < m
    · have hkz : (k : Int) < (m : Int) := by omega
      have hkl : k < l.length := by rw [HM.out]; exact hlt
      have hgr : g < wr.heap.size := HX.out.blk.lt
      obtain ⟨b, o, rfl, hbl, c0, c1, c2⟩ := (HA1.out.below (by rw [HG1.out]; exact HBW.out)).at hkl
      obtain ⟨f0, f1, _⟩ := HOK.out k hkl
      have HSUC : Hid (∀ v : Nat, (v : Int) ≠ (l.getD k ed0).f → exT l (v : Int) (k + 1) = exT l (v : Int) k) := Lib.hid (fun v hv => exT_miss l _ k (fun e => hv e.symm))
      have HHIT := Lib.hid (exT_hit l k)
      have hlen := exT_length l (l.getD k ed0).f k
      obtain ⟨⟨f, t, s⟩, hy⟩ : ∃ y, l.getD k ed0 = y := ⟨_, rfl⟩
      rw [hy] at c0 c1 c2 f0 f1 HSUC HHIT hlen
      simp only at c0 c1 c2 f0 f1 HSUC HHIT hlen
      obtain ⟨q, rfl⟩ : ∃ q : Nat, f = (q : Int) := ⟨f.toNat, by omega⟩
      have hq : q < N := by omega
      have r0 := HX.out.blk.cell hq
      have r1 := HX.out.blk.frozen q
      have HLEN := Lib.hid (show (exT l (q : Int) k).length ≤ 10000 by omega)
      have r9 := HX.out.gB
      clear hy hlen f0 f1 hkl
      go_wp2_with fail
      obtain ⟨W, hW⟩ : ∃ W, wr.alloc (.cells #[.int .i64 (q : Int), .int .i64 t, .int .i64 s] 43) = W := ⟨_, rfl⟩
      obtain ⟨p, hp⟩ : ∃ p, wr.heap.size = p := ⟨_, rfl⟩
      have hpW : W.heap.size = p + 1 := by rw [← hW, ← hp]; simp
      have hBW : Below wr.heap.size wr W := hW ▸ below_alloc _ _
      have HXD := Lib.hid (HX.out.below (show Below wr.heap.size wr ((W.alloc (.cells #[.int .i64 (k : Int), .int .i64 t, .int .i64 s] 73)).drew) from (hBW.alloc (by rw [← hp] at hpW; omega) _).drew))
      have HTR : Hid (TriR ((W.alloc (.cells #[.int .i64 (k : Int), .int .i64 t, .int .i64 s] 73)).drew) (p + 1) ⟨(k : Int), t, s⟩) := Lib.hid (by
        have := TriR.made W (k : Int) t s 73
        rw [hpW] at this
        exact this.drew)
      have HTE : Hid (TriR W p ⟨(q : Int), t, s⟩) := Lib.hid (by rw [← hW, ← hp]; exact TriR.made wr _ t s _)
      have HSZ : Hid (g + 1 ≤ ((W.alloc (.cells #[.int .i64 (k : Int), .int .i64 t, .int .i64 s] 73)).drew).heap.size) := Lib.hid (by have := hBW.size; simp; omega)
      have HBWW : Hid (Below g w1 ((W.alloc (.cells #[.int .i64 (k : Int), .int .i64 t, .int .i64 s] 73)).drew)) := Lib.hid (HBW.out.trans ((hBW.alloc (by rw [← hp] at hpW; omega) _).drew.mono (show g ≤ wr.heap.size by omega)))
      have HPG : Hid (g < p ∧ (∀ x, (val q).ownBlock = some x → g < x ∧ x < p)) := Lib.hid ⟨by omega, fun x hx => by have := (HX.out.own q hq).ge x hx; omega⟩
      have R0 : W.cell? ⟨g, q, none⟩ = some (val q) := by rw [hBW.cell (p := ⟨g, q, none⟩) hgr]; exact r0
      rw [hW, hp]
      obtain ⟨e0, e1, e2⟩ := HTE.out
      simp only at e0 e1 e2
      have hne : ¬ p = g := by omega
      clear hW hp hBW c0 c1 c2 r0 r1 HX HBW
      refine wp_region_lastL (S := (fun w' => w'.cell? ⟨p, 0, none⟩ = some (.int .i64 (q : Int)) ∧ w'.cell? ⟨p, 1, none⟩ = some (.int .i64 t) ∧ w'.cell? ⟨p, 2, none⟩ = some (.int .i64 s) ∧ w'.cell? ⟨g, q, none⟩ = some (val q))) (by kernel_rfl) (by dsimp only [List.dropLast]) (by simp only [List.getLast?_cons_cons, List.getLast?_singleton]; rfl) (by kernel_rfl) ?_ (fun hHeld => ?_)
      · exact ⟨e0, e1, e2, R0⟩
      refine wpAnyH_take (i := 0) (v := ?v0) rfl (by kernel_rfl) (by kernel_rfl) (by kernel_rfl) (fun _ _ _ h => h) (Or.inl ⟨by rfl, ?h0⟩) (by assumption) ?r0
      rotate_left
      · intro w hSw; (try dsimp only at hSw); go_simp; (try with_reducible rfl)
      try simp only [Act.put, List.getElem_toArray, List.getElem_cons_zero, List.getElem_cons_succ, List.setIfInBounds_toArray, List.set_cons_zero, List.set_cons_succ]
      refine wpAnyH_take (i := 1) (v := ?v1) rfl (by kernel_rfl) (by kernel_rfl) (by kernel_rfl) (fun _ _ _ h => h) (Or.inl ⟨by rfl, ?h1⟩) (by assumption) ?r1
      rotate_left
      · intro w hSw; (try dsimp only at hSw); go_simp; (try with_reducible rfl)
      try simp only [Act.put, List.getElem_toArray, List.getElem_cons_zero, List.getElem_cons_succ, List.setIfInBounds_toArray, List.set_cons_zero, List.set_cons_succ]
      refine wpAnyH_take (i := 2) (v := ?v2) rfl (by kernel_rfl) (by kernel_rfl) (by kernel_rfl) (fun _ _ _ h => h) (Or.inl ⟨by rfl, ?h2⟩) (by assumption) ?r2
      rotate_left
      · intro w hSw; (try dsimp only at hSw); go_simp; (try with_reducible rfl)
      try simp only [Act.put, List.getElem_toArray, List.getElem_cons_zero, List.getElem_cons_succ, List.setIfInBounds_toArray, List.set_cons_zero, List.set_cons_succ]
      refine wpAnyH_take (i := 3) (v := ?v3) rfl (by kernel_rfl) (by kernel_rfl) (by kernel_rfl) (fun _ _ _ h => h) (Or.inl ⟨by rfl, ?h3⟩) (by assumption) ?r3
      rotate_left
      · intro w hSw; (try dsimp only at hSw); go_simp; (try with_reducible rfl)
      try simp only [Act.put, List.getElem_toArray, List.getElem_cons_zero, List.getElem_cons_succ, List.setIfInBounds_toArray, List.set_cons_zero, List.set_cons_succ]
      refine wpAnyH_take (i := 4) (v := ?v4) rfl (by kernel_rfl) (by kernel_rfl) (by kernel_rfl) (fun _ _ _ h => h) (Or.inl ⟨by rfl, ?h4⟩) (by assumption) ?r4
      rotate_left
      · intro w hSw; (try dsimp only at hSw); go_simp; (try with_reducible rfl)
      try simp only [Act.put, List.getElem_toArray, List.getElem_cons_zero, List.getElem_cons_succ, List.setIfInBounds_toArray, List.set_cons_zero, List.set_cons_succ]
      refine wpAnyH_take (i := 5) (v := ?v5) rfl (by kernel_rfl) (by kernel_rfl) (by kernel_rfl) (fun _ _ _ h => h) (Or.inl ⟨by rfl, ?h5⟩) (by assumption) ?r5
      rotate_left
      · intro w hSw; (try dsimp only at hSw); go_simp; (try with_reducible rfl)
      try simp only [Act.put, List.getElem_toArray, List.getElem_cons_zero, List.getElem_cons_succ, List.setIfInBounds_toArray, List.set_cons_zero, List.set_cons_succ]
      refine wpAnyH_take (i := 6) (v := ?v6) rfl (by kernel_rfl) (by kernel_rfl) (by kernel_rfl) (fun _ _ _ h => h) (Or.inl ⟨by rfl, ?h6⟩) (by assumption) ?r6
      rotate_left
      · intro w hSw; (try dsimp only at hSw); go_simp; (try with_reducible rfl)
      try simp only [Act.put, List.getElem_toArray, List.getElem_cons_zero, List.getElem_cons_succ, List.setIfInBounds_toArray, List.set_cons_zero, List.set_cons_succ]
      refine wpAnyH_take (i := 7) (v := ?v7) rfl (by kernel_rfl) (by kernel_rfl) (by kernel_rfl) (fun _ _ _ h => h) (Or.inl ⟨by rfl, ?h7⟩) (by assumption) ?r7
      rotate_left
      · intro w hSw; (try dsimp only at hSw); go_simp; (try with_reducible rfl)
      try simp only [Act.put, List.getElem_toArray, List.getElem_cons_zero, List.getElem_cons_succ, List.setIfInBounds_toArray, List.set_cons_zero, List.set_cons_succ]
      refine wpAnyH_take (i := 8) (v := ?v8) rfl (by kernel_rfl) (by kernel_rfl) (by kernel_rfl) (fun _ _ _ h => h) (Or.inl ⟨by rfl, ?h8⟩) (by assumption) ?r8
      rotate_left
      · intro w hSw; (try dsimp only at hSw); go_simp; (try with_reducible rfl)
      try simp only [Act.put, List.getElem_toArray, List.getElem_cons_zero, List.getElem_cons_succ, List.setIfInBounds_toArray, List.set_cons_zero, List.set_cons_succ]
      refine wpAnyH_take (i := 9) (v := ?v9) rfl (by kernel_rfl) (by kernel_rfl) (by kernel_rfl) (fun _ _ _ h => h) (Or.inl ⟨by rfl, ?h9⟩) (by assumption) ?r9
      rotate_left
      · intro w hSw; (try dsimp only at hSw); go_simp; (try with_reducible rfl)
      try simp only [Act.put, List.getElem_toArray, List.getElem_cons_zero, List.getElem_cons_succ, List.setIfInBounds_toArray, List.set_cons_zero, List.set_cons_succ]
      refine wpAnyH_take (i := 10) (v := ?v10) rfl (by kernel_rfl) (by kernel_rfl) (by kernel_rfl) (fun _ _ _ h => h) (Or.inl ⟨by rfl, ?h10⟩) (by assumption) ?r10
      rotate_left
      · intro w hSw; (try dsimp only at hSw); go_simp; (try with_reducible rfl)
      try simp only [Act.put, List.getElem_toArray, List.getElem_cons_zero, List.getElem_cons_succ, List.setIfInBounds_toArray, List.set_cons_zero, List.set_cons_succ]
      refine wpAnyH_take (i := 11) (v := ?v11) rfl (by kernel_rfl) (by kernel_rfl) (by kernel_rfl) (fun _ _ _ h => h) (Or.inl ⟨by rfl, ?h11⟩) (by assumption) ?r11
      rotate_left
      · intro w hSw; (try dsimp only at hSw); go_simp; (try with_reducible rfl)
      try simp only [Act.put, List.getElem_toArray, List.getElem_cons_zero, List.getElem_cons_succ, List.setIfInBounds_toArray, List.set_cons_zero, List.set_cons_succ]
      refine wpAnyH_take (i := 12) (v := ?v12) rfl (by kernel_rfl) (by kernel_rfl) (by kernel_rfl) (fun _ _ _ h => h) (Or.inl ⟨by rfl, ?h12⟩) (by assumption) ?r12
      rotate_left
      · intro w hSw; (try dsimp only at hSw); go_simp; (try with_reducible rfl)
      try simp only [Act.put, List.getElem_toArray, List.getElem_cons_zero, List.getElem_cons_succ, List.setIfInBounds_toArray, List.set_cons_zero, List.set_cons_succ]
      refine wpAnyH_take (i := 13) (v := ?v13) rfl (by kernel_rfl) (by kernel_rfl) (by kernel_rfl) (fun _ _ _ h => h) (Or.inl ⟨by rfl, ?h13⟩) (by assumption) ?r13
      rotate_left
      · intro w hSw; (try dsimp only at hSw); go_simp; (try with_reducible rfl)
      try simp only [Act.put, List.getElem_toArray, List.getElem_cons_zero, List.getElem_cons_succ, List.setIfInBounds_toArray, List.set_cons_zero, List.set_cons_succ]
      refine wpAnyH_ready (rs := [14]) (by kernel_rfl) (by simp) ?_
      refine AllReadyH.cons rfl (fun K hK => ?_) AllReadyH.nil
      go_simp
      refine hK.out _ _ ?_ (fun hHeld => ?_)
      · go_keep
      clear hK K
      try simp only [Act.put, List.getElem_toArray, List.getElem_cons_zero, List.getElem_cons_succ, List.setIfInBounds_toArray, List.set_cons_zero, List.set_cons_succ]
      refine wpAnyH_ready (rs := [15]) (by kernel_rfl) (by simp) ?_
      refine AllReadyH.cons rfl (fun K hK => ?_) AllReadyH.nil
      (refine step_append_tri triX rfl _ _ rfl (g + 1) (val q) (exT l (q : Int) k) ⟨(k : Int), t, s⟩ _ _ rfl (HXD.out.own q hq) rfl (by first | exact HTR.out | (rw [← hpW]; exact HTR.out)) HLEN.out HSZ.out ?_; intro A4 n4 c4 w4 hn4 hO4 hg4 hat4; have k4 := (Keep.refl (fun k => (val q).ownBlock = some k) _).grown hg4.out (fun k e => Or.inl e); have s0 : w4.cell? ⟨g, q, none⟩ = some (val q) := (by rw [k4.cell (p := ⟨g, q, none⟩) HXD.out.blk.lt (fun e => by have := HPG.out.2 g e; omega)]; exact hHeld.2.2.2); have s1 : w4.frozen? ⟨g, q, none⟩ = false := (by rw [k4.frozen (p := ⟨g, q, none⟩) HXD.out.blk.lt (fun e => by have := HPG.out.2 g e; omega)]; exact HXD.out.blk.frozen q); have s2 : TriR w4 p ⟨(q : Int), t, s⟩ := TriR.keep ⟨hHeld.1, hHeld.2.1, hHeld.2.2.1⟩ k4 (fun e => by have := HPG.out.2 p e; omega))
      refine hK.out _ _ ?_ (fun hHeld => ?_)
      · exact ⟨s2.c0, s2.c1, s2.c2, s0⟩
      clear hK K
      try simp only [Act.put, List.getElem_toArray, List.getElem_cons_zero, List.getElem_cons_succ, List.setIfInBounds_toArray, List.set_cons_zero, List.set_cons_succ]
      refine wpAnyH_take (i := 16) (v := ?v16) rfl (by kernel_rfl) (by kernel_rfl) (by kernel_rfl) (fun _ _ _ h => h) (Or.inl ⟨by rfl, ?h16⟩) (by assumption) ?r16
      rotate_left
      · intro w hSw; (try dsimp only at hSw); go_simp; (try with_reducible rfl)
      try simp only [Act.put, List.getElem_toArray, List.getElem_cons_zero, List.getElem_cons_succ, List.setIfInBounds_toArray, List.set_cons_zero, List.set_cons_succ]
      refine wpAnyH_done (by kernel_rfl) ?_ _
      simp only [LastQ]
      go_simp
      have HX5 : Hid (XsO (w4.setCell ⟨g, q, none⟩ (.slice A4 n4 c4)) g N (g + 1) (fun v => exT l (v : Int) (k + 1)) (fun v => if v = q then .slice A4 n4 c4 else val v)) := Lib.hid (HXD.out.step (X' := fun v => exT l (v : Int) (k + 1)) hq (by show OwnA _ _ _ _ (exT l (q : Int) (k + 1)); rw [HHIT.out]; exact hO4.out) hg4.out hat4.out (fun v hv hne => HSUC.out v (by omega)))
      have HB5 : Hid (Below g w1 (w4.setCell ⟨g, q, none⟩ (.slice A4 n4 c4))) := Lib.hid (by
        have h4 : Below g w1 w4 := HBWW.out.grown hg4.out (by have := HSZ.out; omega) (fun k e => by have := HPG.out.2 k e; omega)
        exact h4.setCell (p := ⟨g, q, none⟩) (Nat.le_refl _) _)
      clear hn4 hO4 hg4 hat4 k4 s0 s1 s2 hHeld e0 e1 e2 R0
      go_wp2_with fail
      go_roundw
      case rel => exact ⟨k + 1, _, by omega, by go_num, HX5, HB5⟩
      case measure => simp only [intOf]; omega
    · obtain rfl : k = m := by omega
      have hnlt : ¬ (k : Int) < (k : Int) := by omega
      go_wp2_with fail
      go_ret
      exact ⟨g, rfl, HX.out.read, Nat.le_trans HB1.out.size (Nat.le_of_eq HG1.out), HB1.out.trans (by have := HBW.out; exact this.mono (by have := HB1.out.size; rw [HG1.out] at this; exact this))⟩
theorem exits_any (N : Nat) (A : Option Addr) (m c : Nat) (l : List Ed) (w : World) (hN : N ≤ 64) (hm : l.length = m) (hm5 : m ≤ 512) (hA : EdR w A l) (hO : OkL N l) :
    Calls Try.prog 26 #[.agg #[.int .i64 (N : Int), .slice A m c]] w fun e w' => ∃ g, e = .returned (.slice (some ⟨g, 0, none⟩) N N) ∧ XsR w' g N (fun v => exT l (v : Int) m) ∧ Below w.heap.size w w' :=
  (exits_at N A m c l w hN hm hm5 hA hO).mono fun e w' ⟨g, h1, h2, _, h3⟩ => ⟨g, h1, h2, h3⟩
end Go.Proofs.Ythomklpaafnjhaa
