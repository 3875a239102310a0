/-
  The contract of Push, for ways. Condition: at most 100000 pushes.
-/
import Derived.Test.YthomklpaafnjhaaReF
namespace Go.Proofs.Ythomklpaafnjhaa
open Go.RowKit
set_option linter.unusedVariables false

/-- What is known of the queue behind the append. -/
structure Mid4 (w4 : World) (b : Nat) (dn : Bool) (N : Nat) (v : Value) : Prop where
  c0 : w4.cell? ⟨b, 0, none⟩ = some (.func (.func (lessF dn)) #[] #[])
  c1 : w4.cell? ⟨b, 1, none⟩ = some v
  c2 : w4.cell? ⟨b, 2, none⟩ = some (.int .i64 (N : Int))
  f1 : w4.frozen? ⟨b, 1, none⟩ = false
  f2 : w4.frozen? ⟨b, 2, none⟩ = false
  blk : BlkC w4 b
theorem push_mid {w W1 w4 : World} {b : Nat} {S : Nat → Prop} {dn : Bool} {N : Nat} {V : List It} {v : Value} (H : QR w b S dn N V) (c1 : w.cell? ⟨b, 1, none⟩ = some v) (hvb : ∀ g, v.ownBlock = some g → S g ∧ g ≠ b)
    (hB : Below w.heap.size w W1) (hg : W1.grownBy w4 v.ownBlock) : Mid4 w4 b dn N v := by
  have hb := H.lt b H.sb
  have hb1 : b < W1.heap.size := Nat.lt_of_lt_of_le hb hB.size
  have hk : Keep (fun k => v.ownBlock = some k) W1 w4 := Keep.ofGrown hg (fun k e => e)
  have hnb : ¬ v.ownBlock = some b := fun e => (hvb b e).2 rfl
  refine ⟨?_, ?_, ?_, ?_, ?_, (H.blk.keep (Keep.ofBelow (S := fun _ => False) hB) (fun e => e)).keep hk hnb⟩
  · rw [hk.cell (p := ⟨b, 0, none⟩) hb1 hnb, hB.cell (p := ⟨b, 0, none⟩) hb]; exact H.c0
  · rw [hk.cell (p := ⟨b, 1, none⟩) hb1 hnb, hB.cell (p := ⟨b, 1, none⟩) hb]; exact c1
  · rw [hk.cell (p := ⟨b, 2, none⟩) hb1 hnb, hB.cell (p := ⟨b, 2, none⟩) hb]; exact H.c2
  · rw [hk.frozen (p := ⟨b, 1, none⟩) hb1 hnb, hB.frozen (p := ⟨b, 1, none⟩) hb]; exact H.f1
  · rw [hk.frozen (p := ⟨b, 2, none⟩) hb1 hnb, hB.frozen (p := ⟨b, 2, none⟩) hb]; exact H.f2
theorem push_done {w W1 w4 w5 w6 : World} {b g n cap : Nat} {S : Nat → Prop} {dn : Bool} {N : Nat} {V V' : List It} {v : Value} {h' : Nat → It × Nat} (H : QR w b S dn N V) (hvb : ∀ g, v.ownBlock = some g → S g ∧ g ≠ b)
    (hB : Below w.heap.size w W1) (hg : W1.grownBy w4 v.ownBlock) (hgb : g ≠ b) (hat : v.ownBlock = some g ∨ g = W1.heap.size) (M : Mid4 w4 b dn N v)
    (h5 : w5 = (w4.setCell ⟨b, 1, none⟩ (.slice (some ⟨g, 0, none⟩) (n + 1) cap)).setCell ⟨b, 2, none⟩ (.int .i64 ((N : Int) + 1)))
    (hK : Keep (fun k => k = g) w5 w6) (h6 : HpR w6 g (n + 1) cap h') (hA : AQ (kI dn) (n + 1) h' (N + 1) V') (hn : n ≤ N) : ∃ S', QR w6 b S' dn (N + 1) V' ∧ Keep S w w6 ∧ ∀ k, S' k → S k ∨ w.heap.size ≤ k := by
  have hb := H.lt b H.sb
  have hb1 : b < W1.heap.size := Nat.lt_of_lt_of_le hb hB.size
  have hb4 : b < w4.heap.size := Nat.lt_of_lt_of_le hb1 hg.size
  have hb5 : b < w5.heap.size := by rw [h5]; simpa using hb4
  have hbg : ¬ b = g := fun e => hgb e.symm
  have hSg : S g ∨ w.heap.size ≤ g := by
    rcases hat with e | e
    · exact Or.inl (hvb g e).1
    · exact Or.inr (by rw [e]; exact hB.size)
  have k5 : Keep S w w5 := by
    rw [h5]
    exact (((Keep.ofBelow (S := S) hB).grown hg (fun k e => Or.inl (hvb k e).1)).set _ _ H.sb).set _ _ H.sb
  have k6 : Keep S w w6 := k5.trans hK (fun k e => by subst e; exact hSg)
  have hb6 : b < w6.heap.size := Nat.lt_of_lt_of_le hb5 hK.size
  refine ⟨fun k => (S k ∨ w.heap.size ≤ k) ∧ k < w6.heap.size, ⟨⟨Or.inl H.sb, hb6⟩, fun k e => e.2, ?_, ?_, ?_, ?_, (show BlkC w5 b from h5 ▸ (M.blk.set _ _ _).set _ _ _).keep hK hbg, .slice (some ⟨g, 0, none⟩) (n + 1) cap, n + 1, h', ?_, Or.inr ⟨g, cap, rfl, h6⟩, fun k e => ?_, hA, by omega⟩, k6, fun k e => e.1⟩
  · rw [hK.cell (p := ⟨b, 0, none⟩) hb5 hbg, h5, World.cell?_setCell_other _ _ _ _ (by simp), World.cell?_setCell_other _ _ _ _ (by simp)]; exact M.c0
  · rw [hK.frozen (p := ⟨b, 1, none⟩) hb5 hbg, h5, World.frozen?_setCell, World.frozen?_setCell]; exact M.f1
  · rw [hK.cell (p := ⟨b, 2, none⟩) hb5 hbg, h5]
    exact World.cell?_setCell_same _ _ _ (by rw [World.cell?_setCell_other _ _ _ _ (by simp)]; exact M.c2)
  · rw [hK.frozen (p := ⟨b, 2, none⟩) hb5 hbg, h5, World.frozen?_setCell, World.frozen?_setCell]; exact M.f2
  · rw [hK.cell (p := ⟨b, 1, none⟩) hb5 hbg, h5, World.cell?_setCell_other _ _ _ _ (by simp)]
    exact World.cell?_setCell_same _ _ _ M.c1
  · simp [Value.ownBlock] at e
    subst e
    exact ⟨⟨hSg, h6.lt⟩, hgb⟩
theorem putN_lt (h : Nat → It × Nat) (n : Nat) (x : It × Nat) : ∀ t, t < n → putN h n x t = h t := fun t ht => if_neg (by omega)
theorem putN_lst (h : Nat → It × Nat) (n : Nat) (x : It × Nat) : lst (putN h n x) (n + 1) = lst h n ++ [x] := by
  rw [lst_succ, lst_same (putN_lt h n x)]
  unfold putN
  rw [if_pos rfl]
theorem HpV.alloc2 {w : World} {v : Value} {n : Nat} {h : Nat → It × Nat} (H : HpV w v n h) (o o' : Obj) : HpV ((w.alloc o).alloc o').drew v n h :=
  H.keep (S := fun _ => False) ((((Keep.refl _ w).alloc o).alloc o').drew) (fun _ _ e => e)

set_option maxRecDepth 100000 in
set_option maxHeartbeats 2000000 in
theorem push_any (b : Nat) (S : Nat → Prop) (dn : Bool) (N : Nat) (V : List It) (x : It) (w : World) (H : QR w b S dn N V) (hN : N ≤ 100000) :
    Calls Try.prog 36 #[.pointer (some ⟨b, 0, none⟩), .agg #[.int .i64 x.1, .int .i64 (xS x.2), .int .i64 (xE x.2)]] w fun e w' => e = .returned (.tuple #[]) ∧ ∃ S', QR w' b S' dn (N + 1) (insR (kI dn) x V) ∧ Keep S w w' ∧ ∀ k, S' k → S k ∨ w.heap.size ≤ k := by
  obtain ⟨v, n, h, c1, hv, hvb, hA, hnN⟩ := H.ex
  have hbw : b < w.heap.size := H.lt b H.sb
  obtain ⟨A, cap, rfl⟩ := hv.form
  have c2 := H.c2
  obtain ⟨x0, x1⟩ := x
  have HB1 : Hid (Below w.heap.size w ((w.alloc (.cells #[.int .i64 x0, .int .i64 (xS x1), .int .i64 (xE x1)] 65)).alloc (.cells #[.int .i64 x0, .int .i64 (xS x1), .int .i64 (xE x1), .int .i64 (N : Int)] 84)).drew) := Lib.hid (((Below.refl _ _).alloc (Nat.le_refl _) _).alloc (by simp) _).drew
  have HM := Lib.hid (fun w4 => push_mid (w4 := w4) H c1 hvb HB1.out)
  have HDN := Lib.hid (fun w4 w5 w6 g cap' V' h' => push_done (w4 := w4) (w5 := w5) (w6 := w6) (g := g) (n := n) (cap := cap') (V' := V') (h' := h') H hvb HB1.out)
  have HV := Lib.hid (hv.alloc2 (.cells #[.int .i64 x0, .int .i64 (xS x1), .int .i64 (xE x1)] 65) (.cells #[.int .i64 x0, .int .i64 (xS x1), .int .i64 (xE x1), .int .i64 (N : Int)] 84))
  have HA := Lib.hid hA
  have HGB : Hid (∀ g, ((Value.slice A n cap).ownBlock = some g ∨ g = ((w.alloc (.cells #[.int .i64 x0, .int .i64 (xS x1), .int .i64 (xE x1)] 65)).alloc (.cells #[.int .i64 x0, .int .i64 (xS x1), .int .i64 (xE x1), .int .i64 (N : Int)] 84)).drew.heap.size) → g ≠ b) := Lib.hid (fun g e => by
    rcases e with e | e
    · exact (hvb g e).2
    · have := HB1.out.size
      omega)
  clear H hv hvb hA
  go_enter Try.func36, Try.ntmps36
  go_wp2_with fail
  go_region_law (first | (refine step_append_ent rfl _ _ rfl (.slice A n cap) n h ((x0, x1), N) _ _ rfl HV.out rfl (by show ((w.alloc _).alloc _).cell? _ = _; rw [show w.heap.size + 1 = (w.alloc (.cells #[.int .i64 x0, .int .i64 (xS x1), .int .i64 (xE x1)] 65)).heap.size by simp, World.cell?_alloc_new]; rfl) (by show ((w.alloc _).alloc _).cell? _ = _; rw [show w.heap.size + 1 = (w.alloc (.cells #[.int .i64 x0, .int .i64 (xS x1), .int .i64 (xE x1)] 65)).heap.size by simp, World.cell?_alloc_new]; rfl) (by show ((w.alloc _).alloc _).cell? _ = _; rw [show w.heap.size + 1 = (w.alloc (.cells #[.int .i64 x0, .int .i64 (xS x1), .int .i64 (xE x1)] 65)).heap.size by simp, World.cell?_alloc_new]; rfl) (by show ((w.alloc _).alloc _).cell? _ = _; rw [show w.heap.size + 1 = (w.alloc (.cells #[.int .i64 x0, .int .i64 (xS x1), .int .i64 (xE x1)] 65)).heap.size by simp, World.cell?_alloc_new]; rfl) (by omega) ?_; intro g cap4 w4 hH4 hg4 hat4; obtain ⟨m0, m1, m2, m3, m4, m5⟩ := HM.out w4 hg4.out) | fail)
  all_goals
    go_wp2_with fail
    obtain ⟨w5, h5⟩ : ∃ w5, (w4.setCell ⟨b, 1, none⟩ (.slice (some ⟨g, 0, none⟩) (n + 1) cap4)).setCell ⟨b, 2, none⟩ (.int .i64 ((N : Int) + 1)) = w5 := ⟨_, rfl⟩
    rw [h5]
    have hgb := HGB.out g hat4.out
    have H5 := Lib.hid h5
    have hH5 : HpR w5 g (n + 1) cap4 (putN h n ((x0, x1), N)) := by
      rw [← h5]
      exact hH4.out.keep (((Keep.refl (fun k => k = b) w4).set _ _ rfl).set _ _ rfl) (fun e => hgb e)
    have c5 : w5.cell? ⟨b, 0, none⟩ = some (.func (.func (lessF dn)) #[] #[]) := by
      rw [← h5, World.cell?_setCell_other _ _ _ _ (by simp), World.cell?_setCell_other _ _ _ _ (by simp)]; exact m0
    have d5 : w5.cell? ⟨b, 1, none⟩ = some (.slice (some ⟨g, 0, none⟩) (n + 1) cap4) := by
      rw [← h5, World.cell?_setCell_other _ _ _ _ (by simp)]; exact World.cell?_setCell_same _ _ _ m1
    have HMM : Hid (Mid4 w4 b dn N (.slice A n cap)) := Lib.hid ⟨m0, m1, m2, m3, m4, m5⟩
    clear h5 m0 m1 m2 m3 m4 m5 c1 c2
    refine (rise_any dn b g (n + 1) cap4 _ w5 c5 d5 hH5 (by omega) (by omega) (Ne.symm hgb) (Up.start HA.out.heap (putN_lt h n _))).mono ?_
    rintro e w6 ⟨rfl, h', q1, q2, q3, q4⟩
    clear c5 d5 hH5
    go_wp2_with fail
    go_end0
    exact ⟨rfl, HDN.out w4 w5 w6 g cap4 _ h' hg4.out hgb hat4.out HMM.out H5.out.symm q4 q1.out (HA.out.push (x0, x1) q2.out (by rw [← putN_lst]; exact q3.out)) hnN⟩
end Go.Proofs.Ythomklpaafnjhaa
