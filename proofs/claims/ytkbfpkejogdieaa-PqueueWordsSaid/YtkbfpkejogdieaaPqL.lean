/-
  The contracts of the specification's Same (at equal lists) and Pop. Condition: rows of at most 1000 items.
-/
import Derived.Test.YtkbfpkejogdieaaPqK
namespace Go.Proofs.Ytkbfpkejogdieaa
open Go.RowKit
set_option linter.unusedVariables false

set_option maxRecDepth 100000 in
set_option maxHeartbeats 1000000 in
theorem same_any (l m : List It) (hlm : l = m) (A B : Option Addr) (n c d : Nat) (w : World) (hn : l.length = n) (hl : n ≤ 1000) (h : ItsR w A l) (h' : ItsR w B m) :
    Calls Try.prog 21 #[.slice A n c, .slice B n d] w fun e w' => e = .returned (.bool true) ∧ Below w.heap.size w w' := by
  have HN := Lib.hid hn
  have H := Lib.hid h
  have H2 := Lib.hid h'
  have HE := Lib.hid hlm
  clear hn h h' hlm
  go_enter Try.func21, Try.ntmps21
  go_wp2_with fail
  go_loopw [5] (fun i wr => ∃ k : Nat, k ≤ n ∧ i = .int .i64 (k : Int) ∧ Below w.heap.size w wr) (fun i _ => n - (intOf i).toNat)
  case atStart => exact ⟨0, by omega, rfl, Below.refl _ _⟩
  case round =>
    obtain ⟨k, hk, rfl, hB⟩ := hrel
    by_cases hlt : k < n
    · obtain ⟨b, o, rfl, hbl, hc⟩ := (H.out.below hB) (by rw [HN.out]; omega)
      obtain ⟨b', o', rfl, hbl', hc'⟩ := (H2.out.below hB) (by rw [← HE.out, HN.out]; omega)
      obtain ⟨c0, c1⟩ := hc k (by rw [HN.out]; omega)
      obtain ⟨e0, e1⟩ := hc' k (by rw [← HE.out, HN.out]; omega)
      rw [← HE.out] at e0 e1
      obtain ⟨⟨x, y⟩, hxy⟩ : ∃ x, l.getD k (0, 0) = x := ⟨_, rfl⟩
      rw [hxy] at c0 c1 e0 e1
      simp only at c0 c1 e0 e1
      clear hxy hc hc'
      have hltz : (k : Int) < (n : Int) := by omega
      go_wp2_with fail
      go_quiet (fail)
      go_wp2
      go_roundw
      case rel => exact ⟨k + 1, by omega, by go_num, Below.step hB (below_drewN' _ _)⟩
      case measure => simp only [intOf]; omega
    · have hnlt : ¬ (k : Int) < (n : Int) := by omega
      go_wp2
      go_ret
      exact ⟨rfl, hB⟩

theorem ItsR.take {w : World} {A : Option Addr} {l : List It} (h : ItsR w A l) (f : Nat) : ItsR w A (l.take f) := fun hl => by
  have hl2 := hl
  rw [List.length_take] at hl2
  obtain ⟨b, o, rfl, hlt, hc⟩ := h (by omega)
  refine ⟨b, o, rfl, hlt, fun k hk => ?_⟩
  rw [List.length_take] at hk
  have e : (l.take f).getD k (0, 0) = l.getD k (0, 0) := by simp [List.getD, List.getElem?_take_of_lt (show k < f by omega)]
  rw [e]
  exact hc k (by omega)
theorem ItsR.drop {w : World} {b o : Nat} {l : List It} (h : ItsR w (some ⟨b, o, none⟩) l) (i : Nat) : ItsR w (some ⟨b, o + i * 2, none⟩) (l.drop i) := fun hl => by
  rw [List.length_drop] at hl
  obtain ⟨b', o', e, hlt, hc⟩ := h (by omega)
  injection e with e
  injection e with e1 e2 e3
  subst e1 e2
  refine ⟨b, o + i * 2, rfl, hlt, fun k hk => ?_⟩
  rw [List.length_drop] at hk
  have e : (l.drop i).getD k (0, 0) = l.getD (i + k) (0, 0) := by simp [List.getD]
  rw [e]
  have := hc (i + k) (by omega)
  rw [show o + i * 2 + k * 2 = o + (i + k) * 2 by omega]
  exact this
theorem results_tct {fn : Func} {t p u : Tmp} {ty : TypeId} (h : fn.results = #[.tmp t, .cell p ty, .tmp u]) (tmps : Array Value) (P : Program) (w : World) :
    (results fn tmps).run P w =
      ((asAddr (tmps.getD p undef)).run P w).andThen fun a w₁ => ((loadVar ty a).run P w₁).andThen fun v w₂ => .ok (.tuple #[tmps.getD t undef, v, tmps.getD u undef]) w₂ := by
  simp only [results, h]
  simp [Sem.run_bind, Result.andThen]

/-- Where the specification's Pop finds the first value. -/
def fI (dn : Bool) (l : List It) (n : Nat) : Nat := fmi (kI dn) (fun t => l.getD t (0, 0)) n
theorem fI_succ (dn : Bool) (l : List It) (n : Nat) : fI dn l (n + 1) = if kI dn (l.getD n (0, 0)) < kI dn (l.getD (fI dn l n) (0, 0)) then n else fI dn l n := rfl

theorem refBefore_q (x y : It) (dn : Bool) (w : World) :
    Calls Try.prog 30 #[.agg #[.int .i64 x.1, .int .i64 x.2], .agg #[.int .i64 y.1, .int .i64 y.2], .bool dn] w fun e w' => e = .returned (.bool (decide (kI dn x < kI dn y))) ∧ ∃ q os, w' = Sort.grow (w.drewN q) os :=
  (refBefore_any x y dn w).mono fun e w' ⟨h, os, h2⟩ => ⟨h, 0, os, h2⟩

theorem refPop_nil (dn : Bool) (c : Nat) (A : Option Addr) (w : World) :
    Calls Try.prog 18 #[.slice A 0 c, .bool dn] w fun e w' => e = .returned (.tuple #[.slice none 0 0, .agg #[.int .i64 0, .int .i64 0], .bool false]) ∧ Below w.heap.size w w' := by
  go_enter Try.func18, Try.ntmps18
  go_wp2_with fail
  try simp only [Exit.inBlock, Exit.then]
  refine bodyPost_ret (v := .tuple #[.slice none 0 0, .agg #[.int .i64 0, .int .i64 0], .bool false]) ?_ rfl ⟨rfl, ?_⟩
  · rw [results_tct rfl]; go_simp
  · exact (Below.refl _ _).alloc (Nat.le_refl _) _
set_option maxRecDepth 100000 in
set_option maxHeartbeats 2000000 in
theorem refPop_any (dn : Bool) (l : List It) (n c : Nat) (A : Option Addr) (w : World) (hn : l.length = n) (hl : n ≤ 1000) (h1 : 1 ≤ n) (hc : n ≤ c) (h : ItsR w A l) :
    Calls Try.prog 18 #[.slice A n c, .bool dn] w fun e w' => ∃ B d, e = .returned (.tuple #[.slice B (n - 1) d, .agg #[.int .i64 (l.getD (fI dn l n) (0, 0)).1, .int .i64 (l.getD (fI dn l n) (0, 0)).2], .bool true]) ∧ n - 1 ≤ d ∧ ItsR w' B (l.eraseIdx (fI dn l n)) ∧ Below w.heap.size w w' ∧ ∀ a, B = some a → w.heap.size ≤ a.block := by
  obtain ⟨b, o, rfl, hbl, hcell⟩ := h (by omega)
  have HN := Lib.hid hn
  have H := Lib.hid h
  have HC := Lib.hid hcell
  have hmix : Try.prog.follows .mixedOrders = true := by kernel_rfl
  have hnz : ¬ (n : Int) = 0 := by omega
  have hnb : ((n : Int) == 0) = false := beq_eq_false_iff_ne.2 hnz
  clear hn h hcell
  go_enter Try.func18, Try.ntmps18
  go_wp2_with fail
  have hB0 : Below w.heap.size w (w.alloc (.cells #[.int .i64 0, .int .i64 0] 27)) := (Below.refl _ _).alloc (Nat.le_refl _) _
  have hres0 := ResI.made w 27
  go_loopw [7, 8] (fun vf vi wr => ∃ k : Nat, 1 ≤ k ∧ k ≤ n ∧ vi = .int .i64 (k : Int) ∧ vf = .int .i64 (fI dn l k : Int) ∧ Hid (ResI wr w.heap.size) ∧ Below w.heap.size w wr) (fun _ vi _ => n - (intOf vi).toNat)
  case atStart => exact ⟨1, by omega, by omega, rfl, by unfold fI; rw [fmi_one]; rfl, Lib.hid hres0, hB0⟩
  case round =>
    obtain ⟨k, hk1, hk, rfl, rfl, HRS, hB⟩ := hrel
    clear hB0 hres0
    have hfk : fI dn l k < k := fmi_lt _ k (by omega)
    by_cases hlt : k < n
    · have hltz : (k : Int) < (n : Int) := by omega
      obtain ⟨f, hf⟩ : ∃ f, fI dn l k = f := ⟨_, rfl⟩
      have hs := fI_succ dn l k
      rw [hf] at hfk hs ⊢
      have hfz : (f : Int) < (n : Int) := by omega
      have hbr : b < wr.heap.size := Nat.lt_of_lt_of_le hbl hB.size
      obtain ⟨c0, c1⟩ := (by exact HC.out k (by rw [HN.out]; omega) : _ ∧ _)
      obtain ⟨e0, e1⟩ := (by exact HC.out f (by rw [HN.out]; omega) : _ ∧ _)
      rw [← hB.cell (p := ⟨b, o + k * 2, none⟩) hbl] at c0
      rw [← hB.cell (p := ⟨b, o + k * 2 + 1, none⟩) hbl] at c1
      rw [← hB.cell (p := ⟨b, o + f * 2, none⟩) hbl] at e0
      rw [← hB.cell (p := ⟨b, o + f * 2 + 1, none⟩) hbl] at e1
      have HBF := Lib.hid (fun W => refBefore_q (l.getD k (0, 0)) (l.getD f (0, 0)) dn W)
      obtain ⟨x, hx⟩ : ∃ x, l.getD k (0, 0) = x := ⟨_, rfl⟩
      obtain ⟨y, hy⟩ : ∃ x, l.getD f (0, 0) = x := ⟨_, rfl⟩
      rw [hx] at c0 c1 HBF hs
      rw [hy] at e0 e1 HBF hs
      have g0 := cell_grown (w := wr) (a := ⟨b, o + k * 2, none⟩) hbr c0
      have g1 := cell_grown (w := wr) (a := ⟨b, o + k * 2 + 1, none⟩) hbr c1
      have g2 := cell_grown (w := wr) (a := ⟨b, o + f * 2, none⟩) hbr e0
      have g3 := cell_grown (w := wr) (a := ⟨b, o + f * 2 + 1, none⟩) hbr e1
      have HF := Lib.hid hf
      by_cases hq : kI dn x < kI dn y
      · rw [if_pos hq] at hs
        rw [decide_eq_true hq] at HBF
        have HSS := Lib.hid hs
        clear hx hy c0 c1 e0 e1 hs hf hq
        go_wp2_with fail
        go_quiet_grown (first | (go_at_call 30; refine Calls.grown_of (HBF.out _)))
        go_wp2_with fail
        go_roundw
        case rel => exact ⟨k + 1, by omega, by omega, by go_num, by rw [HSS.out], Lib.hid (HRS.out.keep (S := fun _ => False) (Keep.ofBelow (below_grow _ _ _)) (fun e => e)), Below.step hB (below_grow _ _ _)⟩
        case measure => simp only [intOf]; omega
      · rw [if_neg hq] at hs
        rw [decide_eq_false hq] at HBF
        have HSS := Lib.hid hs
        clear hx hy c0 c1 e0 e1 hs hf hq
        go_wp2_with fail
        go_quiet_grown (first | (go_at_call 30; refine Calls.grown_of (HBF.out _)))
        go_wp2_with fail
        go_roundw
        case rel => exact ⟨k + 1, by omega, by omega, by go_num, by rw [HSS.out], Lib.hid (HRS.out.keep (S := fun _ => False) (Keep.ofBelow (below_grow _ _ _)) (fun e => e)), Below.step hB (below_grow _ _ _)⟩
        case measure => simp only [intOf]; omega
    · obtain rfl : k = n := by omega
      have hnlt : ¬ (k : Int) < (k : Int) := by omega
      obtain ⟨f, hf⟩ : ∃ f, fI dn l k = f := ⟨_, rfl⟩
      rw [hf] at hfk ⊢
      have HF := Lib.hid hf
      clear hf
      have HTK : Hid (ItsR wr (some ⟨b, o, none⟩) (l.take f)) := Lib.hid ((H.out.below hB).take f)
      have HDR : Hid (ItsR wr (some ⟨b, o + (f + 1) * 2, none⟩) (l.drop (f + 1))) := Lib.hid ((H.out.below hB).drop (f + 1))
      have hfl : (l.take f).length = f := by rw [List.length_take, HN.out]; omega
      have hdl : (l.drop (f + 1)).length = k - (f + 1) := by rw [List.length_drop, HN.out]
      have HFL := Lib.hid (And.intro hfl hdl)
      have hfz : (f : Int) < (k : Int) := by omega
      have hfc : (f : Int) ≤ (c : Int) := by omega
      have hfk2 : (f : Int) + 1 ≤ (k : Int) := by omega
      have hw0 : w.heap.size ≤ wr.heap.size := hB.size
      clear hfl hdl
      go_wp2_with (at_builtin; refine wpList_append_its rfl _ _ rfl w.heap.size (.slice none 0 0) [] (l.take f) f HFL.out.1 rfl (OwnT.nil _ _) (some ⟨b, o, none⟩) _ rfl HTK.out (by simp) (by omega) hw0 ?_)
      intro v1 w1 hO1 hg1 hat1
      obtain ⟨B1, d1, hv1, _, _, _⟩ := hO1.out.form
      rw [HFL.out.1] at hv1
      subst hv1
      have hb1 : Below wr.heap.size wr w1 := by
        have h3 := (Below.refl wr.heap.size wr).grown hg1.out (Nat.le_refl _) (fun k hk => by cases hk)
        exact h3
      have hBw1 : Below w.heap.size w w1 := Below.step hB hb1
      have HDR1 := Lib.hid (HDR.out.below hb1)
      have hO1w : w.heap.size ≤ w1.heap.size := hBw1.size
      have HB1 := Lib.hid hb1
      clear hb1
      have HDI : Hid (ItsR w1 (if c = f + 1 then some ⟨b, o, none⟩ else some ⟨b, o + (f + 1) * 2, none⟩) (l.drop (f + 1))) := Lib.hid (by
        split
        · exact fun hl9 => by rw [HFL.out.2] at hl9; omega
        · exact HDR1.out)
      go_wp2_with (at_builtin; refine wpList_append_its rfl _ _ rfl w.heap.size (.slice B1 f d1) (l.take f) (l.drop (f + 1)) _ HFL.out.2 rfl hO1.out _ _ rfl HDI.out (by rw [HFL.out.1]; omega) (by omega) hO1w ?_)
      all_goals
        intro v2 w2 hO2 hg2 hat2
        obtain ⟨B2, d2, hv2, hd2, hr2, hbk⟩ := hO2.out.form
        have hle : (l.take f ++ l.drop (f + 1)).length = k - 1 := by rw [List.length_append, HFL.out.1, HFL.out.2]; omega
        rw [hle] at hv2 hd2
        subst hv2
        have hb2 : Below w.heap.size w1 w2 := grown_below hO1.out hg2.out hO1w
        have hBw2 : Below w.heap.size w w2 := hBw1.trans hb2
        have hrs1 : ResI w1 w.heap.size := HRS.out.keep (Keep.ofBelow (S := fun _ => False) HB1.out) (fun e => e)
        have hg1n : ∀ g, (Value.slice B1 f d1).ownBlock = some g → g ≠ w.heap.size := fun g e e2 => by
          rcases hat1.out with h3 | h3
          · rw [e] at h3; cases h3
          · rw [e] at h3
            injection h3 with h3
            have := World.block_lt_of_cell? _ _ (HRS.out.c0.choose_spec)
            have e3 : w.heap.size < wr.heap.size := this
            omega
        obtain ⟨⟨u0, r0⟩, ⟨u1, r1⟩, g0, g1⟩ := hrs1.keep (Keep.ofGrown (S := fun q => (Value.slice B1 f d1).ownBlock = some q) hg2.out (fun k e => e)) (fun e => hg1n _ e rfl)
        obtain ⟨c0, c1⟩ := (by exact HC.out f (by rw [HN.out]; omega) : _ ∧ _)
        rw [← hBw2.cell (p := ⟨b, o + f * 2, none⟩) hbl] at c0
        rw [← hBw2.cell (p := ⟨b, o + f * 2 + 1, none⟩) hbl] at c1
        have HF2 : Hid (k - 1 ≤ d2 ∧ ItsR w2 B2 (l.eraseIdx f) ∧ Below w.heap.size w w2 ∧ (∀ a, B2 = some a → w.heap.size ≤ a.block) ∧ ∀ a, B2 = some a → a.block ≠ w.heap.size) := Lib.hid (by
          refine ⟨hd2, ?_, hBw2, fun a ha => (hO2.out.ge _ (hbk a ha)).1, fun a ha e => ?_⟩
          · rw [List.eraseIdx_eq_take_drop_succ]; exact hr2
          · have h3 := hbk a ha
            rcases hat2.out with h4 | h4
            · rw [h3] at h4; exact hg1n _ h4.symm e
            · rw [h3] at h4
              injection h4 with h4
              have := World.block_lt_of_cell? _ _ (hrs1.c0.choose_spec)
              have e3 : w.heap.size < w1.heap.size := this
              omega)
        obtain ⟨x, hx⟩ : ∃ x, l.getD f (0, 0) = x := ⟨_, rfl⟩
        rw [hx] at c0 c1
        have HX := Lib.hid hx
        obtain ⟨x0, x1⟩ := x
        simp only at c0 c1
        clear hr2 hbk hle hg1n hrs1 hBw2 hb2 hx
        go_wp2_with fail
        go_region
        all_goals
          go_wp2_with fail
          try simp only [Exit.inBlock, Exit.then]
          refine bodyPost_ret (v := .tuple #[.slice B2 (k - 1) d2, .agg #[.int .i64 x0, .int .i64 x1], .bool true]) ?_ rfl ⟨B2, d2, by rw [HF.out, HX.out], HF2.out.1, ?_, ?_, HF2.out.2.2.2.1⟩
          · rw [results_tct rfl]; go_simp
          · rw [HF.out]; exact HF2.out.2.1.keep (S := fun k => k = w.heap.size) (((Keep.refl (fun k => k = w.heap.size) w2).set _ _ rfl).set _ _ rfl).drew (fun a ha e => HF2.out.2.2.2.2 a ha e)
          · exact ((HF2.out.2.2.1.setCell (p := ⟨w.heap.size, 0, none⟩) (Nat.le_refl _) _).setCell (p := ⟨w.heap.size, 1, none⟩) (Nat.le_refl _) _).drew
end Go.Proofs.Ytkbfpkejogdieaa
