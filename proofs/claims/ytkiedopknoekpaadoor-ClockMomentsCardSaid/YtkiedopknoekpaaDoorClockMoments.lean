/-
  P2.3, P2.5: ClockMoments: for every two lists of windows (of at most 40 each; else the chapter's examples alone) and every integer, unions, common parts and differences contain exactly the moments that they should, lists with a window that is not valid are refused, and the chapter's examples hold; the tied card. Conditions: the row's own (Go's own tables and error values hold what the program's text lays when the call begins).
-/
import Derived.Test.YtkiedopknoekpaaDoorClkP
namespace Go.Proofs.YtkiedopknoekpaaDoor.clockMoments
open Go.ChangeShapes Go.WideShapes Go.ChangeAt Go.RowKit
set_option linter.unusedVariables false

set_option maxRecDepth 100000 in
set_option maxHeartbeats 4000000 in
theorem walk (w : World) (f : Facts w) (A0 : Option Addr) (l0 : List Win) (c0 : Nat) (hi0 : WsR w A0 l0) (hw0 : WideW l0) (hl0 : l0.length ≤ 9223372036854775807) (A1 : Option Addr) (l1 : List Win) (c1 : Nat) (hi1 : WsR w A1 l1) (hw1 : WideW l1) (hl1 : l1.length ≤ 9223372036854775807) (a2 : Int) (lo2 : -9223372036854775808 ≤ a2) (hi2 : a2 ≤ 9223372036854775807) :
    Calls Tryd.prog 6 #[.slice A0 l0.length c0, .slice A1 l1.length c1, .int .i64 a2] w fun e w' => e = .returned (.bool true) ∧ Below w.heap.size w w' := by
  have F := Lib.hid f
  have K := few_any l0 l1 A0 A1 c0 c1 w hl0 hl1
  by_cases hfew : l0.length ≤ 40 ∧ l1.length ≤ 40
  · obtain ⟨q0, q1⟩ := hfew
    have e : (decide (l0.length ≤ 40) && decide (l1.length ≤ 40)) = true := by simp [q0, q1]
    rw [e] at K
    have HK := Lib.hid K
    have C1 := Lib.hid (fun w' (h : WsR w' A0 l0) (h' : WsR w' A1 l1) => common_any l0 l1 A0 A1 c0 c1 w' (by omega) (by omega) hw0 hw1 h h')
    have M1 := Lib.hid (fun w' (h : WsR w' A0 l0) (h' : WsR w' A1 l1) => minus_any l0 l1 A0 A1 c0 c1 w' (by omega) (by omega) hw0 hw1 h h')
    have E0 := Lib.hid (fun w' (h : WsR w' A0 l0) => check_any l0 A0 c0 w' (by omega) hw0 h)
    have E1 := Lib.hid (fun w' (h : WsR w' A1 l1) => check_any l1 A1 c1 w' (by omega) hw1 h)
    have I0 := Lib.hid hi0
    have I1 := Lib.hid hi1
    by_cases hv0 : allB l0 = true
    · by_cases hv1 : allB l1 = true
      · have ec : commonS l0 l1 = (com l0 l1, 0) := by simp [commonS, hv0, hv1]
        have em : minusS l0 l1 = (mns l0 l1, 0) := by simp [minusS, hv0, hv1]
        have eu : unionS l0 = (nf l0, 0) := by simp [unionS, hv0]
        have U1 := Lib.hid (fun w' (h : WsR w' A0 l0) => union_any l0 A0 c0 w' (by omega) hw0 h)
        rw [ec] at C1
        rw [em] at M1
        rw [eu] at U1
        rw [hv0, if_pos rfl] at E0
        rw [hv1, if_pos rfl] at E1
        have zu := nf_len l0
        have zc := com_len l0 l1
        have zm := mns_len l0 l1
        have n1 := nf_nf hv0
        have n2 := com_nf hv0 hv1
        have n3 := mns_nf hv0 hv1
        have T0 := Lib.hid (fun w' (h : WsR w' A0 l0) => has_any l0 a2 A0 c0 w' (by omega) lo2 hi2 hw0 h)
        have T1 := Lib.hid (fun w' (h : WsR w' A1 l1) => has_any l1 a2 A1 c1 w' (by omega) lo2 hi2 hw1 h)
        have TU := Lib.hid (fun w' A c (h : WsR w' A (nf l0)) => has_any (nf l0) a2 A c w' (by omega) lo2 hi2 (wide_of_all (allB_of_nf n1.1)) h)
        have TC := Lib.hid (fun w' A c (h : WsR w' A (com l0 l1)) => has_any (com l0 l1) a2 A c w' (by omega) lo2 hi2 (wide_of_all (allB_of_nf n2.1)) h)
        have TM := Lib.hid (fun w' A c (h : WsR w' A (mns l0 l1)) => has_any (mns l0 l1) a2 A c w' (by omega) lo2 hi2 (wide_of_all (allB_of_nf n3.1)) h)
        have r1 : hasB (nf l0) a2 = hasB l0 a2 := Bool.eq_iff_iff.2 (n1.2 a2)
        have r2 : hasB (com l0 l1) a2 = (hasB l0 a2 && hasB l1 a2) := Bool.eq_iff_iff.2 ((n2.2 a2).trans (by simp))
        have r3 : hasB (mns l0 l1) a2 = (hasB l0 a2 && !hasB l1 a2) := Bool.eq_iff_iff.2 ((n3.2 a2).trans (by simp))
        rw [r1] at TU
        rw [r2] at TC
        rw [r3] at TM
        generalize hasB l0 a2 = b0 at *
        generalize hasB l1 a2 = b1 at *
        generalize nf l0 = u at *
        generalize com l0 l1 = v at *
        generalize mns l0 l1 = m at *
        clear K e f hi0 hi1 hw0 hw1 hl0 hl1 q0 q1 ec em eu hv0 hv1 n1 n2 n3 r1 r2 r3 zu zc zm
        generalize l0.length = n0 at *
        generalize l1.length = n1 at *
        cases b0 <;> cases b1
        all_goals
          go_enter Tryd.func6, Tryd.ntmps6
          go_wp2_with fail
          refine HK.out.mono ?_
          rintro e w' ⟨rfl, rfl⟩
          go_wp2_with fail
          refine (C1.out _ I0.out I1.out).mono ?_
          rintro e w1 ⟨P1, k1, rfl, h1, hb1⟩
          have X1 : Hid (WsR w1 P1 v) := Lib.hid h1
          have J0 := Lib.hid (I0.out.below hb1)
          have J1 := Lib.hid (I1.out.below hb1)
          clear h1 I0 I1 C1
          go_wp2_with fail
          refine (M1.out _ J0.out J1.out).mono ?_
          rintro e w2 ⟨P2, k2, rfl, h2, hb2⟩
          have X2 : Hid (WsR w2 P2 m) := Lib.hid h2
          have X1 := Lib.hid (X1.out.below hb2)
          have J0 := Lib.hid (J0.out.below hb2)
          have J1 := Lib.hid (J1.out.below hb2)
          have hb2 := Below.step hb1 hb2
          clear h2 M1
          go_wp2_with fail
          refine (E0.out _ J0.out).mono ?_
          rintro e w3 ⟨rfl, hb3⟩
          have X1 := Lib.hid (X1.out.below hb3)
          have X2 := Lib.hid (X2.out.below hb3)
          have J0 := Lib.hid (J0.out.below hb3)
          have J1 := Lib.hid (J1.out.below hb3)
          have hb3 := Below.step hb2 hb3
          clear E0
          go_wp2_with fail
          refine (E1.out _ J1.out).mono ?_
          rintro e w4 ⟨rfl, hb4⟩
          have X1 := Lib.hid (X1.out.below hb4)
          have X2 := Lib.hid (X2.out.below hb4)
          have J0 := Lib.hid (J0.out.below hb4)
          have J1 := Lib.hid (J1.out.below hb4)
          have hb4 := Below.step hb3 hb4
          clear E1
          go_wp2_with fail
          refine (U1.out _ J0.out).mono ?_
          rintro e w5 ⟨P5, k5, rfl, h5, hb5⟩
          have X5 : Hid (WsR w5 P5 u) := Lib.hid h5
          have X1 := Lib.hid (X1.out.below hb5)
          have X2 := Lib.hid (X2.out.below hb5)
          have J0 := Lib.hid (J0.out.below hb5)
          have J1 := Lib.hid (J1.out.below hb5)
          have hb5 := Below.step hb4 hb5
          clear h5 U1
          go_wp2_with fail
          refine (T0.out _ J0.out).mono ?_
          rintro e w' ⟨rfl, rfl⟩
          go_wp2_with fail
          refine (T1.out _ J1.out).mono ?_
          rintro e w' ⟨rfl, rfl⟩
          go_wp2_with fail
          refine (TU.out _ _ _ X5.out).mono ?_
          rintro e w' ⟨rfl, rfl⟩
          go_wp2_with fail
          refine (TC.out _ _ _ X1.out).mono ?_
          rintro e w' ⟨rfl, rfl⟩
          go_wp2_with fail
          refine (TM.out _ _ _ X2.out).mono ?_
          rintro e w' ⟨rfl, rfl⟩
          go_wp2_with fail
          refine (awake_any _ (F.out.below hb5)).mono ?_
          rintro e w6 ⟨rfl, hb6⟩
          go_wp2_with fail
          go_ret
          exact ⟨rfl, Below.step hb5 hb6⟩
      · have hv1' : allB l1 = false := by simpa using hv1
        have ec : commonS l0 l1 = ([], 1) := by simp [commonS, hv1']
        have em : minusS l0 l1 = ([], 1) := by simp [minusS, hv1']
        rw [ec] at C1
        rw [em] at M1
        rw [hv0, if_pos rfl] at E0
        rw [hv1', if_neg (by decide)] at E1
        clear K e f hi0 hi1 hw0 hw1 hl0 hl1 q0 q1 ec em hv0 hv1 hv1'
        generalize l0.length = n0 at *
        generalize l1.length = n1 at *
        go_enter Tryd.func6, Tryd.ntmps6
        go_wp2_with fail
        refine HK.out.mono ?_
        rintro e w' ⟨rfl, rfl⟩
        go_wp2_with fail
        refine (C1.out _ I0.out I1.out).mono ?_
        rintro e w1 ⟨P1, k1, rfl, h1, hb1⟩
        have J0 := Lib.hid (I0.out.below hb1)
        have J1 := Lib.hid (I1.out.below hb1)
        clear h1 I0 I1 C1
        go_wp2_with fail
        refine (M1.out _ J0.out J1.out).mono ?_
        rintro e w2 ⟨P2, k2, rfl, h2, hb2⟩
        have J0 := Lib.hid (J0.out.below hb2)
        have J1 := Lib.hid (J1.out.below hb2)
        have hb2 := Below.step hb1 hb2
        clear h2 M1
        go_wp2_with fail
        refine (E0.out _ J0.out).mono ?_
        rintro e w3 ⟨rfl, hb3⟩
        have J1 := Lib.hid (J1.out.below hb3)
        have hb3 := Below.step hb2 hb3
        clear E0
        go_wp2_with fail
        refine (E1.out _ J1.out).mono ?_
        rintro e w4 ⟨rfl, hb4⟩
        have hb4 := Below.step hb3 hb4
        clear E1
        go_wp2_with fail
        refine (awake_any _ (F.out.below hb4)).mono ?_
        rintro e w6 ⟨rfl, hb6⟩
        go_wp2_with fail
        go_ret
        exact ⟨rfl, Below.step hb4 hb6⟩
    · have hv0' : allB l0 = false := by simpa using hv0
      have ec : commonS l0 l1 = ([], 1) := by simp [commonS, hv0']
      have em : minusS l0 l1 = ([], 1) := by simp [minusS, hv0']
      rw [ec] at C1
      rw [em] at M1
      rw [hv0', if_neg (by decide)] at E0
      clear K e f hi0 hi1 hw0 hw1 hl0 hl1 q0 q1 ec em hv0 hv0' E1
      generalize l0.length = n0 at *
      generalize l1.length = n1 at *
      go_enter Tryd.func6, Tryd.ntmps6
      go_wp2_with fail
      refine HK.out.mono ?_
      rintro e w' ⟨rfl, rfl⟩
      go_wp2_with fail
      refine (C1.out _ I0.out I1.out).mono ?_
      rintro e w1 ⟨P1, k1, rfl, h1, hb1⟩
      have J0 := Lib.hid (I0.out.below hb1)
      have J1 := Lib.hid (I1.out.below hb1)
      clear h1 I0 I1 C1
      go_wp2_with fail
      refine (M1.out _ J0.out J1.out).mono ?_
      rintro e w2 ⟨P2, k2, rfl, h2, hb2⟩
      have J0 := Lib.hid (J0.out.below hb2)
      have hb2 := Below.step hb1 hb2
      clear h2 M1 J1
      go_wp2_with fail
      refine (E0.out _ J0.out).mono ?_
      rintro e w3 ⟨rfl, hb3⟩
      have hb3 := Below.step hb2 hb3
      clear E0
      go_wp2_with fail
      refine (awake_any _ (F.out.below hb3)).mono ?_
      rintro e w6 ⟨rfl, hb6⟩
      go_wp2_with fail
      go_ret
      exact ⟨rfl, Below.step hb3 hb6⟩
  · have e : (decide (l0.length ≤ 40) && decide (l1.length ≤ 40)) = false := by
      simp only [Bool.and_eq_false_iff, decide_eq_false_iff_not]
      omega
    rw [e] at K
    have HK := Lib.hid K
    clear K e f hi0 hi1 hw0 hw1 hl0 hl1 hfew
    generalize l0.length = n0 at *
    generalize l1.length = n1 at *
    go_enter Tryd.func6, Tryd.ntmps6
    go_wp2_with fail
    refine HK.out.mono ?_
    rintro e w' ⟨rfl, rfl⟩
    go_wp2_with fail
    refine (awake_any _ F.out).mono ?_
    rintro e w12 ⟨rfl, hb12⟩
    go_wp2_with fail
    go_ret
    exact ⟨rfl, hb12⟩

set_option maxRecDepth 100000 in
theorem lifted (os : Os) (started : os.Started) (H : Type) (enc : TypeId × Value → H) (F : Stop.Interp) :
    ReturnsInHanded {} Tryd.checked os 6 .any ((OpenSpec.ofChange Rows.clockMomentsSpec).preRow enc Tryd.prog Tryd.f6 Rows.clockMomentsRow.domain false Rows.clockMomentsRow.laid) (((OpenSpec.ofChange Rows.clockMomentsSpec).at F).post enc Tryd.prog Tryd.f6 false true false false) := by
  refine returnsInHanded_of_row (C := Tryd.checked) (s := OpenSpec.ofChange Rows.clockMomentsSpec) own started (by kernel_rfl) Tryd.func6
    (ChangeSpec.witness_shaped (enc := enc) (C := Tryd.checked) (os := os) (X := fun w _ => laidMetH Tryd.prog Rows.clockMomentsRow.laid w) false (World.laidAll Tryd.prog os Rows.clockMomentsRow.laid) #[.slice none 0 0, .slice none 0 0, .int .i64 0] 8 (World.laidAll_os _ _ _)
      (World.shaped_of_ZipB (by kernel_rfl) (by kernel_rfl)) (by kernel_rfl) (by kernel_rfl) (by kernel_rfl)
      (by rw [MakeChecks.laidMetH_plain _ _ _ (by kernel_rfl)]; exact laidMet_laidAll _ (by kernel_rfl) (by kernel_rfl))) ?_
  intro W base args ds gs before hval0 hW _ _ _ hL hsh _
  have hval : ∀ (j : Nat) t v, Tryd.f6.params[j]? = some t → args[j]? = some v → Value.okWide Tryd.prog W .any base t v := hval0
  have hW' := hW
  obtain ⟨p, q, hA0, hV, rfl, hfz, hnd⟩ := hW
  have hA : DataW.TrodAll enc Tryd.prog W 0 (fun _ => true) true Tryd.f6.params.toList args.toList ds p := hA0
  rw [Tryd.params6] at hA hval
  obtain ⟨v0, vs0, d0, ds0, p0, q0, hargs, rfl, rfl, h0, r0⟩ := trodAll_cons hA
  obtain ⟨v1, vs1, d1, ds1, p1, q1, rfl, rfl, rfl, h1, r1⟩ := trodAll_cons r0
  obtain ⟨v2, vs2, d2, ds2, p2, q2, rfl, rfl, rfl, h2, r2⟩ := trodAll_cons r1
  obtain ⟨rfl, rfl, rfl⟩ := trodAll_nil r2
  obtain rfl : args = #[v0, v1, v2] := by cases args; simp_all
  obtain ⟨rfl, rfl⟩ := trodVars_none hV
  obtain ⟨A0, l0, c0, rfl, hi0, hw0, hl0⟩ := wins_open (hval 0 30 v0 rfl rfl) h0
  obtain ⟨A1, l1, c1, rfl, hi1, hw1, hl1⟩ := wins_open (hval 1 30 v1 rfl rfl) h1
  obtain ⟨a2, rfl, rfl, rfl, w2⟩ := open_int Tryd.underlying3 (hval 2 3 v2 rfl rfl) h2
  have bd2 := i64_bd w2
  clear hA0 hval0
  simp only [List.append_nil] at hW'
  have hlt0 : ∀ x ∈ p0, x.block < W.heap.size := fun x hx => by simpa using hW'.lt x (by simp [hx])
  have hargs0 : ∀ (W' : World), Below W.heap.size W W' → DataW.Trod enc Tryd.prog W' 0 (fun b => decide (b < W.heap.size)) true 30 (.slice A0 l0.length c0) d0 p0 := fun W' hn => Below.trod laidOut (by kernel_rfl) (of_decide_eq_true (by kernel_rfl)) h0 hn hlt0
  have hlt1 : ∀ x ∈ p1, x.block < W.heap.size := fun x hx => by simpa using hW'.lt x (by simp [hx])
  have hargs1 : ∀ (W' : World), Below W.heap.size W W' → DataW.Trod enc Tryd.prog W' 0 (fun b => decide (b < W.heap.size)) true 30 (.slice A1 l1.length c1) d1 p1 := fun W' hn => Below.trod laidOut (by kernel_rfl) (of_decide_eq_true (by kernel_rfl)) h1 hn hlt1
  refine (walk W (facts_of W hL hsh) A0 l0 c0 hi0 hw0 hl0 A1 l1 c1 hi1 hw1 hl1 a2 bd2.1 bd2.2).mono fun e W' ⟨he, hb⟩ => ?_
  subst he
  exact ⟨_, rfl, _, _, _, [], p0 ++ (p1 ++ ([])), [], hW', trodAll_mk1 (shut_bool Tryd.underlying4 _), (trodAll_cons_mk (hargs0 W' hb) (trodAll_cons_mk (hargs1 W' hb) (trodAll_cons_mk (shut_int Tryd.underlying3 w2) trodAll_mk0))), rfl, hb.frame _, fun h => by cases h⟩

theorem said : Rows.ClockMomentsSaid :=
  OpenClaim.holds_of_cond 6 Tryd.f6 rfl rfl rfl rfl rfl rfl rfl ⟨rfl, rfl, rfl, rfl, rfl⟩ rfl rfl rfl rfl rfl (by kernel_rfl) Tryd.func6 (by kernel_rfl)
    (of_decide_eq_true (by kernel_rfl)) (by unfold Func.isWrapper; first | (rw [if_pos (by decide +kernel)]; kernel_rfl) | (rw [if_neg (by decide +kernel)]; exact ⟨rfl, rfl⟩))
    (fun os started H enc _ F => by rw [OpenClaim.pre_eq_preRow]; exact lifted os started H enc F)

theorem plain (f : FuncId) (fn : Func) (hf : Tryd.pinned.checked.prog.funcNamed "bikeshare/bikesharelaw02.ClockMoments" = some f) (hfn : Tryd.pinned.checked.prog.funcs[f]? = some fn) :
    true = Tryd.pinned.checked.prog.looks [] ∧ ∀ (j : Nat) t, fn.params[j]? = some t → Tryd.pinned.checked.prog.wantsStandIn t = false := by
  obtain rfl : f = 6 := Option.some.inj ((show Tryd.prog.funcNamed "bikeshare/bikesharelaw02.ClockMoments" = some 6 by kernel_rfl).symm.trans hf) |>.symm
  obtain rfl : fn = Tryd.f6 := (Option.some.inj (Tryd.func6.symm.trans hfn)).symm
  refine ⟨by kernel_rfl, fun j t ht => ?_⟩
  rw [Tryd.params6] at ht
  have hm : t ∈ [30, 30, 3] := by simpa using Array.mem_of_getElem? ht
  have hall : ([30, 30, 3].all fun u => !Tryd.prog.wantsStandIn u) = true := by kernel_rfl
  exact (show Tryd.prog.wantsStandIn t = false by simpa using List.all_eq_true.1 hall t hm)

/-- The card. -/
theorem card : Rows.ClockMomentsCardSaid :=
  Claim7.holds_tied_plain_at .later [] _ _ _ _ said (fun _ h => by cases h) (by kernel_rfl) (fun _ h => by cases h) clockMoments_row_tie rfl ⟨rfl, rfl⟩ (by kernel_rfl) rfl plain (by kernel_rfl)
#print axioms card
end Go.Proofs.YtkiedopknoekpaaDoor.clockMoments
