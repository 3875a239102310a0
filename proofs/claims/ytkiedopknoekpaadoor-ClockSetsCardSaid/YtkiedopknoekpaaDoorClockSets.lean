/-
  P2.3: ClockSets: for every two lists of windows (of at most 40 each; else the chapter's examples alone), Union, Common, Minus and Length return the specified lists, numbers and errors, and the chapter's examples hold; the tied card. Conditions: the row's own (Go's own tables and error values hold what the program's text lays when the call begins).
-/
import Derived.Test.YtkiedopknoekpaaDoorClkP
namespace Go.Proofs.YtkiedopknoekpaaDoor.clockSets
open Go.ChangeShapes Go.WideShapes Go.ChangeAt Go.RowKit
set_option linter.unusedVariables false

theorem same_refl (l : List Win) : sameB l l = true := decide_eq_true rfl

set_option maxRecDepth 100000 in
set_option maxHeartbeats 4000000 in
theorem walk (w : World) (f : Facts w) (A0 : Option Addr) (l0 : List Win) (c0 : Nat) (hi0 : WsR w A0 l0) (hw0 : WideW l0) (hl0 : l0.length ≤ 9223372036854775807) (A1 : Option Addr) (l1 : List Win) (c1 : Nat) (hi1 : WsR w A1 l1) (hw1 : WideW l1) (hl1 : l1.length ≤ 9223372036854775807) :
    Calls Tryd.prog 4 #[.slice A0 l0.length c0, .slice A1 l1.length c1] w fun e w' => e = .returned (.bool true) ∧ Below w.heap.size w w' := by
  have F := Lib.hid f
  have K := few_any l0 l1 A0 A1 c0 c1 w hl0 hl1
  by_cases hfew : l0.length ≤ 40 ∧ l1.length ≤ 40
  · obtain ⟨q0, q1⟩ := hfew
    have e : (decide (l0.length ≤ 40) && decide (l1.length ≤ 40)) = true := by simp [q0, q1]
    rw [e] at K
    have HK := Lib.hid K
    have U1 := Lib.hid (fun w' (h : WsR w' A0 l0) => union_any l0 A0 c0 w' (by omega) hw0 h)
    have U2 := Lib.hid (fun w' (h : WsR w' A0 l0) => refUnion_any l0 A0 c0 w' (by omega) hw0 h)
    have C1 := Lib.hid (fun w' (h : WsR w' A0 l0) (h' : WsR w' A1 l1) => common_any l0 l1 A0 A1 c0 c1 w' (by omega) (by omega) hw0 hw1 h h')
    have C2 := Lib.hid (fun w' (h : WsR w' A0 l0) (h' : WsR w' A1 l1) => refCommon_any l0 l1 A0 A1 c0 c1 w' (by omega) (by omega) hw0 hw1 h h')
    have M1 := Lib.hid (fun w' (h : WsR w' A0 l0) (h' : WsR w' A1 l1) => minus_any l0 l1 A0 A1 c0 c1 w' (by omega) (by omega) hw0 hw1 h h')
    have M2 := Lib.hid (fun w' (h : WsR w' A0 l0) (h' : WsR w' A1 l1) => refMinus_any l0 l1 A0 A1 c0 c1 w' (by omega) (by omega) hw0 hw1 h h')
    have L1 := Lib.hid (fun w' (h : WsR w' A0 l0) => length_any l0 A0 c0 w' (by omega) hw0 h)
    have L2 := Lib.hid (fun w' (h : WsR w' A0 l0) => refLength_any l0 A0 c0 w' (by omega) hw0 h)
    have zu : (unionS l0).1.length ≤ 1000 := by
      unfold unionS; split
      · have := nf_len l0; simp only; omega
      · simp
    have zc : (commonS l0 l1).1.length ≤ 1000 := by
      unfold commonS; split
      · have := com_len l0 l1; simp only; omega
      · simp
    have zm : (minusS l0 l1).1.length ≤ 1000 := by
      unfold minusS; split
      · have := mns_len l0 l1; simp only; omega
      · simp
    have SU := Lib.hid (fun w' A B c d h h' => by have := same_any (unionS l0).1 (unionS l0).1 A B c d w' zu zu h h'; rwa [same_refl] at this)
    have SC := Lib.hid (fun w' A B c d h h' => by have := same_any (commonS l0 l1).1 (commonS l0 l1).1 A B c d w' zc zc h h'; rwa [same_refl] at this)
    have SM := Lib.hid (fun w' A B c d h h' => by have := same_any (minusS l0 l1).1 (minusS l0 l1).1 A B c d w' zm zm h h'; rwa [same_refl] at this)
    have I0 := Lib.hid hi0
    have I1 := Lib.hid hi1
    generalize unionS l0 = u at *
    generalize commonS l0 l1 = v at *
    generalize minusS l0 l1 = m at *
    generalize lengthS l0 = k at *
    obtain ⟨u, eu⟩ := u
    obtain ⟨v, ev⟩ := v
    obtain ⟨m, em⟩ := m
    obtain ⟨k, ek⟩ := k
    dsimp only at U1 U2 C1 C2 M1 M2 L1 L2 SU SC SM zu zc zm
    clear K e f hi0 hi1 hw0 hw1 hl0 hl1 q0 q1
    generalize l0.length = n0 at *
    generalize l1.length = n1 at *
    have gu : (eu == eu) = true := by simp
    have gv : (ev == ev) = true := by simp
    have gm : (em == em) = true := by simp
    have gk : (k == k) = true := by simp
    have gek : (ek == ek) = true := by simp
    go_enter Tryd.func4, Tryd.ntmps4
    go_wp2_with fail
    refine HK.out.mono ?_
    rintro e w' ⟨rfl, rfl⟩
    go_wp2_with fail
    refine (U1.out _ I0.out).mono ?_
    rintro e w1 ⟨P1, k1, rfl, h1, hb1⟩
    have X1 := Lib.hid h1
    have J0 := Lib.hid (I0.out.below hb1)
    have J1 := Lib.hid (I1.out.below hb1)
    clear h1 I0 I1 U1
    go_wp2_with fail
    refine (U2.out _ J0.out).mono ?_
    rintro e w2 ⟨P2, k2, rfl, h2, hb2⟩
    have X2 := Lib.hid h2
    have X1 := Lib.hid (X1.out.below hb2)
    have J0 := Lib.hid (J0.out.below hb2)
    have J1 := Lib.hid (J1.out.below hb2)
    have hb2 := Below.step hb1 hb2
    clear h2 U2
    go_wp2_with fail
    refine (C1.out _ J0.out J1.out).mono ?_
    rintro e w3 ⟨P3, k3, rfl, h3, hb3⟩
    have X3 := Lib.hid h3
    have X1 := Lib.hid (X1.out.below hb3)
    have X2 := Lib.hid (X2.out.below hb3)
    have J0 := Lib.hid (J0.out.below hb3)
    have J1 := Lib.hid (J1.out.below hb3)
    have hb3 := Below.step hb2 hb3
    clear h3 C1
    go_wp2_with fail
    refine (C2.out _ J0.out J1.out).mono ?_
    rintro e w4 ⟨P4, k4, rfl, h4, hb4⟩
    have X4 := Lib.hid h4
    have X1 := Lib.hid (X1.out.below hb4)
    have X2 := Lib.hid (X2.out.below hb4)
    have X3 := Lib.hid (X3.out.below hb4)
    have J0 := Lib.hid (J0.out.below hb4)
    have J1 := Lib.hid (J1.out.below hb4)
    have hb4 := Below.step hb3 hb4
    clear h4 C2
    go_wp2_with fail
    refine (M1.out _ J0.out J1.out).mono ?_
    rintro e w5 ⟨P5, k5, rfl, h5, hb5⟩
    have X5 := Lib.hid h5
    have X1 := Lib.hid (X1.out.below hb5)
    have X2 := Lib.hid (X2.out.below hb5)
    have X3 := Lib.hid (X3.out.below hb5)
    have X4 := Lib.hid (X4.out.below hb5)
    have J0 := Lib.hid (J0.out.below hb5)
    have J1 := Lib.hid (J1.out.below hb5)
    have hb5 := Below.step hb4 hb5
    clear h5 M1
    go_wp2_with fail
    refine (M2.out _ J0.out J1.out).mono ?_
    rintro e w6 ⟨P6, k6, rfl, h6, hb6⟩
    have X6 := Lib.hid h6
    have X1 := Lib.hid (X1.out.below hb6)
    have X2 := Lib.hid (X2.out.below hb6)
    have X3 := Lib.hid (X3.out.below hb6)
    have X4 := Lib.hid (X4.out.below hb6)
    have X5 := Lib.hid (X5.out.below hb6)
    have J0 := Lib.hid (J0.out.below hb6)
    have hb6 := Below.step hb5 hb6
    clear h6 M2
    go_wp2_with fail
    refine (L1.out _ J0.out).mono ?_
    rintro e w7 ⟨rfl, hb7⟩
    have X1 := Lib.hid (X1.out.below hb7)
    have X2 := Lib.hid (X2.out.below hb7)
    have X3 := Lib.hid (X3.out.below hb7)
    have X4 := Lib.hid (X4.out.below hb7)
    have X5 := Lib.hid (X5.out.below hb7)
    have X6 := Lib.hid (X6.out.below hb7)
    have J0 := Lib.hid (J0.out.below hb7)
    have hb7 := Below.step hb6 hb7
    clear L1
    go_wp2_with fail
    refine (L2.out _ J0.out).mono ?_
    rintro e w8 ⟨rfl, hb8⟩
    have X1 := Lib.hid (X1.out.below hb8)
    have X2 := Lib.hid (X2.out.below hb8)
    have X3 := Lib.hid (X3.out.below hb8)
    have X4 := Lib.hid (X4.out.below hb8)
    have X5 := Lib.hid (X5.out.below hb8)
    have X6 := Lib.hid (X6.out.below hb8)
    have hb8 := Below.step hb7 hb8
    clear L2 J0 J1
    go_wp2_with fail
    refine (SU.out _ _ _ _ _ X1.out X2.out).mono ?_
    rintro e w9 ⟨rfl, hb9⟩
    have X3 := Lib.hid (X3.out.below hb9)
    have X4 := Lib.hid (X4.out.below hb9)
    have X5 := Lib.hid (X5.out.below hb9)
    have X6 := Lib.hid (X6.out.below hb9)
    have hb9 := Below.step hb8 hb9
    clear SU X1 X2
    go_wp2_with fail
    refine (SC.out _ _ _ _ _ X3.out X4.out).mono ?_
    rintro e w10 ⟨rfl, hb10⟩
    have X5 := Lib.hid (X5.out.below hb10)
    have X6 := Lib.hid (X6.out.below hb10)
    have hb10 := Below.step hb9 hb10
    clear SC X3 X4
    go_wp2_with fail
    refine (SM.out _ _ _ _ _ X5.out X6.out).mono ?_
    rintro e w11 ⟨rfl, hb11⟩
    have hb11 := Below.step hb10 hb11
    clear SM X5 X6
    go_wp2_with fail
    refine (awake_any _ (F.out.below hb11)).mono ?_
    rintro e w12 ⟨rfl, hb12⟩
    go_wp2_with fail
    go_ret
    exact ⟨rfl, Below.step hb11 hb12⟩
  · have e : (decide (l0.length ≤ 40) && decide (l1.length ≤ 40)) = false := by
      simp only [Bool.and_eq_false_iff, decide_eq_false_iff_not]
      omega
    rw [e] at K
    have HK := Lib.hid K
    clear K e f hi0 hi1 hw0 hw1 hl0 hl1 hfew
    generalize l0.length = n0 at *
    generalize l1.length = n1 at *
    go_enter Tryd.func4, Tryd.ntmps4
    go_wp2_with fail
    refine HK.out.mono ?_
    rintro e w' ⟨rfl, rfl⟩
    go_wp2_with fail
    refine (awake_any _ F.out).mono ?_
    rintro e w12 ⟨rfl, hb12⟩
    go_wp2_with fail
    go_ret
    exact ⟨rfl, hb12⟩

set_option maxRecDepth 100000 in
theorem lifted (os : Os) (started : os.Started) (H : Type) (enc : TypeId × Value → H) (F : Stop.Interp) :
    ReturnsInHanded {} Tryd.checked os 4 .any ((OpenSpec.ofChange Rows.clockSetsSpec).preRow enc Tryd.prog Tryd.f4 Rows.clockSetsRow.domain false Rows.clockSetsRow.laid) (((OpenSpec.ofChange Rows.clockSetsSpec).at F).post enc Tryd.prog Tryd.f4 false true false false) := by
  refine returnsInHanded_of_row (C := Tryd.checked) (s := OpenSpec.ofChange Rows.clockSetsSpec) own started (by kernel_rfl) Tryd.func4
    (ChangeSpec.witness_shaped (enc := enc) (C := Tryd.checked) (os := os) (X := fun w _ => laidMetH Tryd.prog Rows.clockSetsRow.laid w) false (World.laidAll Tryd.prog os Rows.clockSetsRow.laid) #[.slice none 0 0, .slice none 0 0] 8 (World.laidAll_os _ _ _)
      (World.shaped_of_ZipB (by kernel_rfl) (by kernel_rfl)) (by kernel_rfl) (by kernel_rfl) (by kernel_rfl)
      (by rw [MakeChecks.laidMetH_plain _ _ _ (by kernel_rfl)]; exact laidMet_laidAll _ (by kernel_rfl) (by kernel_rfl))) ?_
  intro W base args ds gs before hval0 hW _ _ _ hL hsh _
  have hval : ∀ (j : Nat) t v, Tryd.f4.params[j]? = some t → args[j]? = some v → Value.okWide Tryd.prog W .any base t v := hval0
  have hW' := hW
  obtain ⟨p, q, hA0, hV, rfl, hfz, hnd⟩ := hW
  have hA : DataW.TrodAll enc Tryd.prog W 0 (fun _ => true) true Tryd.f4.params.toList args.toList ds p := hA0
  rw [Tryd.params4] at hA hval
  obtain ⟨v0, vs0, d0, ds0, p0, q0, hargs, rfl, rfl, h0, r0⟩ := trodAll_cons hA
  obtain ⟨v1, vs1, d1, ds1, p1, q1, rfl, rfl, rfl, h1, r1⟩ := trodAll_cons r0
  obtain ⟨rfl, rfl, rfl⟩ := trodAll_nil r1
  obtain rfl : args = #[v0, v1] := by cases args; simp_all
  obtain ⟨rfl, rfl⟩ := trodVars_none hV
  obtain ⟨A0, l0, c0, rfl, hi0, hw0, hl0⟩ := wins_open (hval 0 30 v0 rfl rfl) h0
  obtain ⟨A1, l1, c1, rfl, hi1, hw1, hl1⟩ := wins_open (hval 1 30 v1 rfl rfl) h1
  clear hA0 hval0
  simp only [List.append_nil] at hW'
  have hlt0 : ∀ x ∈ p0, x.block < W.heap.size := fun x hx => by simpa using hW'.lt x (by simp [hx])
  have hargs0 : ∀ (W' : World), Below W.heap.size W W' → DataW.Trod enc Tryd.prog W' 0 (fun b => decide (b < W.heap.size)) true 30 (.slice A0 l0.length c0) d0 p0 := fun W' hn => Below.trod laidOut (by kernel_rfl) (of_decide_eq_true (by kernel_rfl)) h0 hn hlt0
  have hlt1 : ∀ x ∈ p1, x.block < W.heap.size := fun x hx => by simpa using hW'.lt x (by simp [hx])
  have hargs1 : ∀ (W' : World), Below W.heap.size W W' → DataW.Trod enc Tryd.prog W' 0 (fun b => decide (b < W.heap.size)) true 30 (.slice A1 l1.length c1) d1 p1 := fun W' hn => Below.trod laidOut (by kernel_rfl) (of_decide_eq_true (by kernel_rfl)) h1 hn hlt1
  refine (walk W (facts_of W hL hsh) A0 l0 c0 hi0 hw0 hl0 A1 l1 c1 hi1 hw1 hl1).mono fun e W' ⟨he, hb⟩ => ?_
  subst he
  exact ⟨_, rfl, _, _, _, [], p0 ++ (p1 ++ ([])), [], hW', trodAll_mk1 (shut_bool Tryd.underlying4 _), (trodAll_cons_mk (hargs0 W' hb) (trodAll_cons_mk (hargs1 W' hb) trodAll_mk0)), rfl, hb.frame _, fun h => by cases h⟩

theorem said : Rows.ClockSetsSaid :=
  OpenClaim.holds_of_cond 4 Tryd.f4 rfl rfl rfl rfl rfl rfl rfl ⟨rfl, rfl, rfl, rfl, rfl⟩ rfl rfl rfl rfl rfl (by kernel_rfl) Tryd.func4 (by kernel_rfl)
    (of_decide_eq_true (by kernel_rfl)) (by unfold Func.isWrapper; first | (rw [if_pos (by decide +kernel)]; kernel_rfl) | (rw [if_neg (by decide +kernel)]; exact ⟨rfl, rfl⟩))
    (fun os started H enc _ F => by rw [OpenClaim.pre_eq_preRow]; exact lifted os started H enc F)

theorem plain (f : FuncId) (fn : Func) (hf : Tryd.pinned.checked.prog.funcNamed "bikeshare/bikesharelaw02.ClockSets" = some f) (hfn : Tryd.pinned.checked.prog.funcs[f]? = some fn) :
    true = Tryd.pinned.checked.prog.looks [] ∧ ∀ (j : Nat) t, fn.params[j]? = some t → Tryd.pinned.checked.prog.wantsStandIn t = false := by
  obtain rfl : f = 4 := Option.some.inj ((show Tryd.prog.funcNamed "bikeshare/bikesharelaw02.ClockSets" = some 4 by kernel_rfl).symm.trans hf) |>.symm
  obtain rfl : fn = Tryd.f4 := (Option.some.inj (Tryd.func4.symm.trans hfn)).symm
  refine ⟨by kernel_rfl, fun j t ht => ?_⟩
  rw [Tryd.params4] at ht
  have hm : t ∈ [30, 30] := by simpa using Array.mem_of_getElem? ht
  have hall : ([30, 30].all fun u => !Tryd.prog.wantsStandIn u) = true := by kernel_rfl
  exact (show Tryd.prog.wantsStandIn t = false by simpa using List.all_eq_true.1 hall t hm)

/-- The card. -/
theorem card : Rows.ClockSetsCardSaid :=
  Claim7.holds_tied_plain_at .later [] _ _ _ _ said (fun _ h => by cases h) (by kernel_rfl) (fun _ h => by cases h) clockSets_row_tie rfl ⟨rfl, rfl⟩ (by kernel_rfl) rfl plain (by kernel_rfl)
#print axioms card
end Go.Proofs.YtkiedopknoekpaaDoor.clockSets
