/-
  P2.3, P2.7: ClockForms: for every two lists of windows (of at most 40 each; else the chapter's examples alone), the results are in normal form, which neither the order nor the repetition of windows changes, and the chapter's examples hold; the tied card. Conditions: the row's own (Go's own tables and error values hold what the program's text lays when the call begins).
-/
import Derived.Test.YtkiedopknoekpaaDoorClkM
import Derived.Test.YtkiedopknoekpaaDoorClkN
import Derived.Deep.RegionLaw
namespace Go.Proofs.YtkiedopknoekpaaDoor.clockForms
open Go.ChangeShapes Go.WideShapes Go.ChangeAt Go.RowKit
set_option linter.unusedVariables false

theorem step_append_two {ops : Array Oper} {o : Oper} {a : Act} {w : World} {K : Act → World → Prop} {Q : Exit → Act → World → Prop} {E : Prop} (hg : o.guard = none) (s x : Operand)
    (hop : o.op = .call { callee := .builtin .append, args := #[s, x], argTypes := #[30, 30] })
    (base : Nat) (v : Value) (out : List Win) (hs : a.eval s = v) (hown : OwnW w base v out) (blk c : Nat) (p q p' q' : Int) (hx : a.eval x = .slice (some ⟨blk, 0, none⟩) 2 c)
    (h0 : w.cell? ⟨blk, 0, none⟩ = some (.int .i64 p)) (h1 : w.cell? ⟨blk, 1, none⟩ = some (.int .i64 q)) (h2 : w.cell? ⟨blk, 2, none⟩ = some (.int .i64 p')) (h3 : w.cell? ⟨blk, 3, none⟩ = some (.int .i64 q'))
    (hlen : out.length ≤ 1000) (w0 : World) (hB : Below base w0 w) (hbase : base ≤ w.heap.size)
    (h : ∀ v' w', Hid (OwnW w' base v' (out ++ [(p, q), (p', q')])) → Below base w0 w' → K (a.put o.dst v') w') :
    if Region.wanted o (yielded ops a.tmps) = true then Oper.wp Tryd.prog o a w K Q else E := by
  have hw : Region.wanted o (yielded ops a.tmps) = true := by simp [Region.wanted, hg]
  rw [if_pos hw]
  obtain ⟨ii, hii, hz0, hz1, hz2⟩ := info_parts info_win
  obtain ⟨v', w', hr, g2, g3, _, _⟩ := run_append_own_at (P := Tryd.prog) w base 30 o.type 23 ii (.agg #[.int .i64 0, .int .i64 0]) 2 16 Tryd.underlying30 hii hz0 hz1 hz2 rfl (by decide) v out.length (flatW out) hown ⟨blk, 0, none⟩ 2 c [.int .i64 p, .int .i64 q, .int .i64 p', .int .i64 q'] rfl
    (fun j u hj => by
      match j, hj with
      | 0, hj => simp at hj; subst hj; exact h0
      | 1, hj => simp at hj; subst hj; exact h1
      | 2, hj => simp at hj; subst hj; exact h2
      | 3, hj => simp at hj; subst hj; exact h3)
    (fun u hu => by
      simp at hu
      rcases hu with rfl | rfl | rfl | rfl <;> rfl) (by unfold maxLen; omega) (by omega) hbase
  unfold Oper.wp execOp
  simp only [hop, resolve, invoke, builtin, Sem.run_bind, Sem.run_pure, Result.andThen_ok, List.map_toArray, List.map_cons, List.map_nil, hs, hx, hr]
  refine h v' w' ?_ (hB.grown g3 hbase hown.ge)
  show w'.ownsRow base 23 2 v' (out ++ [(p, q), (p', q')]).length (flatW (out ++ [(p, q), (p', q')]))
  rw [flatW_append, List.length_append]
  exact g2

theorem same_refl (l : List Win) : sameB l l = true := decide_eq_true rfl

set_option maxRecDepth 100000 in
set_option maxHeartbeats 10000000 in
theorem walk (w : World) (f : Facts w) (A0 : Option Addr) (l0 : List Win) (c0 : Nat) (hi0 : WsR w A0 l0) (hw0 : WideW l0) (hl0 : l0.length ≤ 9223372036854775807) (A1 : Option Addr) (l1 : List Win) (c1 : Nat) (hi1 : WsR w A1 l1) (hw1 : WideW l1) (hl1 : l1.length ≤ 9223372036854775807) :
    Calls Tryd.prog 8 #[.slice A0 l0.length c0, .slice A1 l1.length c1] w fun e w' => e = .returned (.bool true) ∧ Below w.heap.size w w' := by
  have F := Lib.hid f
  have K := few_any l0 l1 A0 A1 c0 c1 w hl0 hl1
  by_cases hfew : l0.length ≤ 40 ∧ l1.length ≤ 40
  · obtain ⟨q0, q1⟩ := hfew
    have e : (decide (l0.length ≤ 40) && decide (l1.length ≤ 40)) = true := by simp [q0, q1]
    rw [e] at K
    have HK := Lib.hid K
    have U1 := Lib.hid (fun w' (h : WsR w' A0 l0) => union_any l0 A0 c0 w' (by omega) hw0 h)
    have C1 := Lib.hid (fun w' (h : WsR w' A0 l0) (h' : WsR w' A1 l1) => common_any l0 l1 A0 A1 c0 c1 w' (by omega) (by omega) hw0 hw1 h h')
    have M1 := Lib.hid (fun w' (h : WsR w' A0 l0) (h' : WsR w' A1 l1) => minus_any l0 l1 A0 A1 c0 c1 w' (by omega) (by omega) hw0 hw1 h h')
    have I0 := Lib.hid hi0
    have I1 := Lib.hid hi1
    by_cases hvv : allB l0 = true ∧ allB l1 = true
    · obtain ⟨hv0, hv1⟩ := hvv
      have eu : unionS l0 = (nf l0, 0) := by simp [unionS, hv0]
      have ec : commonS l0 l1 = (com l0 l1, 0) := by simp [commonS, hv0, hv1]
      have em : minusS l0 l1 = (mns l0 l1, 0) := by simp [minusS, hv0, hv1]
      rw [eu] at U1
      rw [ec] at C1
      rw [em] at M1
      have n1 := nf_nf hv0
      have n2 := com_nf hv0 hv1
      have n3 := mns_nf hv0 hv1
      have zu := nf_len l0
      have zc := com_len l0 l1
      have zm := mns_len l0 l1
      have zd := dupR_len l0
      have UD := Lib.hid (fun w' A c (h : WsR w' A (dupR l0)) => by
        have := union_any (dupR l0) A c w' (by omega) (wide_of_all (dupR_all l0 hv0)) h
        rwa [show unionS (dupR l0) = (nf l0, 0) by simp [unionS, dupR_all l0 hv0, dupR_nf l0 hv0]] at this)
      have UU := Lib.hid (fun w' A c (h : WsR w' A (nf l0)) => by
        have := union_any (nf l0) A c w' (by omega) (wide_of_all (allB_of_nf n1.1)) h
        rwa [show unionS (nf l0) = (nf l0, 0) by simp [unionS, allB_of_nf n1.1, nf_self n1.1]] at this)
      have NU := Lib.hid (fun w' A c (h : WsR w' A (nf l0)) => normal_true (nf l0) A c w' (by omega) n1.1 h)
      have NC := Lib.hid (fun w' A c (h : WsR w' A (com l0 l1)) => normal_true (com l0 l1) A c w' (by omega) n2.1 h)
      have NM := Lib.hid (fun w' A c (h : WsR w' A (mns l0 l1)) => normal_true (mns l0 l1) A c w' (by omega) n3.1 h)
      have SU := Lib.hid (fun w' A B c d h h' => by have := same_any (nf l0) (nf l0) A B c d w' (by omega) (by omega) h h'; rwa [same_refl] at this)
      have WD := Lib.hid hw0
      generalize nf l0 = u at *
      generalize com l0 l1 = v at *
      generalize mns l0 l1 = m at *
      obtain ⟨n0, hn0⟩ : ∃ n, l0.length = n := ⟨_, rfl⟩
      have HN := Lib.hid hn0
      rw [hn0] at U1 C1 M1 HK q0 ⊢
      clear K e f hi0 hi1 hw0 hw1 hl0 hl1 q1 ec em eu hv0 hv1 n1 n2 n3 zu zc zm zd hn0
      generalize l1.length = n1 at *
      go_enter Tryd.func8, Tryd.ntmps8
      go_wp2_with fail
      refine HK.out.mono ?_
      rintro e w' ⟨rfl, rfl⟩
      go_wp2_with fail
      refine (U1.out _ I0.out).mono ?_
      rintro e w1 ⟨P1, k1, rfl, h1, hb1⟩
      have X1 : Hid (WsR w1 P1 u) := Lib.hid h1
      have J0 := Lib.hid (I0.out.below hb1)
      have J1 := Lib.hid (I1.out.below hb1)
      clear h1 I0 I1 U1
      go_wp2_with fail
      refine (C1.out _ J0.out J1.out).mono ?_
      rintro e w2 ⟨P2, k2, rfl, h2, hb2⟩
      have X2 : Hid (WsR w2 P2 v) := Lib.hid h2
      have X1 := Lib.hid (X1.out.below hb2)
      have J0 := Lib.hid (J0.out.below hb2)
      have J1 := Lib.hid (J1.out.below hb2)
      have hb2 := Below.step hb1 hb2
      clear h2 C1
      go_wp2_with fail
      refine (M1.out _ J0.out J1.out).mono ?_
      rintro e w3 ⟨P3, k3, rfl, h3, hb3⟩
      have X3 : Hid (WsR w3 P3 m) := Lib.hid h3
      have X1 := Lib.hid (X1.out.below hb3)
      have X2 := Lib.hid (X2.out.below hb3)
      have J0 := Lib.hid (J0.out.below hb3)
      have hb3 := Below.step hb2 hb3
      clear h3 M1 J1
      go_wp2_with fail
      go_loopw [11, 12] (fun vo vi wr => ∃ k : Nat, k ≤ n0 ∧ vi = .int .i64 ((k : Int) - 1) ∧ Hid (OwnW wr w3.heap.size vo (dupR (l0.drop k))) ∧ Below w3.heap.size w3 wr) (fun _ vi _ => ((intOf vi) + 1).toNat)
      case atStart => exact ⟨n0, Nat.le_refl _, rfl, by rw [List.drop_eq_nil_of_le (by rw [HN.out]; omega)]; exact Lib.hid (OwnW.nil _ _), Below.refl _ _⟩
      case round =>
        obtain ⟨k, hk, rfl, hown, hB⟩ := hrel
        by_cases hk0 : k = 0
        · subst hk0
          rw [List.drop_zero] at hown
          rw [show ((0 : Nat) : Int) - 1 = -1 from rfl]
          obtain ⟨PD, kd, hvd, hrd⟩ := hown.out.read
          subst hvd
          have XD := Lib.hid hrd
          have X1 := Lib.hid (X1.out.below hB)
          have X2 := Lib.hid (X2.out.below hB)
          have X3 := Lib.hid (X3.out.below hB)
          have hb4 := Below.step hb3 hB
          clear hown hrd J0 hB hb3
          go_wp2_with fail
          refine (UD.out _ _ _ XD.out).mono ?_
          rintro e w5 ⟨P5, k5, rfl, h5, hb5⟩
          have X5 : Hid (WsR w5 P5 u) := Lib.hid h5
          have X1 := Lib.hid (X1.out.below hb5)
          have X2 := Lib.hid (X2.out.below hb5)
          have X3 := Lib.hid (X3.out.below hb5)
          have hb5 := Below.step hb4 hb5
          clear h5 UD XD
          go_wp2_with fail
          refine (UU.out _ _ _ X1.out).mono ?_
          rintro e w6 ⟨P6, k6, rfl, h6, hb6⟩
          have X6 : Hid (WsR w6 P6 u) := Lib.hid h6
          have X5 := Lib.hid (X5.out.below hb6)
          have X1 := Lib.hid (X1.out.below hb6)
          have X2 := Lib.hid (X2.out.below hb6)
          have X3 := Lib.hid (X3.out.below hb6)
          have hb6 := Below.step hb5 hb6
          clear h6 UU
          go_wp2_with fail
          refine (NU.out _ _ _ X1.out).mono ?_
          rintro e w7 ⟨rfl, hb7⟩
          have X6 := Lib.hid (X6.out.below hb7)
          have X5 := Lib.hid (X5.out.below hb7)
          have X1 := Lib.hid (X1.out.below hb7)
          have X2 := Lib.hid (X2.out.below hb7)
          have X3 := Lib.hid (X3.out.below hb7)
          have hb7 := Below.step hb6 hb7
          clear NU
          go_wp2_with fail
          refine (NC.out _ _ _ X2.out).mono ?_
          rintro e w8 ⟨rfl, hb8⟩
          have X6 := Lib.hid (X6.out.below hb8)
          have X5 := Lib.hid (X5.out.below hb8)
          have X1 := Lib.hid (X1.out.below hb8)
          have X3 := Lib.hid (X3.out.below hb8)
          have hb8 := Below.step hb7 hb8
          clear NC X2
          go_wp2_with fail
          refine (NM.out _ _ _ X3.out).mono ?_
          rintro e w9 ⟨rfl, hb9⟩
          have X6 := Lib.hid (X6.out.below hb9)
          have X5 := Lib.hid (X5.out.below hb9)
          have X1 := Lib.hid (X1.out.below hb9)
          have hb9 := Below.step hb8 hb9
          clear NM X3
          go_wp2_with fail
          refine (SU.out _ _ _ _ _ X1.out X5.out).mono ?_
          rintro e w10 ⟨rfl, hb10⟩
          have X6 := Lib.hid (X6.out.below hb10)
          have X1 := Lib.hid (X1.out.below hb10)
          have hb10 := Below.step hb9 hb10
          clear X5
          go_wp2_with fail
          refine (SU.out _ _ _ _ _ X1.out X6.out).mono ?_
          rintro e w11 ⟨rfl, hb11⟩
          have hb11 := Below.step hb10 hb11
          clear X1 X6 SU
          go_wp2_with fail
          refine (awake_any _ (F.out.below hb11)).mono ?_
          rintro e w12 ⟨rfl, hb12⟩
          go_wp2_with fail
          go_ret
          exact ⟨rfl, Below.step hb11 hb12⟩
        · obtain ⟨j, rfl⟩ : ∃ j, k = j + 1 := ⟨k - 1, by omega⟩
          have hjl : j < l0.length := by rw [HN.out]; omega
          obtain ⟨b, o, rfl, hbl, hc⟩ := (J0.out.below hB) (by omega)
          obtain ⟨c0', c1'⟩ := hc j hjl
          have hdr := dropW_cons l0 j hjl
          have hlen : (dupR (l0.drop (j + 1))).length ≤ 1000 := by rw [dupR_len, List.length_drop, HN.out]; omega
          obtain ⟨x, y, hxy⟩ : ∃ x y, l0.getD j (0, 0) = (x, y) := ⟨_, _, rfl⟩
          rw [hxy] at c0' c1' hdr
          have HDR : Hid (dupR (l0.drop (j + 1)) ++ [(x, y), (x, y)] = dupR (l0.drop j)) := Lib.hid (by rw [hdr, dupR_cons])
          obtain ⟨Ao, co, hvo⟩ := hown.out.len
          subst hvo
          rw [show (((j + 1 : Nat) : Int) - 1) = (j : Int) by omega]
          have zj : (0 : Int) ≤ (j : Int) := by omega
          have zjn : (j : Int) < (n0 : Int) := by omega
          generalize dupR (l0.drop (j + 1)) = D at hown hlen HDR ⊢
          clear hc hxy hjl hdr hk0
          have hO3 : Hid (OwnW wr.drew w3.heap.size (.slice Ao D.length co) D) := hown
          have hB3 : Below w3.heap.size w3 wr.drew := hB.drew
          clear hown hB UD UU NU NC NM SU X1 X2 X3 hb3
          go_wp2_with fail
          go_region_law ((refine step_append_two rfl _ _ rfl w3.heap.size _ _ rfl (hO3.out.alloc _) _ _ x y x y rfl (by show (wr.alloc _).cell? ⟨wr.heap.size, _, none⟩ = _; rw [World.cell?_alloc_new]; rfl) (by show (wr.alloc _).cell? ⟨wr.heap.size, _, none⟩ = _; rw [World.cell?_alloc_new]; rfl) (by show (wr.alloc _).cell? ⟨wr.heap.size, _, none⟩ = _; rw [World.cell?_alloc_new]; rfl) (by show (wr.alloc _).cell? ⟨wr.heap.size, _, none⟩ = _; rw [World.cell?_alloc_new]; rfl) (by omega) w3 (hB3.alloc hB3.size _) (Nat.le_trans hB3.size (by simp)) ?_; intro v5 w5 hO5 hB5))
          all_goals
            rw [HDR.out] at hO5
            go_wp2
            go_roundw
            case rel => exact ⟨j, by omega, rfl, hO5, hB5⟩
            case measure => simp only [intOf]; omega
    · have ec : commonS l0 l1 = ([], 1) := by
        unfold commonS; rw [if_neg]; simp only [Bool.and_eq_true]; exact hvv
      have em : minusS l0 l1 = ([], 1) := by
        unfold minusS; rw [if_neg]; simp only [Bool.and_eq_true]; exact hvv
      rw [ec] at C1
      rw [em] at M1
      have hu : unionS l0 = (nf l0, 0) ∨ unionS l0 = ([], 1) := by unfold unionS; split <;> simp
      have zu := nf_len l0
      clear K e f hi0 hi1 hw0 hw1 hl0 hl1 q0 q1 ec em hvv zu
      rcases hu with hu | hu
      all_goals
        rw [hu] at U1
        clear hu
        generalize l0.length = n0 at *
        generalize l1.length = n1 at *
        go_enter Tryd.func8, Tryd.ntmps8
        go_wp2_with fail
        refine HK.out.mono ?_
        rintro e w' ⟨rfl, rfl⟩
        go_wp2_with fail
        refine (U1.out _ I0.out).mono ?_
        rintro e w1 ⟨P1, k1, rfl, h1, hb1⟩
        have J0 := Lib.hid (I0.out.below hb1)
        have J1 := Lib.hid (I1.out.below hb1)
        clear h1 I0 I1 U1
        go_wp2_with fail
        refine (C1.out _ J0.out J1.out).mono ?_
        rintro e w2 ⟨P2, k2, rfl, h2, hb2⟩
        have J0 := Lib.hid (J0.out.below hb2)
        have J1 := Lib.hid (J1.out.below hb2)
        have hb2 := Below.step hb1 hb2
        clear h2 C1
        go_wp2_with fail
        refine (M1.out _ J0.out J1.out).mono ?_
        rintro e w3 ⟨P3, k3, rfl, h3, hb3⟩
        have hb3 := Below.step hb2 hb3
        clear h3 M1 J1 J0
        go_wp2_with fail
        refine (awake_any _ (F.out.below hb3)).mono ?_
        rintro e w12 ⟨rfl, hb12⟩
        go_wp2_with fail
        go_ret
        exact ⟨rfl, Below.step hb3 hb12⟩
  · have e : (decide (l0.length ≤ 40) && decide (l1.length ≤ 40)) = false := by
      simp only [Bool.and_eq_false_iff, decide_eq_false_iff_not]
      omega
    rw [e] at K
    have HK := Lib.hid K
    clear K e f hi0 hi1 hw0 hw1 hl0 hl1 hfew
    generalize l0.length = n0 at *
    generalize l1.length = n1 at *
    go_enter Tryd.func8, Tryd.ntmps8
    go_wp2_with fail
    refine HK.out.mono ?_
    rintro e w' ⟨rfl, rfl⟩
    go_wp2_with fail
    refine (awake_any _ F.out).mono ?_
    rintro e w12 ⟨rfl, hb12⟩
    go_wp2_with fail
    go_ret
    exact ⟨rfl, hb12⟩

set_option maxRecDepth 100000 in
theorem lifted (os : Os) (started : os.Started) (H : Type) (enc : TypeId × Value → H) (F : Stop.Interp) :
    ReturnsInHanded {} Tryd.checked os 8 .any ((OpenSpec.ofChange Rows.clockFormsSpec).preRow enc Tryd.prog Tryd.f8 Rows.clockFormsRow.domain false Rows.clockFormsRow.laid) (((OpenSpec.ofChange Rows.clockFormsSpec).at F).post enc Tryd.prog Tryd.f8 false true false false) := by
  refine returnsInHanded_of_row (C := Tryd.checked) (s := OpenSpec.ofChange Rows.clockFormsSpec) own started (by kernel_rfl) Tryd.func8
    (ChangeSpec.witness_shaped (enc := enc) (C := Tryd.checked) (os := os) (X := fun w _ => laidMetH Tryd.prog Rows.clockFormsRow.laid w) false (World.laidAll Tryd.prog os Rows.clockFormsRow.laid) #[.slice none 0 0, .slice none 0 0] 8 (World.laidAll_os _ _ _)
      (World.shaped_of_ZipB (by kernel_rfl) (by kernel_rfl)) (by kernel_rfl) (by kernel_rfl) (by kernel_rfl)
      (by rw [MakeChecks.laidMetH_plain _ _ _ (by kernel_rfl)]; exact laidMet_laidAll _ (by kernel_rfl) (by kernel_rfl))) ?_
  intro W base args ds gs before hval0 hW _ _ _ hL hsh _
  have hval : ∀ (j : Nat) t v, Tryd.f8.params[j]? = some t → args[j]? = some v → Value.okWide Tryd.prog W .any base t v := hval0
  have hW' := hW
  obtain ⟨p, q, hA0, hV, rfl, hfz, hnd⟩ := hW
  have hA : DataW.TrodAll enc Tryd.prog W 0 (fun _ => true) true Tryd.f8.params.toList args.toList ds p := hA0
  rw [Tryd.params8] at hA hval
  obtain ⟨v0, vs0, d0, ds0, p0, q0, hargs, rfl, rfl, h0, r0⟩ := trodAll_cons hA
  obtain ⟨v1, vs1, d1, ds1, p1, q1, rfl, rfl, rfl, h1, r1⟩ := trodAll_cons r0
  obtain ⟨rfl, rfl, rfl⟩ := trodAll_nil r1
  obtain rfl : args = #[v0, v1] := by cases args; simp_all
  obtain ⟨rfl, rfl⟩ := trodVars_none hV
  obtain ⟨A0, l0, c0, rfl, hi0, hw0, hl0⟩ := wins_open (hval 0 30 v0 rfl rfl) h0
  obtain ⟨A1, l1, c1, rfl, hi1, hw1, hl1⟩ := wins_open (hval 1 30 v1 rfl rfl) h1
  clear hA0 hval0
  simp only [List.append_nil] at hW'
  have hlt0 : ∀ x ∈ p0, x.block < W.heap.size := fun x hx => by simpa using hW'.lt x (by simp [hx])
  have hargs0 : ∀ (W' : World), Below W.heap.size W W' → DataW.Trod enc Tryd.prog W' 0 (fun b => decide (b < W.heap.size)) true 30 (.slice A0 l0.length c0) d0 p0 := fun W' hn => Below.trod laidOut (by kernel_rfl) (of_decide_eq_true (by kernel_rfl)) h0 hn hlt0
  have hlt1 : ∀ x ∈ p1, x.block < W.heap.size := fun x hx => by simpa using hW'.lt x (by simp [hx])
  have hargs1 : ∀ (W' : World), Below W.heap.size W W' → DataW.Trod enc Tryd.prog W' 0 (fun b => decide (b < W.heap.size)) true 30 (.slice A1 l1.length c1) d1 p1 := fun W' hn => Below.trod laidOut (by kernel_rfl) (of_decide_eq_true (by kernel_rfl)) h1 hn hlt1
  refine (walk W (facts_of W hL hsh) A0 l0 c0 hi0 hw0 hl0 A1 l1 c1 hi1 hw1 hl1).mono fun e W' ⟨he, hb⟩ => ?_
  subst he
  exact ⟨_, rfl, _, _, _, [], p0 ++ (p1 ++ ([])), [], hW', trodAll_mk1 (shut_bool Tryd.underlying4 _), (trodAll_cons_mk (hargs0 W' hb) (trodAll_cons_mk (hargs1 W' hb) trodAll_mk0)), rfl, hb.frame _, fun h => by cases h⟩

theorem said : Rows.ClockFormsSaid :=
  OpenClaim.holds_of_cond 8 Tryd.f8 rfl rfl rfl rfl rfl rfl rfl ⟨rfl, rfl, rfl, rfl, rfl⟩ rfl rfl rfl rfl rfl (by kernel_rfl) Tryd.func8 (by kernel_rfl)
    (of_decide_eq_true (by kernel_rfl)) (by unfold Func.isWrapper; first | (rw [if_pos (by decide +kernel)]; kernel_rfl) | (rw [if_neg (by decide +kernel)]; exact ⟨rfl, rfl⟩))
    (fun os started H enc _ F => by rw [OpenClaim.pre_eq_preRow]; exact lifted os started H enc F)

theorem plain (f : FuncId) (fn : Func) (hf : Tryd.pinned.checked.prog.funcNamed "bikeshare/bikesharelaw02.ClockForms" = some f) (hfn : Tryd.pinned.checked.prog.funcs[f]? = some fn) :
    true = Tryd.pinned.checked.prog.looks [] ∧ ∀ (j : Nat) t, fn.params[j]? = some t → Tryd.pinned.checked.prog.wantsStandIn t = false := by
  obtain rfl : f = 8 := Option.some.inj ((show Tryd.prog.funcNamed "bikeshare/bikesharelaw02.ClockForms" = some 8 by kernel_rfl).symm.trans hf) |>.symm
  obtain rfl : fn = Tryd.f8 := (Option.some.inj (Tryd.func8.symm.trans hfn)).symm
  refine ⟨by kernel_rfl, fun j t ht => ?_⟩
  rw [Tryd.params8] at ht
  have hm : t ∈ [30, 30] := by simpa using Array.mem_of_getElem? ht
  have hall : ([30, 30].all fun u => !Tryd.prog.wantsStandIn u) = true := by kernel_rfl
  exact (show Tryd.prog.wantsStandIn t = false by simpa using List.all_eq_true.1 hall t hm)

/-- The card. -/
theorem card : Rows.ClockFormsCardSaid :=
  Claim7.holds_tied_plain_at .later [] _ _ _ _ said (fun _ h => by cases h) (by kernel_rfl) (fun _ h => by cases h) clockForms_row_tie rfl ⟨rfl, rfl⟩ (by kernel_rfl) rfl plain (by kernel_rfl)
#print axioms card
end Go.Proofs.YtkiedopknoekpaaDoor.clockForms
