/-
  The contract of the specification's Common. Condition: lists of at most 500 windows.
-/
import Derived.Test.YtkiedopknoekpaaDoorClkS
namespace Go.Proofs.YtkiedopknoekpaaDoor
open Go.RowKit
set_option linter.unusedVariables false

theorem prods_step (u v : List Win) (i : Nat) (hi : i < u.length) : prods (u.drop i) v = row (u.getD i (0, 0)) v ++ prods (u.drop (i + 1)) v := by
  rw [dropW_cons u i hi, prods]
theorem row_step (x : Win) (v : List Win) (k : Nat) (hk : k < v.length) : row x (v.drop k) = cap x (v.getD k (0, 0)) ++ row x (v.drop (k + 1)) := by
  rw [dropW_cons v k hk, row]

set_option maxRecDepth 100000 in
set_option maxHeartbeats 4000000 in
theorem refCommon_any (l m : List Win) (A B : Option Addr) (ca ca' : Nat) (w : World) (hl : l.length ≤ 300) (hm : m.length ≤ 300) (hwd : WideW l) (hwd' : WideW m) (h : WsR w A l) (h' : WsR w B m) :
    Calls Tryd.prog 24 #[.slice A l.length ca, .slice B m.length ca'] w (RetWsE w (commonS l m).1 (commonS l m).2) := by
  have h1 := refUnion_any l A ca w (by omega) hwd h
  have h2 := fun w' (hb : Below w.heap.size w w') => refUnion_any m B ca' w' (by omega) hwd' (h'.below hb)
  by_cases hvv : allB l = true ∧ allB m = true
  · obtain ⟨hv, hv'⟩ := hvv
    have e : commonS l m = (com l m, 0) := by simp [commonS, hv, hv']
    have e1 : unionS l = (nf l, 0) := by simp [unionS, hv]
    have e2 : unionS m = (nf m, 0) := by simp [unionS, hv']
    rw [e]
    rw [e1] at h1
    simp only [e2] at h2
    have hp := com_prods hv hv'
    have hlu : (nf l).length ≤ 300 := Nat.le_trans (nf_len l) hl
    have hlv : (nf m).length ≤ 300 := Nat.le_trans (nf_len m) hm
    have hwu := wide_of_all (allB_of_nf (nf_nf hv).1)
    have hwv := wide_of_all (allB_of_nf (nf_nf hv').1)
    have H1 := Lib.hid h1
    have H2 := Lib.hid h2
    generalize com l m = r at hp ⊢
    generalize nf l = u at H1 hp hlu hwu
    generalize nf m = v at H2 hp hlv hwv
    generalize l.length = n at H1 ⊢
    generalize m.length = n' at H2 ⊢
    subst hp
    have HWU := Lib.hid hwu
    have HWV := Lib.hid hwv
    clear h1 h2 hv hv' e e1 e2 h h' hwd hwd' hl hm hwu hwv
    obtain ⟨p, hp⟩ : ∃ n, u.length = n := ⟨_, rfl⟩
    obtain ⟨q, hq⟩ : ∃ n, v.length = n := ⟨_, rfl⟩
    have HP := Lib.hid hp
    have HQ := Lib.hid hq
    rw [hp] at hlu
    rw [hq] at hlv
    have H1' : Hid (Calls Tryd.prog 22 #[.slice A n ca] w fun e w' => ∃ A cap, e = .returned (.tuple #[.slice A p cap, .int .i64 0]) ∧ WsR w' A u ∧ Below w.heap.size w w') := Lib.hid (H1.out.mono fun e w' ⟨A, cap, he, ha, hb⟩ => ⟨A, cap, by rw [← hp]; exact he, ha, hb⟩)
    have H2' : Hid (∀ w', Below w.heap.size w w' → Calls Tryd.prog 22 #[.slice B n' ca'] w' fun e w'' => ∃ A cap, e = .returned (.tuple #[.slice A q cap, .int .i64 0]) ∧ WsR w'' A v ∧ Below w'.heap.size w' w'') := Lib.hid (fun w' hb => (H2.out w' hb).mono fun e w' ⟨A, cap, he, ha, hb⟩ => ⟨A, cap, by rw [← hq]; exact he, ha, hb⟩)
    clear hp hq H1 H2
    go_enter Tryd.func24, Tryd.ntmps24
    go_wp2_with fail
    refine H1'.out.mono ?_
    rintro e w1 ⟨P, cp, rfl, hpu, hb1⟩
    go_wp2_with fail
    refine (H2'.out w1 hb1).mono ?_
    rintro e w2 ⟨Q, cq, rfl, hqv, hb2⟩
    have HU := Lib.hid (hpu.below hb2)
    have HV := Lib.hid hqv
    have hb12 : Below w.heap.size w w2 := Below.step hb1 hb2
    clear hpu hqv hb1 hb2 H1' H2'
    go_wp2_with fail
    go_loopw [10, 11] (fun vo vi wr => ∃ (i : Nat) (out : List Win), vi = .int .i64 (i : Int) ∧ i ≤ p ∧ out.length ≤ i * q ∧ Hid (out ++ prods (u.drop i) v = prods u v) ∧ Hid (OwnW wr w2.heap.size vo out) ∧ Below w2.heap.size w2 wr) (fun _ vi _ => p - (intOf vi).toNat)
    case atStart => exact ⟨0, [], rfl, by omega, by simp, rfl, Lib.hid (OwnW.nil _ _), Below.refl _ _⟩
    case round =>
      obtain ⟨i, out, rfl, hi, hol, hrem, hown, hB⟩ := hrel
      by_cases hip : i < p
      · have zi : (i : Int) < (p : Int) := by omega
        have il : i < u.length := by rw [HP.out]; exact hip
        have hr := hrem.out
        rw [prods_step u v i il] at hr
        have HR := Lib.hid hr
        have hmul : (i + 1) * q ≤ 300 * 300 := Nat.mul_le_mul (by omega) hlv
        have hmul2 : i * q + q = (i + 1) * q := by rw [Nat.add_mul]; omega
        clear hr hrem il
        go_wp2_with fail
        go_loopw [10, 12] (fun vo vk wr => ∃ (k : Nat) (out : List Win), vk = .int .i64 (k : Int) ∧ k ≤ q ∧ out.length ≤ i * q + k ∧ Hid (out ++ (row (u.getD i (0, 0)) (v.drop k) ++ prods (u.drop (i + 1)) v) = prods u v) ∧ Hid (OwnW wr w2.heap.size vo out) ∧ Below w2.heap.size w2 wr) (fun _ vk _ => q - (intOf vk).toNat)
        case atStart => exact ⟨0, out, rfl, by omega, by omega, HR, hown, hB⟩
        case round =>
          clear HR hown hB hol
          obtain ⟨k, out, rfl, hk, hol, hrem, hown, hB⟩ := hrel
          by_cases hkq : k < q
          · have zk : (k : Int) < (q : Int) := by omega
            have il : i < u.length := by rw [HP.out]; exact hip
            have jm : k < v.length := by rw [HQ.out]; exact hkq
            have hr := hrem.out
            rw [row_step _ v k jm, List.append_assoc] at hr
            obtain ⟨b, o, rfl, hbl, hc⟩ := (HU.out.below hB) (by omega)
            obtain ⟨b', o', rfl, hbl', hc'⟩ := (HV.out.below hB) (by omega)
            obtain ⟨c0, c1⟩ := hc i il
            obtain ⟨e0, e1⟩ := hc' k jm
            obtain ⟨x, y, hxy⟩ : ∃ x y, u.getD i (0, 0) = (x, y) := ⟨_, _, rfl⟩
            obtain ⟨x', y', hxy'⟩ : ∃ x y, v.getD k (0, 0) = (x, y) := ⟨_, _, rfl⟩
            have hw1 := HWU.out.of il hxy
            have hw2 := HWV.out.of jm hxy'
            rw [hxy] at c0 c1 hr ⊢
            rw [hxy'] at e0 e1 hr
            have HXY := Lib.hid hxy
            obtain ⟨REST, hREST⟩ : ∃ r, (row (x, y) (v.drop (k + 1)) ++ prods (u.drop (i + 1)) v) = r := ⟨_, rfl⟩
            rw [hREST] at hr
            have HRE := Lib.hid hREST
            have HR2 := Lib.hid hr
            have hbw : b < w2.heap.size := by
              obtain ⟨b2, o2, e, h2, _⟩ := HU.out (by omega)
              injection e with e; injection e with e; omega
            have hbw' : b' < w2.heap.size := by
              obtain ⟨b2, o2, e, h2, _⟩ := HV.out (by omega)
              injection e with e; injection e with e; omega
            have hbr : b < wr.heap.size := Nat.lt_of_lt_of_le hbw hB.size
            have hbr' : b' < wr.heap.size := Nat.lt_of_lt_of_le hbw' hB.size
            obtain ⟨Ao, co, hvo⟩ := hown.out.len
            subst hvo
            obtain ⟨M, hM⟩ : ∃ M, max x x' = M := ⟨_, rfl⟩
            obtain ⟨N, hN⟩ : ∃ N, min y y' = N := ⟨_, rfl⟩
            have HM1 := Lib.hid hM
            have HN1 := Lib.hid hN
            clear hc hc' hxy hxy' hrem hr il jm hREST
            go_upto_region 12 with (fail)
            go_cut [13] (fun s8 wx => s8 = .pointer (some ⟨wr.heap.size, 0, none⟩) ∧ Hid (OwnW wx w2.heap.size (.slice Ao out.length co) out) ∧ Below w2.heap.size w2 wx ∧ wx.cell? ⟨wr.heap.size, 0, none⟩ = some (.int .i64 M) ∧ wx.cell? ⟨wr.heap.size, 1, none⟩ = some (.int .i64 N))
            case first =>
              go_region
              go_wp2_with fail
              go_meet
              exact ⟨rfl, Lib.hid (hown.out.alloc _), (hB.alloc hB.size _).drew, by show (wr.alloc _).cell? _ = _; rw [World.cell?_alloc_new]; rfl, by show (wr.alloc _).cell? _ = _; rw [World.cell?_alloc_new]; rfl⟩
            case rest =>
              obtain ⟨rfl, hO, hB3, p0, p1⟩ := hcut
              clear hown c0 c1 e0 e1 hM hN hB hbl hbl' hbr hbr' hw1 hw2
              by_cases hMN : M < N
              · have hR2 := HR2.out
                rw [cap_yes (by rw [HM1.out, HN1.out]; exact hMN), HM1.out, HN1.out, ← List.append_assoc, ← HRE.out] at hR2
                have HR3 := Lib.hid hR2
                clear HR2 hR2 HRE HM1 HN1
                go_wp2_with (at_builtin; refine wpList_append_win rfl _ _ rfl w2.heap.size _ _ rfl (hO.out.alloc _) wc.heap.size _ M N rfl ?d0 ?d1 ?d2 w2 ?d3 ?d4 ?_)
                try (case d0 => rw [World.cell?_alloc_new]; rfl)
                try (case d1 => rw [World.cell?_alloc_new]; rfl)
                case d2 => omega
                case d3 => exact hB3.alloc hB3.size _
                case d4 => have := hB3.size; simp; omega
                intro v4 w4 hO4 hB4
                go_wp2
                go_roundw
                case rel => exact ⟨k + 1, _, by go_num, by omega, by simp; omega, HR3, hO4, hB4⟩
                case measure => simp only [intOf]; omega
              · have hR2 := HR2.out
                rw [cap_no (by rw [HM1.out, HN1.out]; exact hMN), List.nil_append, ← HRE.out] at hR2
                have HR3 := Lib.hid hR2
                clear HR2 hR2 HRE HM1 HN1
                go_wp2
                go_roundw
                case rel => exact ⟨k + 1, _, by go_num, by omega, by omega, HR3, hO, hB3⟩
                case measure => simp only [intOf]; omega
          · have zk : ¬ (k : Int) < (q : Int) := by omega
            have hr := hrem.out
            rw [show v.drop k = [] from List.drop_eq_nil_of_le (by rw [HQ.out]; omega)] at hr
            have HR3 : Hid (out ++ prods (u.drop (i + 1)) v = prods u v) := Lib.hid hr
            clear hrem hr
            go_wp2
            go_roundw
            case rel => exact ⟨i + 1, out, by go_num, by omega, by omega, HR3, hown, hB⟩
            case measure => simp only [intOf]; omega
      · have zi : ¬ (i : Int) < (p : Int) := by omega
        have hr := hrem.out
        rw [show u.drop i = [] from List.drop_eq_nil_of_le (by rw [HP.out]; omega), prods, List.append_nil] at hr
        subst hr
        obtain ⟨Ao, co, e, hrr, hbb⟩ := hown.out.ret (hb12.trans (hB.mono hb12.size))
        injection e with e
        subst e
        clear hrem
        go_wp2
        go_ret2
        exact ⟨Ao, co, rfl, hrr, hbb⟩
  · have e : commonS l m = ([], 1) := by
      unfold commonS
      rw [if_neg]
      simp only [Bool.and_eq_true]
      exact hvv
    rw [e]
    have e1 : (unionS l).2 = if allB l then 0 else 1 := by unfold unionS; split <;> rfl
    have e2 : (unionS m).2 = if allB m then 0 else 1 := by unfold unionS; split <;> rfl
    by_cases hv : allB l = true
    · have hv' : allB m = false := by
        cases hh : allB m
        · rfl
        · exact absurd ⟨hv, hh⟩ hvv
      rw [hv, if_pos rfl] at e1
      rw [hv', if_neg (by decide)] at e2
      rw [e1] at h1
      simp only [e2] at h2
      have H1 := Lib.hid h1
      have H2 := Lib.hid h2
      generalize (unionS l).1 = u at H1
      generalize (unionS m).1 = v at H2
      generalize l.length = n at H1 ⊢
      generalize m.length = n' at H2 ⊢
      clear h1 h2 hv hv' e e1 e2 h h' hwd hwd' hl hm hvv
      go_enter Tryd.func24, Tryd.ntmps24
      go_wp2_with fail
      refine H1.out.mono ?_
      rintro e w1 ⟨P, cp, rfl, hpu, hb1⟩
      generalize u.length = p
      go_wp2_with fail
      refine (H2.out w1 hb1).mono ?_
      rintro e w2 ⟨Q, cq, rfl, hqv, hb2⟩
      generalize v.length = q
      go_wp2_with fail
      go_ret2
      exact ⟨none, 0, rfl, fun hh => absurd hh (Nat.lt_irrefl _), Below.step hb1 hb2⟩
    · have hv2 : allB l = false := by simpa using hv
      rw [hv2, if_neg (by decide)] at e1
      rw [e1] at h1
      have H1 := Lib.hid h1
      have H2 := Lib.hid h2
      generalize (unionS l).1 = u at H1
      generalize (unionS m).1 = v at H2
      generalize (unionS m).2 = E at H2
      generalize l.length = n at H1 ⊢
      generalize m.length = n' at H2 ⊢
      clear h1 h2 hv hv2 e e1 e2 h h' hwd hwd' hl hm hvv
      go_enter Tryd.func24, Tryd.ntmps24
      go_wp2_with fail
      refine H1.out.mono ?_
      rintro e w1 ⟨P, cp, rfl, hpu, hb1⟩
      generalize u.length = p
      go_wp2_with fail
      refine (H2.out w1 hb1).mono ?_
      rintro e w2 ⟨Q, cq, rfl, hqv, hb2⟩
      generalize v.length = q
      go_wp2_with fail
      go_ret2
      exact ⟨none, 0, rfl, fun hh => absurd hh (Nat.lt_irrefl _), Below.step hb1 hb2⟩
end Go.Proofs.YtkiedopknoekpaaDoor
