/-
  The contract of the specification's Minus. Condition: lists of at most 500 windows.
-/
import Derived.Test.YtkiedopknoekpaaDoorClkT
namespace Go.Proofs.YtkiedopknoekpaaDoor
open Go.RowKit
set_option linter.unusedVariables false

theorem rests_step (u v : List Win) (i : Nat) (hi : i < u.length) : rests (u.drop i) v = mi (u.getD i (0, 0)).2 (u.getD i (0, 0)).1 v ++ rests (u.drop (i + 1)) v := by
  rw [dropW_cons u i hi, rests]
theorem mi_skip1 (tz f : Int) (v : List Win) (k : Nat) (a b : Int) (hk : k < v.length) (hx : v.getD k (0, 0) = (a, b)) (h : b ≤ f) : mi tz f (v.drop k) = mi tz f (v.drop (k + 1)) := by
  rw [dropW_cons v k hk, hx, mi, if_pos (show (a, b).2 ≤ f from h)]
theorem mi_skip2 (tz f : Int) (v : List Win) (k : Nat) (a b : Int) (hk : k < v.length) (hx : v.getD k (0, 0) = (a, b)) (h : tz ≤ a) : mi tz f (v.drop k) = mi tz f (v.drop (k + 1)) := by
  rw [dropW_cons v k hk, hx, mi]
  by_cases c : (a, b).2 ≤ f
  · rw [if_pos c]
  · rw [if_neg c, if_pos (show tz ≤ (a, b).1 from h)]
theorem mi_cut1 (tz f : Int) (v : List Win) (k : Nat) (a b : Int) (hk : k < v.length) (hx : v.getD k (0, 0) = (a, b)) (h1 : ¬ b ≤ f) (h2 : ¬ tz ≤ a) (h3 : f < a) : mi tz f (v.drop k) = [(f, a)] ++ mi tz b (v.drop (k + 1)) := by
  rw [dropW_cons v k hk, hx, mi, if_neg (show ¬ (a, b).2 ≤ f from h1), if_neg (show ¬ tz ≤ (a, b).1 from h2), if_pos (show f < (a, b).1 from h3)]
  rfl
theorem mi_cut2 (tz f : Int) (v : List Win) (k : Nat) (a b : Int) (hk : k < v.length) (hx : v.getD k (0, 0) = (a, b)) (h1 : ¬ b ≤ f) (h2 : ¬ tz ≤ a) (h3 : ¬ f < a) : mi tz f (v.drop k) = mi tz b (v.drop (k + 1)) := by
  rw [dropW_cons v k hk, hx, mi, if_neg (show ¬ (a, b).2 ≤ f from h1), if_neg (show ¬ tz ≤ (a, b).1 from h2), if_neg (show ¬ f < (a, b).1 from h3)]
theorem mi_end_yes {tz f : Int} (h : f < tz) : mi tz f [] = [(f, tz)] := if_pos h
theorem mi_end_no {tz f : Int} (h : ¬ f < tz) : mi tz f [] = [] := if_neg h

set_option maxRecDepth 100000 in
set_option maxHeartbeats 4000000 in
theorem refMinus_any (l m : List Win) (A B : Option Addr) (ca ca' : Nat) (w : World) (hl : l.length ≤ 300) (hm : m.length ≤ 300) (hwd : WideW l) (hwd' : WideW m) (h : WsR w A l) (h' : WsR w B m) :
    Calls Tryd.prog 26 #[.slice A l.length ca, .slice B m.length ca'] w (RetWsE w (minusS l m).1 (minusS l m).2) := by
  have h1 := refUnion_any l A ca w (by omega) hwd h
  have h2 := fun w' (hb : Below w.heap.size w w') => refUnion_any m B ca' w' (by omega) hwd' (h'.below hb)
  by_cases hvv : allB l = true ∧ allB m = true
  · obtain ⟨hv, hv'⟩ := hvv
    have e : minusS l m = (mns l m, 0) := by simp [minusS, hv, hv']
    have e1 : unionS l = (nf l, 0) := by simp [unionS, hv]
    have e2 : unionS m = (nf m, 0) := by simp [unionS, hv']
    rw [e]
    rw [e1] at h1
    simp only [e2] at h2
    have hp := mns_rests hv hv'
    have hlu : (nf l).length ≤ 300 := Nat.le_trans (nf_len l) hl
    have hlv : (nf m).length ≤ 300 := Nat.le_trans (nf_len m) hm
    have hwu := wide_of_all (allB_of_nf (nf_nf hv).1)
    have hwv := wide_of_all (allB_of_nf (nf_nf hv').1)
    have H1 := Lib.hid h1
    have H2 := Lib.hid h2
    generalize mns l m = r at hp ⊢
    generalize nf l = u at H1 hp hlu hwu
    generalize nf m = v at H2 hp hlv hwv
    generalize l.length = n at H1 ⊢
    generalize m.length = n' at H2 ⊢
    subst hp
    have HWU := Lib.hid hwu
    have HWV := Lib.hid hwv
    clear h1 h2 hv hv' e e1 e2 h h' hwd hwd' hl hm hwu hwv
    obtain ⟨p, hp⟩ : ∃ n, u.length = n := ⟨_, rfl⟩
    obtain ⟨q, hq⟩ : ∃ n, v.length = n := ⟨_, rfl⟩
    have HP := Lib.hid hp
    have HQ := Lib.hid hq
    rw [hp] at hlu
    rw [hq] at hlv
    have H1' : Hid (Calls Tryd.prog 22 #[.slice A n ca] w fun e w' => ∃ A cap, e = .returned (.tuple #[.slice A p cap, .int .i64 0]) ∧ WsR w' A u ∧ Below w.heap.size w w') := Lib.hid (H1.out.mono fun e w' ⟨A, cap, he, ha, hb⟩ => ⟨A, cap, by rw [← hp]; exact he, ha, hb⟩)
    have H2' : Hid (∀ w', Below w.heap.size w w' → Calls Tryd.prog 22 #[.slice B n' ca'] w' fun e w'' => ∃ A cap, e = .returned (.tuple #[.slice A q cap, .int .i64 0]) ∧ WsR w'' A v ∧ Below w'.heap.size w' w'') := Lib.hid (fun w' hb => (H2.out w' hb).mono fun e w' ⟨A, cap, he, ha, hb⟩ => ⟨A, cap, by rw [← hq]; exact he, ha, hb⟩)
    clear hp hq H1 H2
    go_enter Tryd.func26, Tryd.ntmps26
    go_wp2_with fail
    refine H1'.out.mono ?_
    rintro e w1 ⟨P, cp, rfl, hpu, hb1⟩
    go_wp2_with fail
    refine (H2'.out w1 hb1).mono ?_
    rintro e w2 ⟨Q, cq, rfl, hqv, hb2⟩
    have HU := Lib.hid (hpu.below hb2)
    have HV := Lib.hid hqv
    have hb12 : Below w.heap.size w w2 := Below.step hb1 hb2
    clear hpu hqv hb1 hb2 H1' H2'
    go_wp2_with fail
    go_loopw [10, 11] (fun vo vi wr => ∃ (i : Nat) (out : List Win), vi = .int .i64 (i : Int) ∧ i ≤ p ∧ out.length ≤ i * (q + 1) ∧ Hid (out ++ rests (u.drop i) v = rests u v) ∧ Hid (OwnW wr w2.heap.size vo out) ∧ Below w2.heap.size w2 wr) (fun _ vi _ => p - (intOf vi).toNat)
    case atStart => exact ⟨0, [], rfl, by omega, by simp, rfl, Lib.hid (OwnW.nil _ _), Below.refl _ _⟩
    case round =>
      obtain ⟨i, out, rfl, hi, hol, hrem, hown, hB⟩ := hrel
      by_cases hip : i < p
      · have zi : (i : Int) < (p : Int) := by omega
        have il : i < u.length := by rw [HP.out]; exact hip
        have hr := hrem.out
        rw [rests_step u v i il] at hr
        have hmul : (i + 1) * (q + 1) ≤ 300 * 301 := Nat.mul_le_mul (by omega) (by omega)
        have hmul2 : i * (q + 1) + (q + 1) = (i + 1) * (q + 1) := by rw [Nat.add_mul i 1 (q + 1)]; omega
        obtain ⟨b, o, rfl, hbl, hc⟩ := (HU.out.below hB) (by omega)
        obtain ⟨c0, c1⟩ := hc i il
        obtain ⟨x, y, hxy⟩ : ∃ x y, u.getD i (0, 0) = (x, y) := ⟨_, _, rfl⟩
        have hw1 := HWU.out.of il hxy
        rw [hxy] at c0 c1 hr
        have HR : Hid (out ++ (mi y x v ++ rests (u.drop (i + 1)) v) = rests u v) := Lib.hid hr
        have hbw : b < w2.heap.size := by
          obtain ⟨b2, o2, e, h2, _⟩ := HU.out (by omega)
          injection e with e; injection e with e; omega
        have HCU : Hid (∀ W, Below w2.heap.size w2 W → W.cell? ⟨b, o + i * 2 + 1, none⟩ = some (.int .i64 y)) := Lib.hid fun W hW => by
          rw [hW.cell (p := ⟨b, o + i * 2 + 1, none⟩) hbw, ← hB.cell (p := ⟨b, o + i * 2 + 1, none⟩) hbw]
          exact c1
        obtain ⟨RS, hRS⟩ : ∃ r, rests (u.drop (i + 1)) v = r := ⟨_, rfl⟩
        rw [hRS] at HR
        have HRS := Lib.hid hRS
        clear hr hrem il hc hxy hRS
        go_wp2_with fail
        go_loopw [10, 12, 13] (fun vo vf vk wr => ∃ (k : Nat) (f : Int) (out : List Win), vk = .int .i64 (k : Int) ∧ vf = .int .i64 f ∧ -9223372036854775808 ≤ f ∧ f ≤ 9223372036854775807 ∧ k ≤ q ∧ out.length ≤ i * (q + 1) + k ∧ Hid (out ++ (mi y f (v.drop k) ++ RS) = rests u v) ∧ Hid (OwnW wr w2.heap.size vo out) ∧ Below w2.heap.size w2 wr) (fun _ _ vk _ => q - (intOf vk).toNat)
        case atStart => exact ⟨0, x, out, rfl, rfl, by omega, by omega, by omega, by omega, HR, hown, hB⟩
        case round =>
          clear HR hown hB hol c0 c1 hbl
          obtain ⟨k, f, out, rfl, rfl, hf0, hf1, hk, hol, hrem, hown, hB⟩ := hrel
          by_cases hkq : k < q
          · have zk : (k : Int) < (q : Int) := by omega
            have jm : k < v.length := by rw [HQ.out]; exact hkq
            obtain ⟨b', o', rfl, hbl', hc'⟩ := (HV.out.below hB) (by omega)
            obtain ⟨e0, e1⟩ := hc' k jm
            have c1 := HCU.out _ hB
            obtain ⟨x', y', hxy'⟩ : ∃ x y, v.getD k (0, 0) = (x, y) := ⟨_, _, rfl⟩
            have hw2 := HWV.out.of jm hxy'
            rw [hxy'] at e0 e1
            have S1 := Lib.hid (mi_skip1 y f v k x' y' jm hxy')
            have S2 := Lib.hid (mi_skip2 y f v k x' y' jm hxy')
            have S3 := Lib.hid (mi_cut1 y f v k x' y' jm hxy')
            have S4 := Lib.hid (mi_cut2 y f v k x' y' jm hxy')
            have hbw' : b' < w2.heap.size := by
              obtain ⟨b2, o2, e, h2, _⟩ := HV.out (by omega)
              injection e with e; injection e with e; omega
            have HCV : Hid (∀ W, Below w2.heap.size w2 W → W.cell? ⟨b', o' + k * 2 + 1, none⟩ = some (.int .i64 y')) := Lib.hid fun W hW => by
              rw [hW.cell (p := ⟨b', o' + k * 2 + 1, none⟩) hbw', ← hB.cell (p := ⟨b', o' + k * 2 + 1, none⟩) hbw']
              exact e1
            obtain ⟨Ao, co, hvo⟩ := hown.out.len
            subst hvo
            clear hc' hxy' jm
            by_cases g1 : y' ≤ f
            · have hr := hrem.out
              rw [S1.out g1] at hr
              have HR2 := Lib.hid hr
              clear hr hrem S1 S2 S3 S4
              go_wp2_with fail
              go_quiet (fail)
              go_wp2
              go_roundw
              case rel => exact ⟨k + 1, f, out, by go_num, rfl, by omega, by omega, by omega, by omega, HR2, hown, hB.trans ((below_drewN' _ _).mono hB.size)⟩
              case measure => simp only [intOf]; omega
            · by_cases g2 : y ≤ x'
              · have hr := hrem.out
                rw [S2.out g2] at hr
                have HR2 := Lib.hid hr
                clear hr hrem S1 S2 S3 S4
                go_wp2_with fail
                go_quiet (fail)
                go_wp2
                go_roundw
                case rel => exact ⟨k + 1, f, out, by go_num, rfl, by omega, by omega, by omega, by omega, HR2, hown, hB.trans ((below_drewN' _ _).mono hB.size)⟩
                case measure => simp only [intOf]; omega
              · by_cases g3 : f < x'
                · have hr := hrem.out
                  rw [S3.out g1 g2 g3, List.append_assoc, ← List.append_assoc] at hr
                  have HR2 : Hid (out ++ [(f, x')] ++ (mi y y' (v.drop (k + 1)) ++ RS) = rests u v) := Lib.hid hr
                  clear hr hrem S1 S2 S3 S4
                  go_wp2_with fail
                  go_quiet (fail)
                  have hO3 : Hid (OwnW (wr.drewN nq) w2.heap.size (.slice Ao out.length co) out) := hown
                  have hB3 : Below w2.heap.size w2 (wr.drewN nq) := hB.trans ((below_drewN' _ _).mono hB.size)
                  have e0n : (wr.drewN nq).cell? ⟨b', o' + k * 2, none⟩ = some (.int .i64 x') := e0
                  clear hown hB e0 e1 c1 hbl'
                  generalize wr.drewN nq = w3 at hO3 hB3 e0n ⊢
                  go_wp2_with (at_builtin; refine wpList_append_win rfl _ _ rfl w2.heap.size _ _ rfl (hO3.out.alloc _) w3.heap.size _ f x' rfl ?d0 ?d1 ?d2 w2 ?d3 ?d4 ?_)
                  try (case d0 => rw [World.cell?_alloc_new]; rfl)
                  try (case d1 => rw [World.cell?_alloc_new]; rfl)
                  case d2 => omega
                  case d3 => exact hB3.alloc hB3.size _
                  case d4 => have := hB3.size; simp; omega
                  intro v4 w4 hO4 hB4
                  have e1n := HCV.out w4 hB4
                  clear hO3 hB3 e0n
                  go_wp2
                  go_roundw
                  case rel => exact ⟨k + 1, y', _, by go_num, rfl, by omega, by omega, by omega, by simp; omega, HR2, hO4, hB4⟩
                  case measure => simp only [intOf]; omega
                · have hr := hrem.out
                  rw [S4.out g1 g2 g3] at hr
                  have HR2 := Lib.hid hr
                  clear hr hrem S1 S2 S3 S4
                  go_wp2_with fail
                  go_quiet (fail)
                  go_wp2
                  go_roundw
                  case rel => exact ⟨k + 1, y', out, by go_num, rfl, by omega, by omega, by omega, by omega, HR2, hown, hB.trans ((below_drewN' _ _).mono hB.size)⟩
                  case measure => simp only [intOf]; omega
          · have zk : ¬ (k : Int) < (q : Int) := by omega
            have hr := hrem.out
            rw [show v.drop k = [] from List.drop_eq_nil_of_le (by rw [HQ.out]; omega)] at hr
            have c1 := HCU.out _ hB
            obtain ⟨Ao, co, hvo⟩ := hown.out.len
            subst hvo
            clear hrem
            by_cases g : f < y
            · rw [mi_end_yes g, ← List.append_assoc, ← HRS.out] at hr
              have HR3 := Lib.hid hr
              clear hr
              go_wp2_with (at_builtin; refine wpList_append_win rfl _ _ rfl w2.heap.size _ _ rfl (hown.out.alloc _) wr.heap.size _ f y rfl ?f0 ?f1 ?f2 w2 ?f3 ?f4 ?_)
              try (case f0 => rw [World.cell?_alloc_new]; rfl)
              try (case f1 => rw [World.cell?_alloc_new]; rfl)
              case f2 => omega
              case f3 => exact hB.alloc hB.size _
              case f4 => have := hB.size; simp; omega
              intro v4 w4 hO4 hB4
              go_wp2
              go_roundw
              case rel => exact ⟨i + 1, _, by go_num, by omega, by simp; omega, HR3, hO4, hB4⟩
              case measure => simp only [intOf]; omega
            · rw [mi_end_no g, List.nil_append, ← HRS.out] at hr
              have HR3 := Lib.hid hr
              clear hr
              go_wp2
              go_roundw
              case rel => exact ⟨i + 1, out, by go_num, by omega, by omega, HR3, hown, hB⟩
              case measure => simp only [intOf]; omega
      · have zi : ¬ (i : Int) < (p : Int) := by omega
        have hr := hrem.out
        rw [show u.drop i = [] from List.drop_eq_nil_of_le (by rw [HP.out]; omega), rests, List.append_nil] at hr
        subst hr
        obtain ⟨Ao, co, e, hrr, hbb⟩ := hown.out.ret (hb12.trans (hB.mono hb12.size))
        injection e with e
        subst e
        clear hrem
        go_wp2
        go_ret2
        exact ⟨Ao, co, rfl, hrr, hbb⟩
  · have e : minusS l m = ([], 1) := by
      unfold minusS
      rw [if_neg]
      simp only [Bool.and_eq_true]
      exact hvv
    rw [e]
    have e1 : (unionS l).2 = if allB l then 0 else 1 := by unfold unionS; split <;> rfl
    have e2 : (unionS m).2 = if allB m then 0 else 1 := by unfold unionS; split <;> rfl
    by_cases hv : allB l = true
    · have hv' : allB m = false := by
        cases hh : allB m
        · rfl
        · exact absurd ⟨hv, hh⟩ hvv
      rw [hv, if_pos rfl] at e1
      rw [hv', if_neg (by decide)] at e2
      rw [e1] at h1
      simp only [e2] at h2
      have H1 := Lib.hid h1
      have H2 := Lib.hid h2
      generalize (unionS l).1 = u at H1
      generalize (unionS m).1 = v at H2
      generalize l.length = n at H1 ⊢
      generalize m.length = n' at H2 ⊢
      clear h1 h2 hv hv' e e1 e2 h h' hwd hwd' hl hm hvv
      go_enter Tryd.func26, Tryd.ntmps26
      go_wp2_with fail
      refine H1.out.mono ?_
      rintro e w1 ⟨P, cp, rfl, hpu, hb1⟩
      generalize u.length = p
      go_wp2_with fail
      refine (H2.out w1 hb1).mono ?_
      rintro e w2 ⟨Q, cq, rfl, hqv, hb2⟩
      generalize v.length = q
      go_wp2_with fail
      go_ret2
      exact ⟨none, 0, rfl, fun hh => absurd hh (Nat.lt_irrefl _), Below.step hb1 hb2⟩
    · have hv2 : allB l = false := by simpa using hv
      rw [hv2, if_neg (by decide)] at e1
      rw [e1] at h1
      have H1 := Lib.hid h1
      have H2 := Lib.hid h2
      generalize (unionS l).1 = u at H1
      generalize (unionS m).1 = v at H2
      generalize (unionS m).2 = E at H2
      generalize l.length = n at H1 ⊢
      generalize m.length = n' at H2 ⊢
      clear h1 h2 hv hv2 e e1 e2 h h' hwd hwd' hl hm hvv
      go_enter Tryd.func26, Tryd.ntmps26
      go_wp2_with fail
      refine H1.out.mono ?_
      rintro e w1 ⟨P, cp, rfl, hpu, hb1⟩
      generalize u.length = p
      go_wp2_with fail
      refine (H2.out w1 hb1).mono ?_
      rintro e w2 ⟨Q, cq, rfl, hqv, hb2⟩
      generalize v.length = q
      go_wp2_with fail
      go_ret2
      exact ⟨none, 0, rfl, fun hh => absurd hh (Nat.lt_irrefl _), Below.step hb1 hb2⟩
end Go.Proofs.YtkiedopknoekpaaDoor
