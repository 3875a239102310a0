/-
  The contracts of overlaps, gaps, Union, Common, Minus and Length of package clock. Condition: lists of at most 1000 windows.
-/
import Derived.Test.YtkiedopknoekpaaDoorClkE
import Derived.BigRegion
import Derived.Deep.DeepCutAuto
namespace Go.Proofs.YtkiedopknoekpaaDoor
open Go.RowKit
set_option linter.unusedVariables false

theorem ov_step (a b : List Win) (i j : Nat) (x y x' y' : Int) (hi : i < a.length) (hj : j < b.length) (hx : a.getD i (0, 0) = (x, y)) (hy : b.getD j (0, 0) = (x', y')) :
    ov (a.drop i) (b.drop j) = cap (x, y) (x', y') ++ (if y < y' then ov (a.drop (i + 1)) (b.drop j) else ov (a.drop i) (b.drop (j + 1))) := by
  have e1 := dropW_cons a i hi
  have e2 := dropW_cons b j hj
  rw [hx] at e1
  rw [hy] at e2
  rw [e1, e2, ov_cons]
theorem cap_yes {x y x' y' : Int} (h : max x x' < min y y') : cap (x, y) (x', y') = [(max x x', min y y')] := if_pos h
theorem cap_no {x y x' y' : Int} (h : ¬ max x x' < min y y') : cap (x, y) (x', y') = [] := if_neg h
theorem WideW.of {l : List Win} {k : Nat} {x y : Int} (h : WideW l) (hk : k < l.length) (e : l.getD k (0, 0) = (x, y)) : -9223372036854775808 ≤ x ∧ x ≤ 9223372036854775807 ∧ -9223372036854775808 ≤ y ∧ y ≤ 9223372036854775807 := by
  have := h k hk
  rw [e] at this
  exact this

/-- Two cells that were there when the call began hold these numbers, whatever the call has made since. -/
def Kept2 (w : World) (p q : Addr) (y y' : Int) : Prop := ∀ W, Below w.heap.size w W → W.cell? p = some (.int .i64 y) ∧ W.cell? q = some (.int .i64 y')

set_option maxRecDepth 100000 in
set_option maxHeartbeats 4000000 in
theorem overlaps_any (l m : List Win) (A B : Option Addr) (ca ca' : Nat) (w : World) (hl : l.length ≤ 2000) (hm : m.length ≤ 2000) (hwd : WideW l) (hwd' : WideW m) (h : WsR w A l) (h' : WsR w B m) :
    Calls Tryd.prog 41 #[.slice A l.length ca, .slice B m.length ca'] w (RetWs w (ov l m)) := by
  obtain ⟨p, hp⟩ : ∃ n, l.length = n := ⟨_, rfl⟩
  obtain ⟨q, hq⟩ : ∃ n, m.length = n := ⟨_, rfl⟩
  have HP := Lib.hid hp
  have HQ := Lib.hid hq
  have H := Lib.hid h
  have H' := Lib.hid h'
  have HW := Lib.hid hwd
  have HW' := Lib.hid hwd'
  rw [hp] at hl ⊢
  rw [hq] at hm ⊢
  clear hp hq h h' hwd hwd'
  go_enter Tryd.func41, Tryd.ntmps41
  go_wp2_with fail
  go_loopw [5, 6, 7] (fun vo vi vj wr => ∃ (i j : Nat) (out : List Win), vi = .int .i64 (i : Int) ∧ vj = .int .i64 (j : Int) ∧ i ≤ p ∧ j ≤ q ∧ out.length ≤ i + j ∧ Hid (out ++ ov (l.drop i) (m.drop j) = ov l m) ∧ Hid (OwnW wr w.heap.size vo out) ∧ Below w.heap.size w wr) (fun _ vi vj _ => (p - (intOf vi).toNat) + (q - (intOf vj).toNat))
  case atStart => exact ⟨0, 0, [], rfl, rfl, by omega, by omega, by simp, rfl, Lib.hid (OwnW.nil _ _), Below.refl _ _⟩
  case round =>
    obtain ⟨i, j, out, rfl, rfl, hi, hj, hol, hrem, hown, hB⟩ := hrel
    by_cases hlt : i < p ∧ j < q
    · obtain ⟨hip, hjq⟩ := hlt
      have zi : (i : Int) < (p : Int) := by omega
      have zj : (j : Int) < (q : Int) := by omega
      have il : i < l.length := by rw [HP.out]; exact hip
      have jm : j < m.length := by rw [HQ.out]; exact hjq
      obtain ⟨b, o, rfl, hbl, hc⟩ := (H.out.below hB) (by omega)
      obtain ⟨b', o', rfl, hbl', hc'⟩ := (H'.out.below hB) (by omega)
      obtain ⟨c0, c1⟩ := hc i il
      obtain ⟨e0, e1⟩ := hc' j jm
      obtain ⟨x, y, hxy⟩ : ∃ x y, l.getD i (0, 0) = (x, y) := ⟨_, _, rfl⟩
      obtain ⟨x', y', hxy'⟩ : ∃ x y, m.getD j (0, 0) = (x, y) := ⟨_, _, rfl⟩
      have hw1 := HW.out.of il hxy
      have hw2 := HW'.out.of jm hxy'
      have hst := ov_step l m i j x y x' y' il jm hxy hxy'
      rw [hxy] at c0 c1
      rw [hxy'] at e0 e1
      rw [hst] at hrem
      have hr := hrem.out
      have HR := Lib.hid hr
      have hbw : b < w.heap.size := by
        obtain ⟨b2, o2, e, h2, _⟩ := H.out (by omega)
        injection e with e; injection e with e; omega
      have hbw' : b' < w.heap.size := by
        obtain ⟨b2, o2, e, h2, _⟩ := H'.out (by omega)
        injection e with e; injection e with e; omega
      have HC : Kept2 w ⟨b, o + i * 2 + 1, none⟩ ⟨b', o' + j * 2 + 1, none⟩ y y' := fun W hW => by
        rw [hW.cell (p := ⟨b, o + i * 2 + 1, none⟩) hbw, hW.cell (p := ⟨b', o' + j * 2 + 1, none⟩) hbw', ← hB.cell (p := ⟨b, o + i * 2 + 1, none⟩) hbw, ← hB.cell (p := ⟨b', o' + j * 2 + 1, none⟩) hbw']
        exact ⟨c1, e1⟩
      have hbr : b < wr.heap.size := Nat.lt_of_lt_of_le hbw hB.size
      have hbr' : b' < wr.heap.size := Nat.lt_of_lt_of_le hbw' hB.size
      obtain ⟨Ao, co, hvo⟩ := hown.out.len
      subst hvo
      obtain ⟨M, hM⟩ : ∃ M, max x x' = M := ⟨_, rfl⟩
      obtain ⟨N, hN⟩ : ∃ N, min y y' = N := ⟨_, rfl⟩
      clear hc hc' hxy hxy' hst hrem hr il jm
      have HM1 := Lib.hid hM
      have HN1 := Lib.hid hN
      obtain ⟨REST, hREST⟩ : ∃ r, (if y < y' then ov (l.drop (i + 1)) (m.drop j) else ov (l.drop i) (m.drop (j + 1))) = r := ⟨_, rfl⟩
      have hr2 := HR.out
      rw [hREST] at hr2
      have HRE := Lib.hid hREST
      have HR2 := Lib.hid hr2
      clear HR hr2 hREST
      go_upto_region 4 with (fail)
      go_cut [8] (fun s8 wx => s8 = .pointer (some ⟨wr.heap.size, 0, none⟩) ∧ Hid (OwnW wx w.heap.size (.slice Ao out.length co) out) ∧ Below w.heap.size w wx ∧ wx.cell? ⟨wr.heap.size, 0, none⟩ = some (.int .i64 M) ∧ wx.cell? ⟨wr.heap.size, 1, none⟩ = some (.int .i64 N))
      case first =>
        go_region
        go_wp2_with fail
        go_meet
        exact ⟨rfl, Lib.hid (hown.out.alloc _), (hB.alloc hB.size _).drew, by show (wr.alloc _).cell? _ = _; rw [World.cell?_alloc_new]; rfl, by show (wr.alloc _).cell? _ = _; rw [World.cell?_alloc_new]; rfl⟩
      case rest =>
        obtain ⟨rfl, hO, hB3, p0, p1⟩ := hcut
        clear hown c0 c1 e0 e1 hM hN
        go_upto_if 46 with (fail)
        go_cut [5] (fun s5 wx => ∃ out2, out2.length ≤ i + j + 1 ∧ Hid (out2 ++ REST = ov l m) ∧ Hid (OwnW wx w.heap.size s5 out2) ∧ Below w.heap.size w wx)
        case first =>
          by_cases hMN : M < N
          · have hR2 := HR2.out
            rw [cap_yes (by rw [HM1.out, HN1.out]; exact hMN), HM1.out, HN1.out, ← List.append_assoc] at hR2
            have HR3 := Lib.hid hR2
            clear HR2 hR2
            go_wp2_with (at_builtin; refine wpList_append_win rfl _ _ rfl w.heap.size _ _ rfl (hO.out.alloc _) wc.heap.size _ M N rfl ?d0 ?d1 ?d2 w ?d3 ?d4 ?_)
            try (case d0 => rw [World.cell?_alloc_new]; rfl)
            try (case d1 => rw [World.cell?_alloc_new]; rfl)
            case d2 => omega
            case d3 => exact hB3.alloc hB3.size _
            case d4 => have := hB3.size; simp; omega
            intro v4 w4 hO4 hB4
            go_wp2_with fail
            go_meet
            exact ⟨_, by simp; omega, HR3, hO4, hB4⟩
          · have hR2 := HR2.out
            rw [cap_no (by rw [HM1.out, HN1.out]; exact hMN), List.nil_append] at hR2
            have HR3 := Lib.hid hR2
            clear HR2 hR2
            go_wp2_with fail
            go_meet
            exact ⟨_, by omega, HR3, hO, hB3⟩
        case rest =>
          obtain ⟨out2, hol2, hR3, hO4, hB4⟩ := hcut
          obtain ⟨c1, e1⟩ := HC _ hB4
          clear hO hB3 p0 p1 HC HR2 HM1 HN1
          by_cases hyy : y < y'
          · have hRE := HRE.out
            rw [if_pos hyy] at hRE
            have HRX := Lib.hid hRE.symm
            clear HRE hRE
            go_wp2_with fail
            go_quiet (fail)
            go_wp2
            go_roundw
            case rel => exact ⟨i + 1, j, _, by go_num, rfl, by omega, by omega, by omega, by rw [← HRX.out]; exact hR3, hO4, hB4.trans ((below_drewN' _ _).mono hB4.size)⟩
            case measure => simp only [intOf]; omega
          · have hRE := HRE.out
            rw [if_neg hyy] at hRE
            have HRX := Lib.hid hRE.symm
            clear HRE hRE
            go_wp2_with fail
            go_quiet (fail)
            go_wp2
            go_roundw
            case rel => exact ⟨i, j + 1, _, rfl, by go_num, by omega, by omega, by omega, by rw [← HRX.out]; exact hR3, hO4, hB4.trans ((below_drewN' _ _).mono hB4.size)⟩
            case measure => simp only [intOf]; omega
    · have hout : out = ov l m := by
        have hr := hrem.out
        by_cases c : i < p
        · rw [show m.drop j = [] from List.drop_eq_nil_of_le (by rw [HQ.out]; omega), ov_nil', List.append_nil] at hr
          exact hr
        · rw [show l.drop i = [] from List.drop_eq_nil_of_le (by rw [HP.out]; omega), ov_nil, List.append_nil] at hr
          exact hr
      subst hout
      clear hrem
      by_cases c : i < p
      · have zi : (i : Int) < (p : Int) := by omega
        have zj : ¬ (j : Int) < (q : Int) := by omega
        go_wp2
        go_ret
        exact hown.out.ret hB
      · have zi : ¬ (i : Int) < (p : Int) := by omega
        go_wp2
        go_ret
        exact hown.out.ret hB
end Go.Proofs.YtkiedopknoekpaaDoor
