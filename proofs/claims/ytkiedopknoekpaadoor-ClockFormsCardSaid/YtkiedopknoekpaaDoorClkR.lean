/-
  The contract of the specification's Union. Condition: lists of at most 1000 windows.
-/
import Derived.Test.YtkiedopknoekpaaDoorClkG
import Derived.BigRegion
import Derived.IntWalk
namespace Go.Proofs.YtkiedopknoekpaaDoor
open Go.RowKit
set_option linter.unusedVariables false

theorem flatW_set_at (l : List Win) (k : Nat) (a b : Int) : ((flatW l).set (k * 2) (.int .i64 a)).set (k * 2 + 1) (.int .i64 b) = flatW (l.set k (a, b)) := by
  induction l generalizing k with
  | nil => rfl
  | cons x l ih =>
    cases k with
    | zero => rfl
    | succ k =>
      rw [show (k + 1) * 2 = k * 2 + 1 + 1 by omega]
      simp only [flatW, List.set_cons_succ]
      rw [ih k]
theorem lst_set2 (g : Nat → Win) (m k : Nat) (hk : k + 1 < m) : ((lst g m).set k (g (k + 1))).set (k + 1) (g k) = lst (swp2 g k) m := by
  apply List.ext_getElem?
  intro i
  by_cases hi : i < m
  · by_cases c1 : i = k + 1
    · subst c1
      simp [lst, swp2, hi]
    · by_cases c2 : i = k
      · subst c2
        simp [lst, swp2, hi]
      · rw [List.getElem?_set_ne (by omega), List.getElem?_set_ne (by omega)]
        simp [lst, swp2, hi, c1, c2]
  · simp [lst, hi]
theorem OwnW.swap {w : World} {base q n cap : Nat} {g : Nat → Win} {m : Nat} (h : OwnW w base (.slice (some ⟨q, 0, none⟩) n cap) (lst g m)) (k : Nat) (hk : k + 1 < m) :
    OwnW ((((w.setCell ⟨q, k * 2, none⟩ (.int .i64 (g (k + 1)).1)).setCell ⟨q, k * 2 + 1, none⟩ (.int .i64 (g (k + 1)).2)).setCell ⟨q, (k + 1) * 2, none⟩ (.int .i64 (g k).1)).setCell ⟨q, (k + 1) * 2 + 1, none⟩ (.int .i64 (g k).2))
      base (.slice (some ⟨q, 0, none⟩) n cap) (lst (swp2 g k) m) := by
  obtain ⟨q', cap', e, _⟩ := h.form (by rw [lst_length]; omega)
  simp only [Value.slice.injEq, Option.some.injEq, Addr.mk.injEq, and_true] at e
  obtain ⟨rfl, rfl, rfl⟩ := e
  have h0 : w.ownsRow base 23 2 (.slice (some ⟨q, 0, none⟩) (lst g m).length cap) (lst g m).length (flatW (lst g m)) := h
  have h1 := ((((h0.stored (k * 2) (.int .i64 (g (k + 1)).1)).1.stored (k * 2 + 1) (.int .i64 (g (k + 1)).2)).1.stored ((k + 1) * 2) (.int .i64 (g k).1)).1.stored ((k + 1) * 2 + 1) (.int .i64 (g k).2)).1
  rw [flatW_set_at, flatW_set_at] at h1
  have e1 : ((lst g m).set k ((g (k + 1)).1, (g (k + 1)).2)).set (k + 1) ((g k).1, (g k).2) = lst (swp2 g k) m := lst_set2 g m k hk
  rw [e1] at h1
  unfold OwnW
  have e2 : (lst (swp2 g k) m).length = (lst g m).length := by rw [lst_length, lst_length]
  rw [e2]
  exact h1
def put (g : Nat → Win) (m : Nat) (x : Win) : Nat → Win := fun t => if t = m then x else g t
theorem lst_put (g : Nat → Win) (m : Nat) (x : Win) : lst g m ++ [x] = lst (put g m x) (m + 1) := by
  rw [lst_succ]
  congr 1
  · exact lst_congr _ _ _ fun t ht => by unfold put; rw [if_neg (by omega)]
  · unfold put; rw [if_pos rfl]
theorem mem_put (g : Nat → Win) (m : Nat) (x : Win) (L : List Win) (h : ∀ y, mem g m y ↔ y ∈ L) : ∀ y, mem (put g m x) (m + 1) y ↔ y ∈ L ++ [x] := fun y => by
  have e : lst (put g m x) (m + 1) = lst g m ++ [x] := (lst_put g m x).symm
  rw [← lst_mem, e, List.mem_append, lst_mem, h, List.mem_append]
theorem put_lt (g : Nat → Win) (m : Nat) (x : Win) (t : Nat) (h : t < m) : put g m x t = g t := by unfold put; rw [if_neg (by omega)]
theorem put_asc (g : Nat → Win) (m : Nat) (x : Win) (h : ∀ a b, a < b → b < m → (g a).1 ≤ (g b).1) : Sunk (put g m x) (m + 1) m := by
  refine ⟨by omega, fun a b hab hb ha hbm => ?_, fun b hb hbm => by omega⟩
  rw [put_lt _ _ _ _ (by omega), put_lt _ _ _ _ (by omega)]
  exact h a b hab (by omega)
/-- Sorted so far. -/
def AscN (g : Nat → Win) (m : Nat) : Prop := ∀ a b, a < b → b < m → (g a).1 ≤ (g b).1
def SameMem (g : Nat → Win) (m : Nat) (L : List Win) : Prop := ∀ y, mem g m y ↔ y ∈ L

set_option maxRecDepth 100000 in
set_option maxHeartbeats 8000000 in
theorem refUnion_good (l : List Win) (A : Option Addr) (ca : Nat) (w : World) (hl : l.length ≤ 1000) (hwd : WideW l) (hv : allB l = true) (h : WsR w A l) :
    Calls Tryd.prog 22 #[.slice A l.length ca] w (RetWsE w (nf l) 0) := by
  have h1 := check_any l A ca w hl hwd h
  rw [hv] at h1
  have hok := allB_mem hv
  have hnf := fun s hm ha => nf_of_sorted (s := s) hv hm ha
  obtain ⟨n, hn⟩ : ∃ n, l.length = n := ⟨_, rfl⟩
  have HN := Lib.hid hn
  have HW := Lib.hid hwd
  have H := Lib.hid h
  rw [hn] at hl h1 ⊢
  have H1 := Lib.hid h1
  have HOK := Lib.hid hok
  have HNF := Lib.hid hnf
  clear hn hwd h h1 hok hnf hv
  go_enter Tryd.func22, Tryd.ntmps22
  go_wp2_with fail
  refine H1.out.mono ?_
  rintro e w1 ⟨rfl, hb1⟩
  clear H1
  go_wp2_with fail
  go_loopw [4, 5] (fun vs vi wr => ∃ (i : Nat) (g : Nat → Win), vi = .int .i64 (i : Int) ∧ i ≤ n ∧ Hid (AscN g i) ∧ Hid (SameMem g i (l.take i)) ∧ Hid (OwnW wr w1.heap.size vs (lst g i)) ∧ Below w1.heap.size w1 wr) (fun _ vi _ => n - (intOf vi).toNat)
  case atStart => exact ⟨0, fun _ => (0, 0), rfl, by omega, Lib.hid (fun a b _ hb => absurd hb (Nat.not_lt_zero b)), Lib.hid (fun y => by simp [mem]), Lib.hid (OwnW.nil _ _), Below.refl _ _⟩
  case round =>
    obtain ⟨i, g, rfl, hi, hasc, hmem, hown, hB⟩ := hrel
    by_cases hlt : i < n
    · have zi : (i : Int) < (n : Int) := by omega
      have il : i < l.length := by rw [HN.out]; exact hlt
      obtain ⟨b, o, rfl, hbl, hc⟩ := ((H.out.below hb1).below hB) (by omega)
      obtain ⟨c0, c1⟩ := hc i il
      have hts := takeW_snoc l i il
      obtain ⟨x, y, hxy⟩ : ∃ x y, l.getD i (0, 0) = (x, y) := ⟨_, _, rfl⟩
      have hw1 := HW.out.of' il hxy
      rw [hxy] at c0 c1 hts
      have hmem2 : SameMem (put g i (x, y)) (i + 1) (l.take (i + 1)) := by rw [hts]; exact mem_put g i (x, y) _ hmem.out
      have hsk : Sunk (put g i (x, y)) (i + 1) i := put_asc g i (x, y) hasc.out
      have HM2 := Lib.hid hmem2
      have HSK := Lib.hid hsk
      obtain ⟨Ao, co, hvo⟩ := hown.out.len
      rw [lst_length] at hvo
      subst hvo
      clear hc hxy il hts hmem2 hsk hasc hmem
      go_wp2_with (at_builtin; refine wpList_append_win rfl _ _ rfl w1.heap.size _ _ rfl (hown.out.alloc _) wr.heap.size _ x y rfl ?d0 ?d1 ?d2 w1 ?d3 ?d4 ?_)
      case d2 => rw [lst_length]; omega
      case d3 => exact hB.alloc hB.size _
      case d4 => have := hB.size; simp; omega
      intro v4 w4 hO4 hB4
      rw [lst_put] at hO4
      obtain ⟨q, cap4, hv4, hq1, hq2, _, _⟩ := hO4.out.form (by rw [lst_length]; omega)
      rw [lst_length] at hv4
      subst hv4
      clear hown hB c0 c1
      go_wp2_with fail
      go_loopw [6] (fun vk wi => ∃ (k : Nat) (g2 : Nat → Win), vk = .int .i64 (k : Int) ∧ k ≤ i ∧ Hid (Sunk g2 (i + 1) k) ∧ Hid (SameMem g2 (i + 1) (l.take (i + 1))) ∧ Hid (OwnW wi w1.heap.size (.slice (some ⟨q, 0, none⟩) (i + 1) cap4) (lst g2 (i + 1))) ∧ Below w1.heap.size w1 wi) (fun vk _ => (intOf vk).toNat)
      case atStart => exact ⟨i, _, by go_num, Nat.le_refl _, HSK, HM2, hO4, hB4⟩
      case round =>
        clear HSK HM2 hO4 hB4 hq2
        obtain ⟨k, g2, rfl, hki, hsk, hmem, hown, hB⟩ := hrel
        by_cases hk0 : k = 0
        · subst hk0
          have ha : AscN g2 (i + 1) := hsk.out.zero
          have HA := Lib.hid ha
          clear hsk ha
          rw [show ((0 : Nat) : Int) = 0 from rfl]
          have hz0 : ¬ (0 : Int) < 0 := by omega
          go_wp2_with fail
          go_quiet (fail)
          go_wp2
          go_roundw
          case rel => exact ⟨i + 1, g2, by go_num, by omega, HA, hmem, hown, hB.trans ((below_drewN' _ _).mono hB.size)⟩
          case measure => simp only [intOf]; omega
        · obtain ⟨j, rfl⟩ : ∃ j, k = j + 1 := ⟨k - 1, by omega⟩
          obtain ⟨hr, hf, hql⟩ := hown.out.at_ (by rw [lst_length]; omega)
          obtain ⟨r0, r1⟩ := hr j (by rw [lst_length]; omega)
          obtain ⟨r2, r3⟩ := hr (j + 1) (by rw [lst_length]; omega)
          rw [lst_getD _ _ _ (by omega)] at r0 r1 r2 r3
          have hstep := fun h => hsk.out.step (g := g2) (m := i + 1) (k := j) h
          have hstop := fun h => hsk.out.stop (g := g2) (m := i + 1) (k := j) h
          have hswp := hown.out.swap j (by omega)
          have hmsw : SameMem (swp2 g2 j) (i + 1) (l.take (i + 1)) := fun y => (mem_swp2 g2 (i + 1) j (by omega) y).trans (hmem.out y)
          have HST := Lib.hid hstep
          have HSP := Lib.hid hstop
          have HMS := Lib.hid hmsw
          have f0 := hf (j * 2)
          have f1 := hf (j * 2 + 1)
          have f2 := hf ((j + 1) * 2)
          have f3 := hf ((j + 1) * 2 + 1)
          obtain ⟨xa, xb, hxa⟩ : ∃ a b, g2 j = (a, b) := ⟨_, _, rfl⟩
          obtain ⟨ya, yb, hya⟩ : ∃ a b, g2 (j + 1) = (a, b) := ⟨_, _, rfl⟩
          rw [hxa] at r0 r1 HST HSP hswp
          rw [hya] at r2 r3 HST HSP hswp
          have HSW := Lib.hid hswp
          clear hr hf hstep hstop hswp hmsw hxa hya hk0
          have zk : (0 : Int) < ((j + 1 : Nat) : Int) := by omega
          have zk2 : ((j + 1 : Nat) : Int) - 1 = (j : Int) := by omega
          have zj : (j : Int) < ((i + 1 : Nat) : Int) := by omega
          have zj1 : ((j + 1 : Nat) : Int) < ((i + 1 : Nat) : Int) := by omega
          by_cases hgt : ya < xa
          · have HS2 := Lib.hid (HST.out hgt)
            clear HST HSP
            go_wp2_with fail
            go_quiet (fail)
            have HSWn : Hid (OwnW (((((wr.drewN nq).setCell ⟨q, j * 2, none⟩ (.int .i64 ya)).setCell ⟨q, j * 2 + 1, none⟩ (.int .i64 yb)).setCell ⟨q, (j + 1) * 2, none⟩ (.int .i64 xa)).setCell ⟨q, (j + 1) * 2 + 1, none⟩ (.int .i64 xb)) w1.heap.size (.slice (some ⟨q, 0, none⟩) (i + 1) cap4) (lst (swp2 g2 j) (i + 1))) := HSW
            have hBn : Below w1.heap.size w1 (wr.drewN nq) := hB.trans ((below_drewN' _ _).mono hB.size)
            have r0n : (wr.drewN nq).cell? ⟨q, j * 2, none⟩ = some (.int .i64 xa) := r0
            have r1n : (wr.drewN nq).cell? ⟨q, j * 2 + 1, none⟩ = some (.int .i64 xb) := r1
            have r2n : (wr.drewN nq).cell? ⟨q, (j + 1) * 2, none⟩ = some (.int .i64 ya) := r2
            have r3n : (wr.drewN nq).cell? ⟨q, (j + 1) * 2 + 1, none⟩ = some (.int .i64 yb) := r3
            have f0n : (wr.drewN nq).frozen? ⟨q, j * 2, none⟩ = false := f0
            have f1n : (wr.drewN nq).frozen? ⟨q, j * 2 + 1, none⟩ = false := f1
            have f2n : (wr.drewN nq).frozen? ⟨q, (j + 1) * 2, none⟩ = false := f2
            have f3n : (wr.drewN nq).frozen? ⟨q, (j + 1) * 2 + 1, none⟩ = false := f3
            clear hB hown hsk hmem HSW r0 r1 r2 r3 f0 f1 f2 f3 hql
            generalize wr.drewN nq = w3 at HSWn hBn r0n r1n r2n r3n f0n f1n f2n f3n ⊢
            have k1 : (w3.setCell ⟨q, j * 2, none⟩ (.int .i64 ya)).cell? ⟨q, j * 2 + 1, none⟩ = some (.int .i64 xb) := by
              rw [World.cell?_setCell_other _ _ _ _ (by simp)]; exact r1n
            have k2 : ((w3.setCell ⟨q, j * 2, none⟩ (.int .i64 ya)).setCell ⟨q, j * 2 + 1, none⟩ (.int .i64 yb)).cell? ⟨q, (j + 1) * 2, none⟩ = some (.int .i64 ya) := by
              rw [World.cell?_setCell_other _ _ _ _ (by simp <;> omega), World.cell?_setCell_other _ _ _ _ (by simp <;> omega)]; exact r2n
            have k3 : (((w3.setCell ⟨q, j * 2, none⟩ (.int .i64 ya)).setCell ⟨q, j * 2 + 1, none⟩ (.int .i64 yb)).setCell ⟨q, (j + 1) * 2, none⟩ (.int .i64 xa)).cell? ⟨q, (j + 1) * 2 + 1, none⟩ = some (.int .i64 yb) := by
              rw [World.cell?_setCell_other _ _ _ _ (by simp), World.cell?_setCell_other _ _ _ _ (by simp <;> omega), World.cell?_setCell_other _ _ _ _ (by simp <;> omega)]; exact r3n
            go_wp2_with fail
            go_region
            have HSX : Hid (OwnW (((((w3.setCell ⟨q, j * 2, none⟩ (.int .i64 ya)).setCell ⟨q, j * 2 + 1, none⟩ (.int .i64 yb)).setCell ⟨q, (j + 1) * 2, none⟩ (.int .i64 xa)).setCell ⟨q, (j + 1) * 2 + 1, none⟩ (.int .i64 xb)).drew) w1.heap.size (.slice (some ⟨q, 0, none⟩) (i + 1) cap4) (lst (swp2 g2 j) (i + 1))) := HSWn
            have hBx : Below w1.heap.size w1 (((((w3.setCell ⟨q, j * 2, none⟩ (.int .i64 ya)).setCell ⟨q, j * 2 + 1, none⟩ (.int .i64 yb)).setCell ⟨q, (j + 1) * 2, none⟩ (.int .i64 xa)).setCell ⟨q, (j + 1) * 2 + 1, none⟩ (.int .i64 xb)).drew) :=
              ((((hBn.setCell hq1 _).setCell hq1 _).setCell hq1 _).setCell hq1 _).drew
            clear HSWn hBn r0n r1n r2n r3n f0n f1n f2n f3n k1 k2 k3
            generalize ((((w3.setCell ⟨q, j * 2, none⟩ (.int .i64 ya)).setCell ⟨q, j * 2 + 1, none⟩ (.int .i64 yb)).setCell ⟨q, (j + 1) * 2, none⟩ (.int .i64 xa)).setCell ⟨q, (j + 1) * 2 + 1, none⟩ (.int .i64 xb)).drew = w5 at HSX hBx ⊢
            go_wp2
            go_roundw
            case rel => exact ⟨j, _, rfl, by omega, HS2, HMS, HSX, hBx⟩
            case measure => simp only [intOf]; omega
          · have HA : Hid (AscN g2 (i + 1)) := Lib.hid (HSP.out (by show xa ≤ ya; omega))
            clear HST HSP HSW HMS
            go_wp2_with fail
            go_quiet (fail)
            go_wp2
            go_roundw
            case rel => exact ⟨i + 1, g2, by go_num, by omega, HA, hmem, hown, hB.trans ((below_drewN' _ _).mono hB.size)⟩
            case measure => simp only [intOf]; omega
    · have zi : ¬ (i : Int) < (n : Int) := by omega
      have hin : i = n := by omega
      subst hin
      have hs1 : (lst g i).length = i := lst_length g i
      have hs2 : Asc (lst g i) := lst_asc g i hasc.out
      have hs3 : ∀ y, y ∈ lst g i ↔ y ∈ l := fun y => by
        rw [lst_mem, hmem.out y, List.take_of_length_le (by rw [HN.out]; omega)]
      have hfin := HNF.out _ hs3 hs2
      have hokk : ∀ k, k < i → okB ((lst g i).getD k (0, 0)) = true := fun k hk => HOK.out _ ((hs3 _).1 (by simp [hs1, hk]))
      have hrow : WsR wr (some ⟨0, 0, none⟩) [] := fun h => absurd h (Nat.lt_irrefl _)
      obtain ⟨As, cs, hvs⟩ := hown.out.len
      rw [hs1] at hvs
      have hread : 0 < i → ∃ q, As = some ⟨q, 0, none⟩ ∧ q < wr.heap.size ∧ RowW wr q (lst g i) := fun h0 => by
        obtain ⟨q, cap, e, _, h2, h3, _⟩ := hown.out.form (by rw [hs1]; omega)
        rw [hvs] at e
        injection e with e _
        exact ⟨q, e, h2, h3⟩
      subst hvs
      generalize lst g i = s at hs1 hs2 hs3 hfin hokk hread
      have HSF := Lib.hid hfin
      have HSX := Lib.hid hokk
      have HSN := Lib.hid hs1
      have HRD := Lib.hid hread
      clear hs1 hs2 hs3 hfin hokk hread hown hasc hmem H HW HOK HNF HN hrow
      have hb2 : Below w.heap.size w wr := Below.step hb1 hB
      clear hB hb1
      rename World => w2
      go_wp2_with fail
      go_loopw [7, 8] (fun vo vi wj => ∃ (k : Nat) (out : List Win), vi = .int .i64 (k : Int) ∧ k ≤ i ∧ out.length ≤ k ∧ Hid (Mid s out k) ∧ Hid (OwnW wj w2.heap.size vo out) ∧ Below w2.heap.size w2 wj) (fun _ vi _ => i - (intOf vi).toNat)
      case atStart => exact ⟨0, [], rfl, by omega, Nat.le_refl _, Lib.hid (Mid.start s), Lib.hid (OwnW.nil _ _), Below.refl _ _⟩
      case round =>
        obtain ⟨k, out, rfl, hk, hok, hmid, hown, hB⟩ := hrel
        by_cases hlt : k < i
        · have zk : (k : Int) < (i : Int) := by omega
          have hks : k < s.length := by rw [HSN.out]; exact hlt
          obtain ⟨sb, hsb, hsl, hrow⟩ := HRD.out (by omega)
          subst hsb
          obtain ⟨c0, c1⟩ := (hrow.below hB hsl) k hks
          have hx0 := okB_true (HSX.out k hlt)
          have HKS := Lib.hid hks
          obtain ⟨a, b, hab⟩ : ∃ a b, s.getD k (0, 0) = (a, b) := ⟨_, _, rfl⟩
          rw [hab] at c0 c1 hx0
          have hx : 0 ≤ a ∧ a ≤ b ∧ b ≤ 4294944000 := hx0
          have HAB := Lib.hid hab
          clear hks hab hx0 hrow
          obtain ⟨Ao, co, hvo⟩ := hown.out.len
          subst hvo
          by_cases hE : a = b
          · have HM2 := Lib.hid (hmid.out.skip HKS.out HAB.out hE)
            have hEb : (a == b) = true := by rw [hE]; simp
            go_wp2_with fail
            go_quiet (fail)
            go_wp2_with fail
            go_roundw
            case rel => exact ⟨k + 1, out, by go_num, by omega, by omega, HM2, hown, hB.trans ((below_drewN' _ _).mono hB.size)⟩
            case measure => simp only [intOf]; omega
          · have hEb : (a == b) = false := beq_eq_false_iff_ne.2 hE
            rcases List.eq_nil_or_concat out with rfl | ⟨p, ⟨x, y⟩, rfl⟩
            · have HM2 := Lib.hid (hmid.out.first HKS.out HAB.out hE)
              have zz : ¬ (0 : Int) < 0 := by omega
              go_wp2_with fail
              go_quiet (fail)
              have hO3 : Hid (OwnW (wr.drewN nq) w2.heap.size (.slice Ao 0 co) []) := hown
              have hB3 : Below w2.heap.size w2 (wr.drewN nq) := hB.trans ((below_drewN' _ _).mono hB.size)
              have c0n : (wr.drewN nq).cell? ⟨sb, k * 2, none⟩ = some (.int .i64 a) := c0
              have c1n : (wr.drewN nq).cell? ⟨sb, k * 2 + 1, none⟩ = some (.int .i64 b) := c1
              clear hown hB c0 c1
              generalize wr.drewN nq = w3 at hO3 hB3 c0n c1n ⊢
              go_wp2_with fail
              go_quiet (fail)
              have hO4 : Hid (OwnW (w3.drewN nq) w2.heap.size (.slice Ao 0 co) []) := hO3
              have hB4 : Below w2.heap.size w2 (w3.drewN nq) := hB3.trans ((below_drewN' _ _).mono hB3.size)
              have d0n : (w3.drewN nq).cell? ⟨sb, k * 2, none⟩ = some (.int .i64 a) := c0n
              have d1n : (w3.drewN nq).cell? ⟨sb, k * 2 + 1, none⟩ = some (.int .i64 b) := c1n
              clear hO3 hB3 c0n c1n
              generalize w3.drewN nq = w4 at hO4 hB4 d0n d1n ⊢
              go_wp2_with (at_builtin; refine wpList_append_win rfl _ _ rfl w2.heap.size _ _ rfl (hO4.out.alloc _) w4.heap.size _ a b rfl ?f0 ?f1 ?f2 w2 ?f3 ?f4 ?_)
              try (case f0 => rw [World.cell?_alloc_new]; rfl)
              try (case f1 => rw [World.cell?_alloc_new]; rfl)
              case f2 => simp
              case f3 => exact hB4.alloc hB4.size _
              case f4 => have := hB4.size; simp; omega
              intro v5 w5 hO5 hB5
              go_wp2
              go_roundw
              case rel => exact ⟨k + 1, _, by go_num, by omega, by simp, HM2, hO5, hB5⟩
              case measure => simp only [intOf]; omega
            · rw [List.concat_eq_append] at *
              obtain ⟨q, co', hvo, hq1, hq2, hrow, hfz⟩ := hown.out.form (by simp)
              obtain ⟨m, hm⟩ : ∃ m, p.length = m := ⟨_, rfl⟩
              have hle : (p ++ [(x, y)]).length = m + 1 := by simp [hm]
              obtain ⟨r0, r1⟩ := hrow m (by omega)
              have hgx : (p ++ [(x, y)]).getD m (0, 0) = (x, y) := by simp [← hm]
              rw [hgx] at r0 r1
              injection hvo with hAo _ hco
              subst hAo hco
              rw [hle] at hok hown ⊢
              have HLE := Lib.hid hle
              have HM := Lib.hid hm
              have f1 := hfz (m * 2 + 1)
              clear hgx hle hrow hm hfz
              have zm : (0 : Int) < ((m + 1 : Nat) : Int) := by omega
              have hz : ((m + 1 : Nat) : Int) - 1 = (m : Int) := by omega
              have hmz : (m : Int) < ((m + 1 : Nat) : Int) := by omega
              by_cases hj : a ≤ y
              · have HM2 := Lib.hid (hmid.out.join HKS.out HAB.out hE hj)
                go_wp2_with fail
                go_quiet (fail)
                have hO3 : Hid (OwnW (wr.drewN nq) w2.heap.size (.slice (some ⟨q, 0, none⟩) (m + 1) co) (p ++ [(x, y)])) := hown
                have hB3 : Below w2.heap.size w2 (wr.drewN nq) := hB.trans ((below_drewN' _ _).mono hB.size)
                have c0n : (wr.drewN nq).cell? ⟨sb, k * 2, none⟩ = some (.int .i64 a) := c0
                have c1n : (wr.drewN nq).cell? ⟨sb, k * 2 + 1, none⟩ = some (.int .i64 b) := c1
                have r1n : (wr.drewN nq).cell? ⟨q, m * 2 + 1, none⟩ = some (.int .i64 y) := r1
                have f1n : (wr.drewN nq).frozen? ⟨q, m * 2 + 1, none⟩ = false := f1
                clear hown hB c0 c1 r0 r1 f1 hmid
                generalize wr.drewN nq = w3 at hO3 hB3 c0n c1n r1n f1n ⊢
                go_wp2_with fail
                go_quiet (fail)
                have hO4 : Hid (OwnW (w3.drewN nq) w2.heap.size (.slice (some ⟨q, 0, none⟩) (m + 1) co) (p ++ [(x, y)])) := hO3
                have hB4 : Below w2.heap.size w2 (w3.drewN nq) := hB3.trans ((below_drewN' _ _).mono hB3.size)
                have d1n : (w3.drewN nq).cell? ⟨sb, k * 2 + 1, none⟩ = some (.int .i64 b) := c1n
                have s1n : (w3.drewN nq).cell? ⟨q, m * 2 + 1, none⟩ = some (.int .i64 y) := r1n
                have g1n : (w3.drewN nq).frozen? ⟨q, m * 2 + 1, none⟩ = false := f1n
                clear hO3 hB3 c0n c1n r1n f1n
                generalize w3.drewN nq = w4 at hO4 hB4 d1n s1n g1n ⊢
                have h5 := hO4.out.last (max y b)
                rw [HM.out] at h5
                have hO5 : Hid (OwnW ((w4.setCell ⟨q, m * 2 + 1, none⟩ (.int .i64 (max y b))).drew) w2.heap.size (.slice (some ⟨q, 0, none⟩) (m + 1) co) (p ++ [(x, max y b)])) := Lib.hid h5
                have hB5 : Below w2.heap.size w2 ((w4.setCell ⟨q, m * 2 + 1, none⟩ (.int .i64 (max y b))).drew) := (hB4.setCell hq1 _).drew
                clear h5 hO4 hB4
                go_wp2_with fail
                go_region
                clear d1n s1n g1n
                generalize (w4.setCell ⟨q, m * 2 + 1, none⟩ (.int .i64 (max y b))).drew = w5 at hO5 hB5 ⊢
                go_wp2
                go_roundw
                case rel => exact ⟨k + 1, _, by go_num, by omega, by have := HLE.out; simp at this ⊢; omega, HM2, hO5, hB5⟩
                case measure => simp only [intOf]; omega
              · have HM2 := Lib.hid (hmid.out.apart HKS.out HAB.out hE hj)
                go_wp2_with fail
                go_quiet (fail)
                have hO3 : Hid (OwnW (wr.drewN nq) w2.heap.size (.slice (some ⟨q, 0, none⟩) (m + 1) co) (p ++ [(x, y)])) := hown
                have hB3 : Below w2.heap.size w2 (wr.drewN nq) := hB.trans ((below_drewN' _ _).mono hB.size)
                have c0n : (wr.drewN nq).cell? ⟨sb, k * 2, none⟩ = some (.int .i64 a) := c0
                have c1n : (wr.drewN nq).cell? ⟨sb, k * 2 + 1, none⟩ = some (.int .i64 b) := c1
                have r1n : (wr.drewN nq).cell? ⟨q, m * 2 + 1, none⟩ = some (.int .i64 y) := r1
                clear hown hB c0 c1 r0 r1 f1 hmid
                generalize wr.drewN nq = w3 at hO3 hB3 c0n c1n r1n ⊢
                go_wp2_with fail
                go_quiet (fail)
                have hO4 : Hid (OwnW (w3.drewN nq) w2.heap.size (.slice (some ⟨q, 0, none⟩) (m + 1) co) (p ++ [(x, y)])) := hO3
                have hB4 : Below w2.heap.size w2 (w3.drewN nq) := hB3.trans ((below_drewN' _ _).mono hB3.size)
                have d0n : (w3.drewN nq).cell? ⟨sb, k * 2, none⟩ = some (.int .i64 a) := c0n
                have d1n : (w3.drewN nq).cell? ⟨sb, k * 2 + 1, none⟩ = some (.int .i64 b) := c1n
                clear hO3 hB3 c0n c1n r1n
                generalize w3.drewN nq = w4 at hO4 hB4 d0n d1n ⊢
                go_wp2_with (at_builtin; refine wpList_append_win rfl _ _ rfl w2.heap.size _ _ rfl (hO4.out.alloc _) w4.heap.size _ a b rfl ?e0 ?e1 ?e2 w2 ?e3 ?e4 ?_)
                try (case e0 => rw [World.cell?_alloc_new]; rfl)
                try (case e1 => rw [World.cell?_alloc_new]; rfl)
                case e2 => rw [HLE.out]; omega
                case e3 => exact hB4.alloc hB4.size _
                case e4 => have := hB4.size; simp; omega
                intro v5 w5 hO5 hB5
                go_wp2
                go_roundw
                case rel => exact ⟨k + 1, _, by go_num, by omega, by have := HLE.out; simp at this ⊢; omega, HM2, by simpa using hO5, hB5⟩
                case measure => simp only [intOf]; omega
        · have hnlt : ¬ (k : Int) < (i : Int) := by omega
          have hout := hmid.out.done (by rw [HSN.out]; omega)
          rw [HSF.out] at hout
          subst hout
          clear hmid
          obtain ⟨Ao, co, e, hr, hb⟩ := hown.out.ret (hb2.trans (hB.mono hb2.size))
          injection e with e
          subst e
          go_wp2
          go_ret2
          exact ⟨Ao, co, rfl, hr, hb⟩
end Go.Proofs.YtkiedopknoekpaaDoor
