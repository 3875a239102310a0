/-
  The contracts of Common and Minus of package clock, of the specification's Union and Length. Condition: lists of at most 500 windows.
-/
import Derived.Test.YtkiedopknoekpaaDoorClkF
import Derived.Test.YtkiedopknoekpaaDoorClkR
namespace Go.Proofs.YtkiedopknoekpaaDoor
open Go.RowKit
set_option linter.unusedVariables false

def commonS (l m : List Win) : List Win × Int := if allB l && allB m then (com l m, 0) else ([], 1)
def minusS (l m : List Win) : List Win × Int := if allB l && allB m then (mns l m, 0) else ([], 1)
theorem wide_of_all {l : List Win} (h : allB l = true) : WideW l := fun k hk => by
  have := okB_true (allB_mem h (l.getD k (0, 0)) (by simp [hk]))
  omega
theorem RetWs.use {w : World} {r : List Win} {e : Ending} {w' : World} (h : RetWs w r e w') : ∃ A cap, e = .returned (.slice A r.length cap) ∧ WsR w' A r ∧ Below w.heap.size w w' := h

set_option maxRecDepth 100000 in
set_option maxHeartbeats 1000000 in
theorem common_any (l m : List Win) (A B : Option Addr) (ca ca' : Nat) (w : World) (hl : l.length ≤ 500) (hm : m.length ≤ 500) (hwd : WideW l) (hwd' : WideW m) (h : WsR w A l) (h' : WsR w B m) :
    Calls Tryd.prog 23 #[.slice A l.length ca, .slice B m.length ca'] w (RetWsE w (commonS l m).1 (commonS l m).2) := by
  have h1 := fun w' (hb : Below w.heap.size w w') => allValid_any l A ca w' (by omega) hwd (h.below hb)
  have h2 := fun w' (hb : Below w.heap.size w w') => allValid_any m B ca' w' (by omega) hwd' (h'.below hb)
  have n1 := fun w' (hb : Below w.heap.size w w') hv => normal_any l A ca w' (by omega) hv hwd (h.below hb)
  have n2 := fun w' (hb : Below w.heap.size w w') hv => normal_any m B ca' w' (by omega) hv hwd' (h'.below hb)
  cases hv : allB l
  · have e : commonS l m = ([], 1) := by simp [commonS, hv]
    rw [e]
    simp only [hv] at h1
    have H1 := Lib.hid h1
    generalize l.length = n at H1 ⊢
    generalize m.length = n' at ⊢
    clear h1 h2 n1 n2 hv e h h' hwd hwd' hl hm
    go_enter Tryd.func23, Tryd.ntmps23
    go_wp2_with fail
    refine (H1.out w (Below.refl _ _)).mono ?_
    rintro e w1 ⟨rfl, hb1⟩
    go_wp2_with fail
    go_ret2
    exact ⟨none, 0, rfl, fun hh => absurd hh (Nat.lt_irrefl _), hb1⟩
  cases hv' : allB m
  · have e : commonS l m = ([], 1) := by simp [commonS, hv']
    rw [e]
    simp only [hv] at h1
    simp only [hv'] at h2
    have H1 := Lib.hid h1
    have H2 := Lib.hid h2
    generalize l.length = n at H1 ⊢
    generalize m.length = n' at H2 ⊢
    clear h1 h2 n1 n2 hv hv' e h h' hwd hwd' hl hm
    go_enter Tryd.func23, Tryd.ntmps23
    go_wp2_with fail
    refine (H1.out w (Below.refl _ _)).mono ?_
    rintro e w1 ⟨rfl, hb1⟩
    go_wp2_with fail
    refine (H2.out w1 hb1).mono ?_
    rintro e w2 ⟨rfl, hb2⟩
    go_wp2_with fail
    go_ret2
    exact ⟨none, 0, rfl, fun hh => absurd hh (Nat.lt_irrefl _), Below.step hb1 hb2⟩
  · have e : commonS l m = (com l m, 0) := by simp [commonS, hv, hv']
    rw [e]
    simp only [hv] at h1
    simp only [hv'] at h2
    have o1 := fun P Q ca ca' w' (hp : WsR w' P (nf l)) (hq : WsR w' Q (nf m)) => overlaps_any (nf l) (nf m) P Q ca ca' w' (by have := nf_len l; omega) (by have := nf_len m; omega) (wide_of_all (allB_of_nf (nf_nf hv).1)) (wide_of_all (allB_of_nf (nf_nf hv').1)) hp hq
    have H1 := Lib.hid h1
    have H2 := Lib.hid h2
    have N1 := Lib.hid (fun w' hb => n1 w' hb hv)
    have N2 := Lib.hid (fun w' hb => n2 w' hb hv')
    have O1 : Hid (∀ P Q ca ca' w', WsR w' P (nf l) → WsR w' Q (nf m) → Calls Tryd.prog 41 #[.slice P (nf l).length ca, .slice Q (nf m).length ca'] w' (RetWs w' (com l m))) := Lib.hid o1
    generalize com l m = r at O1 ⊢
    generalize nf l = u at N1 O1
    generalize nf m = v at N2 O1
    generalize l.length = n at H1 N1 ⊢
    generalize m.length = n' at H2 N2 ⊢
    clear h1 h2 n1 n2 o1 hv hv' e h h' hwd hwd' hl hm
    go_enter Tryd.func23, Tryd.ntmps23
    go_wp2_with fail
    refine (H1.out w (Below.refl _ _)).mono ?_
    rintro e w1 ⟨rfl, hb1⟩
    go_wp2_with fail
    refine (H2.out w1 hb1).mono ?_
    rintro e w2 ⟨rfl, hb2⟩
    have hb12 := Below.step hb1 hb2
    go_wp2_with fail
    refine (N1.out w2 hb12).mono ?_
    rintro e w3 ⟨P, cp, rfl, hp, hb3⟩
    have hb13 := Below.step hb12 hb3
    go_wp2_with fail
    refine (N2.out w3 hb13).mono ?_
    rintro e w4 ⟨Q, cq, rfl, hq, hb4⟩
    have hb14 := Below.step hb13 hb4
    have HPQ := Lib.hid (O1.out P Q cp cq w4 (hp.below hb4) hq)
    clear hp hq O1 N1 N2 H1 H2 hb1 hb2 hb3 hb4 hb12 hb13
    generalize u.length = nu at HPQ ⊢
    generalize v.length = nv at HPQ ⊢
    go_wp2_with fail
    refine HPQ.out.mono ?_
    rintro e w5 ⟨R, cr, rfl, hr, hb5⟩
    have hb15 := Below.step hb14 hb5
    go_wp2_with fail
    go_ret2
    exact ⟨R, cr, rfl, hr, hb15⟩

set_option maxRecDepth 100000 in
set_option maxHeartbeats 1000000 in
theorem minus_any (l m : List Win) (A B : Option Addr) (ca ca' : Nat) (w : World) (hl : l.length ≤ 500) (hm : m.length ≤ 500) (hwd : WideW l) (hwd' : WideW m) (h : WsR w A l) (h' : WsR w B m) :
    Calls Tryd.prog 25 #[.slice A l.length ca, .slice B m.length ca'] w (RetWsE w (minusS l m).1 (minusS l m).2) := by
  have h1 := fun w' (hb : Below w.heap.size w w') => allValid_any l A ca w' (by omega) hwd (h.below hb)
  have h2 := fun w' (hb : Below w.heap.size w w') => allValid_any m B ca' w' (by omega) hwd' (h'.below hb)
  have n1 := fun w' (hb : Below w.heap.size w w') hv => normal_any l A ca w' (by omega) hv hwd (h.below hb)
  have n2 := fun w' (hb : Below w.heap.size w w') hv => normal_any m B ca' w' (by omega) hv hwd' (h'.below hb)
  cases hv : allB l
  · have e : minusS l m = ([], 1) := by simp [minusS, hv]
    rw [e]
    simp only [hv] at h1
    have H1 := Lib.hid h1
    generalize l.length = n at H1 ⊢
    generalize m.length = n' at ⊢
    clear h1 h2 n1 n2 hv e h h' hwd hwd' hl hm
    go_enter Tryd.func25, Tryd.ntmps25
    go_wp2_with fail
    refine (H1.out w (Below.refl _ _)).mono ?_
    rintro e w1 ⟨rfl, hb1⟩
    go_wp2_with fail
    go_ret2
    exact ⟨none, 0, rfl, fun hh => absurd hh (Nat.lt_irrefl _), hb1⟩
  cases hv' : allB m
  · have e : minusS l m = ([], 1) := by simp [minusS, hv']
    rw [e]
    simp only [hv] at h1
    simp only [hv'] at h2
    have H1 := Lib.hid h1
    have H2 := Lib.hid h2
    generalize l.length = n at H1 ⊢
    generalize m.length = n' at H2 ⊢
    clear h1 h2 n1 n2 hv hv' e h h' hwd hwd' hl hm
    go_enter Tryd.func25, Tryd.ntmps25
    go_wp2_with fail
    refine (H1.out w (Below.refl _ _)).mono ?_
    rintro e w1 ⟨rfl, hb1⟩
    go_wp2_with fail
    refine (H2.out w1 hb1).mono ?_
    rintro e w2 ⟨rfl, hb2⟩
    go_wp2_with fail
    go_ret2
    exact ⟨none, 0, rfl, fun hh => absurd hh (Nat.lt_irrefl _), Below.step hb1 hb2⟩
  · have e : minusS l m = (mns l m, 0) := by simp [minusS, hv, hv']
    rw [e]
    simp only [hv] at h1
    simp only [hv'] at h2
    have hgn := (gp_nf 0 (-1) (nf m) (nf_nf hv').1 (by omega)).1
    have hga : allB (gp 0 (nf m)) = true := allB_of_nf hgn
    have o1 := fun P Q ca ca' w' (hp : WsR w' P (nf l)) (hq : WsR w' Q (gp 0 (nf m))) => overlaps_any (nf l) (gp 0 (nf m)) P Q ca ca' w' (by have := nf_len l; omega) (by have := nf_len m; have := gp_len 0 (nf m); omega) (wide_of_all (allB_of_nf (nf_nf hv).1)) (wide_of_all hga) hp hq
    have g1 := fun Q ca w' (hq : WsR w' Q (nf m)) => gaps_any (nf m) Q ca w' (by have := nf_len m; omega) (wide_of_all (allB_of_nf (nf_nf hv').1)) hq
    have H1 := Lib.hid h1
    have H2 := Lib.hid h2
    have N1 := Lib.hid (fun w' hb => n1 w' hb hv)
    have N2 := Lib.hid (fun w' hb => n2 w' hb hv')
    have O1 : Hid (∀ P Q ca ca' w', WsR w' P (nf l) → WsR w' Q (gp 0 (nf m)) → Calls Tryd.prog 41 #[.slice P (nf l).length ca, .slice Q (gp 0 (nf m)).length ca'] w' (RetWs w' (mns l m))) := Lib.hid o1
    have G1 := Lib.hid g1
    generalize mns l m = r at O1 ⊢
    generalize gp 0 (nf m) = z at O1 G1
    generalize nf l = u at N1 O1
    generalize nf m = v at N2 G1
    generalize l.length = n at H1 N1 ⊢
    generalize m.length = n' at H2 N2 ⊢
    clear h1 h2 n1 n2 o1 g1 hgn hga hv hv' e h h' hwd hwd' hl hm
    go_enter Tryd.func25, Tryd.ntmps25
    go_wp2_with fail
    refine (H1.out w (Below.refl _ _)).mono ?_
    rintro e w1 ⟨rfl, hb1⟩
    go_wp2_with fail
    refine (H2.out w1 hb1).mono ?_
    rintro e w2 ⟨rfl, hb2⟩
    have hb12 := Below.step hb1 hb2
    go_wp2_with fail
    refine (N1.out w2 hb12).mono ?_
    rintro e w3 ⟨P, cp, rfl, hp, hb3⟩
    have hb13 := Below.step hb12 hb3
    go_wp2_with fail
    refine (N2.out w3 hb13).mono ?_
    rintro e w4 ⟨Q, cq, rfl, hq, hb4⟩
    have hb14 := Below.step hb13 hb4
    have HG := Lib.hid (G1.out Q cq w4 hq)
    have hp4 := Lib.hid (hp.below hb4)
    clear hp hq G1 N1 N2 H1 H2 hb1 hb2 hb3 hb4 hb12 hb13
    generalize v.length = nv at HG ⊢
    go_wp2_with fail
    refine HG.out.mono ?_
    rintro e w5 ⟨S, cs, rfl, hs, hb5⟩
    have hb15 := Below.step hb14 hb5
    have HPQ := Lib.hid (O1.out P S cp cs w5 (hp4.out.below hb5) hs)
    clear hs hp4 O1 HG hb5 hb14
    generalize u.length = nu at HPQ ⊢
    generalize z.length = nz at HPQ ⊢
    go_wp2_with fail
    refine HPQ.out.mono ?_
    rintro e w6 ⟨R, cr, rfl, hr, hb6⟩
    have hb16 := Below.step hb15 hb6
    go_wp2_with fail
    go_ret2
    exact ⟨R, cr, rfl, hr, hb16⟩

set_option maxRecDepth 100000 in
set_option maxHeartbeats 1000000 in
theorem refUnion_any (l : List Win) (A : Option Addr) (ca : Nat) (w : World) (hl : l.length ≤ 1000) (hwd : WideW l) (h : WsR w A l) :
    Calls Tryd.prog 22 #[.slice A l.length ca] w (RetWsE w (unionS l).1 (unionS l).2) := by
  cases hv : allB l
  · have e : unionS l = ([], 1) := by simp [unionS, hv]
    rw [e]
    have h1 := check_any l A ca w hl hwd h
    simp only [hv] at h1
    have H1 := Lib.hid h1
    generalize l.length = n at H1 ⊢
    clear h1 hv e h hwd hl
    go_enter Tryd.func22, Tryd.ntmps22
    go_wp2_with fail
    refine H1.out.mono ?_
    rintro e w1 ⟨rfl, hb1⟩
    go_wp2_with fail
    go_ret2
    exact ⟨none, 0, rfl, fun hh => absurd hh (Nat.lt_irrefl _), hb1⟩
  · have e : unionS l = (nf l, 0) := by simp [unionS, hv]
    rw [e]
    exact refUnion_good l A ca w hl hwd hv h

set_option maxRecDepth 100000 in
set_option maxHeartbeats 2000000 in
theorem refLength_any (l : List Win) (A : Option Addr) (ca : Nat) (w : World) (hl : l.length ≤ 1000) (hwd : WideW l) (h : WsR w A l) :
    Calls Tryd.prog 28 #[.slice A l.length ca] w fun e w' => e = .returned (.tuple #[.int .i64 (lengthS l).1, .int .i64 (lengthS l).2]) ∧ Below w.heap.size w w' := by
  have h1 := refUnion_any l A ca w hl hwd h
  cases hv : allB l
  · have e : lengthS l = (0, 1) := by simp [lengthS, hv]
    have e2 : unionS l = ([], 1) := by simp [unionS, hv]
    rw [e]
    rw [e2] at h1
    have H1 := Lib.hid h1
    generalize l.length = n at H1 ⊢
    clear h1 hv e e2 h hwd hl
    go_enter Tryd.func28, Tryd.ntmps28
    go_wp2_with fail
    refine H1.out.mono ?_
    rintro e w1 ⟨B, cap, rfl, hr2, hb1⟩
    clear hr2
    go_wp2_with fail
    go_ret2
    exact ⟨rfl, hb1⟩
  · have e : lengthS l = (len (nf l), 0) := by simp [lengthS, hv]
    have e2 : unionS l = (nf l, 0) := by simp [unionS, hv]
    rw [e]
    rw [e2] at h1
    have hnf := (nf_nf hv).1
    have hrl : (nf l).length ≤ 1000 := Nat.le_trans (nf_len l) hl
    have hbd := fun k => len_bd _ _ _ (nf_takes _ _ _ hnf (by omega) k) (by omega)
    have hok := fun k (hk : k < (nf l).length) => okB_true (hnf.ok (by omega) (by omega) ((nf l).getD k (0, 0)) (by simp [hk]))
    have H1 := Lib.hid h1
    generalize l.length = n at H1 ⊢
    generalize nf l = r at H1 hnf hrl hbd hok ⊢
    clear h1 hv e e2 h hwd hl
    have HBD := Lib.hid hbd
    have HOK := Lib.hid hok
    clear hnf hbd hok
    go_enter Tryd.func28, Tryd.ntmps28
    go_wp2_with fail
    refine H1.out.mono ?_
    rintro e w2 ⟨B, cap, rfl, hr2, hb12⟩
    have hr2' : WsR w2 B r := hr2
    obtain ⟨m, hm⟩ : ∃ m, r.length = m := ⟨_, rfl⟩
    have HM := Lib.hid hm
    have HR := Lib.hid hr2'
    have hm' : (r, (0 : Int)).1.length = m := hm
    rw [hm] at hrl
    simp only [hm']
    clear hm hm' hr2 hr2' H1
    go_wp2_with fail
    go_loopw [6, 7] (fun vs vi wr => ∃ i : Nat, vi = .int .i64 (i : Int) ∧ vs = .int .i64 (len (r.take i)) ∧ i ≤ m ∧ Below w2.heap.size w2 wr) (fun _ vi _ => m - (intOf vi).toNat)
    case atStart => exact ⟨0, rfl, by simp [len], by omega, Below.refl _ _⟩
    case round =>
      obtain ⟨i, rfl, rfl, hi, hB⟩ := hrel
      obtain ⟨b0, b1⟩ := HBD.out i
      by_cases hlt : i < m
      · have zi : (i : Int) < (m : Int) := by omega
        have il : i < r.length := by rw [HM.out]; exact hlt
        obtain ⟨b, o, rfl, hbl, hc⟩ := (HR.out.below hB) (by omega)
        obtain ⟨c0, c1⟩ := hc i il
        obtain ⟨k0, k1, k2⟩ := HOK.out i il
        have hs := Lib.hid (len_snoc r i il)
        obtain ⟨x, y, hxy⟩ : ∃ x y, r.getD i (0, 0) = (x, y) := ⟨_, _, rfl⟩
        rw [hxy] at c0 c1 k0 k1 k2 hs
        have k0' : 0 ≤ x := k0
        have k1' : x ≤ y := k1
        have k2' : y ≤ 4294944000 := k2
        obtain ⟨L, hL⟩ : ∃ L, len (r.take i) = L := ⟨_, rfl⟩
        rw [hL] at b0 b1 hs ⊢
        clear hc hxy il k0 k1 k2 hL
        go_wp2_with fail
        go_quiet (fail)
        go_wp2
        go_roundw
        case rel => exact ⟨i + 1, by go_num, val_int' (by rw [hs.out]; omega), by omega, hB.trans ((below_drewN' _ _).mono hB.size)⟩
        case measure => simp only [intOf]; omega
      · have zi : ¬ (i : Int) < (m : Int) := by omega
        have ht : r.take i = r := List.take_of_length_le (by rw [HM.out]; omega)
        rw [ht]
        go_wp2
        go_ret2
        exact ⟨rfl, hb12.trans (hB.mono hb12.size)⟩
end Go.Proofs.YtkiedopknoekpaaDoor
