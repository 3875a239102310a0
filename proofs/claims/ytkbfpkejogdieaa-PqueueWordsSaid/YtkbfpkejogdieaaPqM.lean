/-
  The contracts of the specification's All, and of drain and fill. Condition: at most 1000 items.
-/
import Derived.Test.YtkbfpkejogdieaaPqL
namespace Go.Proofs.Ytkbfpkejogdieaa
open Go.RowKit
set_option linter.unusedVariables false

theorem fI_lt (dn : Bool) (l : List It) (n : Nat) (h : 0 < n) : fI dn l n < n := fmi_lt _ n h
theorem stS_first (dn : Bool) (l : List It) (h : 0 < l.length) : stS (kI dn) l = l.getD (fI dn l l.length) (0, 0) :: stS (kI dn) (l.eraseIdx (fI dn l l.length)) := stS_pop_all (0, 0) l h
theorem stS_nil (dn : Bool) : stS (kI dn) ([] : List It) = [] := rfl

theorem ItsR.fresh (w : World) (x : It) (k : Nat) (t : TypeId) (hk : w.heap.size = k) : ItsR (w.alloc (.cells #[.int .i64 x.1, .int .i64 x.2] t)) (some ⟨k, 0, none⟩) [x] := by
  subst hk
  exact ItsR.one (by rw [World.cell?_alloc_new]; rfl) (by rw [World.cell?_alloc_new]; rfl)

set_option maxRecDepth 100000 in
set_option maxHeartbeats 2000000 in
theorem refAll_any (dn : Bool) (l : List It) (n c : Nat) (A : Option Addr) (w : World) (hn : l.length = n) (hl : n ≤ 1000) (hc : n ≤ c) (h : ItsR w A l) :
    Calls Try.prog 22 #[.slice A n c, .bool dn] w fun e w' => ∃ B d, e = .returned (.slice B n d) ∧ n ≤ d ∧ ItsR w' B (stS (kI dn) l) ∧ Below w.heap.size w w' ∧ ∀ a, B = some a → w.heap.size ≤ a.block := by
  have HN := Lib.hid hn
  have H := Lib.hid h
  clear hn h
  go_enter Try.func22, Try.ntmps22
  go_wp2_with fail
  go_loopg [0, 5] n (fun gh vl vo wr => ∃ (P O : List It) (A' : Option Addr) (c' m : Nat), m = gh ∧ Hid (P.length = m) ∧ m ≤ n ∧ m ≤ c' ∧ vl = .slice A' m c' ∧ Hid (stS (kI dn) l = O ++ stS (kI dn) P) ∧ Hid (ItsR wr A' P) ∧ Hid (OwnT wr w.heap.size vo O) ∧ Below w.heap.size w wr)
  case atStart => exact ⟨l, [], A, c, n, rfl, HN, by omega, hc, rfl, Lib.hid rfl, H, Lib.hid (OwnT.nil _ _), Below.refl _ _⟩
  case round =>
    obtain ⟨P, O, A', c', m, rfl, HPM, hmn, hmc, rfl, HST, HI, HO, hB⟩ := hrel
    by_cases h0 : 0 < m
    · have h0z : (0 : Int) < (m : Int) := by omega
      have hOl : O.length + m = n := by
        have h5 := congrArg List.length HST.out
        rw [stS_length, List.length_append, stS_length, HN.out, HPM.out] at h5
        omega
      have HPP := Lib.hid (fun W (hb : Below wr.heap.size wr W) => refPop_any dn P m c' A' W HPM.out (by omega) (by omega) hmc (HI.out.below hb))
      have hst := stS_first dn P (by rw [HPM.out]; exact h0)
      rw [HPM.out] at hst
      have hfl := fI_lt dn P m h0
      obtain ⟨f, hf⟩ : ∃ f, fI dn P m = f := ⟨_, rfl⟩
      rw [hf] at hst hfl HPP
      obtain ⟨x, hx⟩ : ∃ x, P.getD f (0, 0) = x := ⟨_, rfl⟩
      rw [hx] at hst HPP
      have HS2 : Hid (stS (kI dn) l = (O ++ [x]) ++ stS (kI dn) (P.eraseIdx f)) := Lib.hid (by rw [HST.out, hst]; simp)
      have HL2 : Hid ((P.eraseIdx f).length = m - 1) := Lib.hid (by rw [List.length_eraseIdx, if_pos (by rw [HPM.out]; exact hfl), HPM.out])
      clear hst hf hx hfl HST
      go_wp2_with fail
      refine (HPP.out _ ?_).mono ?_
      · exact (Below.refl _ _).alloc (Nat.le_refl _) _
      rintro e w2 ⟨B, d, rfl, hd, hr, hb2, hbk⟩
      obtain ⟨⟨⟨u0, r0⟩, ⟨u1, r1⟩, g0, g1⟩, hlt, hBr⟩ := ResI.new hb2
      have HR := Lib.hid hr
      have HBr := Lib.hid hBr
      have HBG : Hid (∀ a, B = some a → wr.heap.size < a.block) := Lib.hid (fun a ha => by have := hbk a ha; simp at this; omega)
      have HBK : Hid (∀ a, B = some a → a.block ≠ wr.heap.size) := Lib.hid (fun a ha e => by have := hbk a ha; simp at this; omega)
      obtain ⟨Ao, co, hvo, hco, _, hao⟩ := HO.out.form
      subst hvo
      have hO2 : OwnT w2 w.heap.size (.slice Ao O.length co) O := HO.out.below hBr
      have HO2 := Lib.hid hO2
      have HAO : Hid (∀ g, (Value.slice Ao O.length co).ownBlock = some g → g < wr.heap.size) := Lib.hid (fun g e => (HO.out.ge g e).2)
      clear hb2 hr hBr HPP hO2 hbk hao
      obtain ⟨ol, hol⟩ : ∃ ol, O.length = ol := ⟨_, rfl⟩
      rw [hol] at HO2 HAO hOl ⊢
      have HOL := Lib.hid hol
      clear hol HO hco
      have HO3 : Hid (OwnT ((w2.setCell ⟨wr.heap.size, 0, none⟩ (.int .i64 x.1)).setCell ⟨wr.heap.size, 1, none⟩ (.int .i64 x.2)) w.heap.size (.slice Ao ol co) O) := Lib.hid (HO2.out.keep (S := fun k => k = wr.heap.size) (((Keep.refl (fun k => k = wr.heap.size) w2).set _ _ rfl).set _ _ rfl) (fun g e e2 => by have := HAO.out g e; omega))
      have HI3 : Hid (ItsR ((w2.setCell ⟨wr.heap.size, 0, none⟩ (.int .i64 x.1)).setCell ⟨wr.heap.size, 1, none⟩ (.int .i64 x.2)) B (P.eraseIdx f)) := Lib.hid (HR.out.keep (S := fun k => k = wr.heap.size) (((Keep.refl (fun k => k = wr.heap.size) w2).set _ _ rfl).set _ _ rfl) (fun a ha e => HBK.out a ha e))
      have hbx := hB.size
      have hby := HBr.out.size
      have HB3 : Hid (Below w.heap.size w ((w2.setCell ⟨wr.heap.size, 0, none⟩ (.int .i64 x.1)).setCell ⟨wr.heap.size, 1, none⟩ (.int .i64 x.2))) := Lib.hid (((Below.step hB HBr.out).setCell (p := ⟨wr.heap.size, 0, none⟩) hB.size _).setCell (p := ⟨wr.heap.size, 1, none⟩) hB.size _)
      go_wp2_with (at_builtin; refine wpList_append_its rfl _ _ rfl w.heap.size (.slice Ao ol co) O [x] 1 rfl rfl (HO3.out.alloc _) (some ⟨w2.heap.size, 0, none⟩) 1 rfl (ItsR.fresh _ x _ _ (by simp)) (by rw [HOL.out]; omega) (by omega) (by simp; omega) ?_)
      intro v4 w4 hO4 hg4 hat4
      have k34 : Keep (fun k => (Value.slice Ao ol co).ownBlock = some k) ((w2.setCell ⟨wr.heap.size, 0, none⟩ (.int .i64 x.1)).setCell ⟨wr.heap.size, 1, none⟩ (.int .i64 x.2)) w4 := (Keep.alloc0 _ _).grown hg4.out (fun k e => Or.inl e)
      have HB4 : Hid (Below w.heap.size w w4) := Lib.hid (HB3.out.trans (k34.below (fun k e => (HO3.out.ge k e).1) (by simp; omega)))
      have HI4 : Hid (ItsR w4 B (P.eraseIdx f)) := Lib.hid (HI3.out.keep k34 (fun a ha e => by
        have h7 := HBG.out a ha
        have h8 := HAO.out a.block e
        omega))
      go_wp2_with fail
      go_roundg (m - 1)
      case measure => omega
      case rel => exact ⟨P.eraseIdx f, O ++ [x], B, d, m - 1, rfl, HL2, by omega, hd, rfl, HS2, HI4, hO4, HB4.out⟩
    · have h0z : ¬ (0 : Int) < (m : Int) := by omega
      have hP : P = [] := List.eq_nil_of_length_eq_zero (by rw [HPM.out]; omega)
      subst hP
      have hO : O = stS (kI dn) l := by rw [HST.out]; simp [stS_nil]
      subst hO
      obtain ⟨B, d, hv, hd, hr, hb⟩ := HO.out.form
      rw [stS_length, HN.out] at hv hd
      subst hv
      have HF : Hid (n ≤ d ∧ ItsR wr B (stS (kI dn) l) ∧ Below w.heap.size w wr ∧ ∀ a, B = some a → w.heap.size ≤ a.block) := Lib.hid ⟨hd, hr, hB, fun a ha => (HO.out.ge _ (hb a ha)).1⟩
      clear hr hb hd hB
      go_wp2_with fail
      go_ret
      exact ⟨B, d, rfl, HF.out⟩
end Go.Proofs.Ytkbfpkejogdieaa
