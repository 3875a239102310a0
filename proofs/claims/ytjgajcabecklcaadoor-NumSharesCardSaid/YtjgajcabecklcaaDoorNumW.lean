/-
  The contract of the reference's Share, beside num.Share's: the same parts, or the same error.
-/
import Derived.Test.YtjgajcabecklcaaDoorNumV
import Derived.Test.YtjgajcabecklcaaDoorNumM
import Derived.Test.YtjgajcabecklcaaDoorNumP
import Derived.Maps.AppendAt
namespace Go.Proofs.YtjgajcabecklcaaDoor
open Go.RowKit
set_option linter.unusedVariables false

/-- What both Shares give: R is the list of the parts; nil where there is an error. -/
structure Parts (total : Int) (l R : List Int) (E : Int) : Prop where
  wei : (weighS total l).2 = E
  bad : E ≠ 0 → R = []
  zero : E = 0 → (weighS total l).1 = 0 → R = List.replicate l.length 0
  ok : E = 0 → (weighS total l).1 ≠ 0 → ∃ (T : Nat) (ln : List Nat) (g : Nat → Nat), total = (T : Int) ∧ T ≤ 1125899906842624 ∧ l = castL ln ∧ 0 < ln.sum ∧ ln.sum ≤ 1125899906842624 ∧ ((weighS total l).1 = ((ln.sum : Nat) : Int)) ∧ 1 ≤ ln.length ∧ ln.length ≤ 512 ∧
    R = castL (shareN T ln (Arr ln.length g).toList) ∧ SortsAs (castL (restL T ln.sum ln)) (Arr ln.length g) ∧ Srt (fun x => (castL (restL T ln.sum ln)).getD x 0) g 0 ln.length ∧ Same (fun x => x) g 0 ln.length

theorem natB_nat {x : Int} (h : natB x = true) : 0 ≤ x ∧ x ≤ 1125899906842624 := natB_true h
theorem weighS_cases (total : Int) (l : List Int) : (weighS total l = (0, 1)) ∨ (natB total = true ∧ l.length ≠ 0 ∧ l.length ≤ 512 ∧ l.all natB = true ∧
    ((1125899906842624 < l.sum ∧ weighS total l = (0, 2)) ∨ (l.sum ≤ 1125899906842624 ∧ l.sum = 0 ∧ total ≠ 0 ∧ weighS total l = (0, 10)) ∨ (l.sum ≤ 1125899906842624 ∧ ¬ (l.sum = 0 ∧ total ≠ 0) ∧ weighS total l = (l.sum, 0)))) := by
  unfold weighS
  cases h1 : natB total
  · exact Or.inl (by simp)
  by_cases h2 : l.length = 0
  · exact Or.inl (by simp [h2])
  by_cases h3 : l.length ≤ 512
  · cases h4 : l.all natB
    · exact Or.inl (by simp)
    · refine Or.inr ⟨rfl, h2, h3, rfl, ?_⟩
      have h5 : (l.length != 0 && decide (l.length ≤ 512)) = true := by
        rw [Bool.and_eq_true, bne_iff_ne]
        exact ⟨h2, decide_eq_true h3⟩
      simp only [h5, Bool.and_self, if_true]
      by_cases c1 : 1125899906842624 < l.sum
      · exact Or.inl ⟨c1, by rw [if_pos c1]⟩
      · by_cases c2 : l.sum = 0 ∧ total ≠ 0
        · exact Or.inr (Or.inl ⟨by omega, c2.1, c2.2, by rw [if_neg c1, if_pos c2]⟩)
        · exact Or.inr (Or.inr ⟨by omega, c2, by rw [if_neg c1, if_neg c2]⟩)
  · exact Or.inl (by
      have : decide (l.length ≤ 512) = false := decide_eq_false h3
      simp [this])

theorem parts_ex (total : Int) (l : List Int) : ∃ R E, Parts total l R E := by
  rcases weighS_cases total l with h | ⟨h1, h2, h3, h4, h | h | h⟩
  · exact ⟨[], 1, by rw [h], fun _ => rfl, fun c => by simp at c, fun c => by simp at c⟩
  · exact ⟨[], 2, by rw [h.2], fun _ => rfl, fun c => by simp at c, fun c => by simp at c⟩
  · exact ⟨[], 10, by rw [h.2.2.2], fun _ => rfl, fun c => by simp at c, fun c => by simp at c⟩
  · obtain ⟨hs, hn, hw⟩ := h
    by_cases hz : l.sum = 0
    · exact ⟨List.replicate l.length 0, 0, by rw [hw], fun c => absurd rfl c, fun _ _ => rfl, fun _ c => absurd (by rw [hw]; exact hz) c⟩
    · have hnat := natB_nat h1
      obtain ⟨T, hT⟩ : ∃ T : Nat, total = (T : Int) := ⟨total.toNat, by omega⟩
      obtain ⟨ln, hln⟩ := of_nat_list l (fun x hx => (natB_nat (List.all_eq_true.1 h4 x hx)).1)
      have hlen : l.length = ln.length := by rw [hln, castL_length]
      have hsum : l.sum = ((ln.sum : Nat) : Int) := by rw [hln, castL_sum]
      have hrl : (castL (restL T ln.sum ln)).length = ln.length := by rw [castL_length]; simp [restL]
      obtain ⟨g, g1, g2, g3⟩ := sorts_any (castL (restL T ln.sum ln)) (by rw [hrl]; omega)
      rw [hrl] at g1 g2 g3
      refine ⟨castL (shareN T ln (Arr ln.length g).toList), 0, by rw [hw], fun c => absurd rfl c, fun _ c => absurd (by rw [hw] at c; exact c) hz, fun _ _ => ⟨T, ln, g, hT, by omega, hln, by omega, by omega, by rw [hw]; exact hsum, by omega, by omega, rfl, g1, g2, g3⟩⟩

/-- What a Share gives, as the caller sees it. -/
def Gives (w : World) (R : List Int) (E : Int) (e : Ending) (w' : World) : Prop := ∃ v', e = .returned (.tuple #[v', .int .i64 E]) ∧ IntsAt w' v' R ∧ Below w.heap.size w w'

theorem shareN_length (T : Nat) (l o : List Nat) : (shareN T l o).length = l.length := by
  unfold shareN
  rw [bumps_length]
  simp [partL]

theorem share_any (total : Int) (l R : List Int) (E : Int) (P : Parts total l R E) (v : Value) (w : World) (h1 : -9223372036854775808 ≤ total) (h2 : total ≤ 9223372036854775807) (hl : l.length ≤ 4096) (hwd : Wide l) (h : IntsAt w v l) :
    Calls Tryd.prog 26 #[.int .i64 total, v] w (Gives w R E) := by
  by_cases hE : E = 0
  · by_cases hz : (weighS total l).1 = 0
    · have hw : weighS total l = (0, 0) := Prod.ext hz (P.wei.trans hE)
      refine (share_zero total l v w h1 h2 hl hwd h hw).mono ?_
      rintro e w' ⟨blk, he, hb1, hb2, hr, hB⟩
      rw [← castL_replicate] at hr
      rw [P.zero hE hz]
      refine ⟨_, by rw [he, hE], ?_, hB⟩
      by_cases h0 : 1 ≤ l.length
      · have hi := hr.ints (cap := l.length) (by rw [List.length_replicate]; omega) (by rw [List.length_replicate]; exact h0)
        rw [List.length_replicate] at hi
        exact hi
      · have h00 : l.length = 0 := by omega
        rw [h00]
        exact Or.inl ⟨rfl, Or.inr ⟨_, _, rfl⟩⟩
    · obtain ⟨T, ln, g, hT, hTm, hln, hs0, hs, hw1, hn1, hn2, hR, hS, _, _⟩ := P.ok hE hz
      subst hT hln
      have hw : weighS (T : Int) (castL ln) = (((ln.sum : Nat) : Int), 0) := Prod.ext hw1 (P.wei.trans hE)
      refine (share_ok T ln (Arr ln.length g) v w hTm hn1 hn2 h hw hs0 hs hwd hS).mono ?_
      rintro e w' ⟨blk, he, hb1, hb2, hr, hB⟩
      rw [hR]
      refine ⟨_, by rw [he, hE], ?_, hB⟩
      have hlen : (castL (shareN T ln (Arr ln.length g).toList)).length = ln.length := by rw [castL_length, shareN_length]
      have hi := hr.ints (cap := ln.length) (by rw [hlen]; omega) (by rw [hlen]; exact hn1)
      rw [hlen] at hi
      exact hi
  · have hEb : (E != 0) = true := by rw [bne_iff_ne]; exact hE
    refine (share_err total (weighS total l).1 E l v w h1 h2 hl hwd h (by rw [← P.wei]) hEb).mono ?_
    rintro e w' ⟨he, rfl⟩
    rw [P.bad hE]
    exact ⟨_, he, Or.inl ⟨rfl, Or.inl rfl⟩, Below.refl _ _⟩
end Go.Proofs.YtjgajcabecklcaaDoor
