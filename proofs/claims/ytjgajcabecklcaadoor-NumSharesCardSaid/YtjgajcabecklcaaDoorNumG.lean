/-
  The contracts of the specification's Digits and Format. Condition: numbers up to the greatest one.
-/
import Derived.Test.YtjgajcabecklcaaDoorNumF
import Derived.Deep.LoopGhost
namespace Go.Proofs.YtjgajcabecklcaaDoor
open Go.RowKit
set_option linter.unusedVariables false

set_option maxHeartbeats 1000000 in
theorem ret_string {a b : ByteArray} (h : a = b) : Ending.returned (.string a) = .returned (.string b) := by rw [h]

set_option maxRecDepth 100000 in
theorem digits_any (n p : Nat) (w : World) (hn : n ≤ 1125899906842624) (hp : p ≤ 6) :
    Calls Tryd.prog 43 #[.int .i64 n, .int .i64 ((p : Int) + 1)] w fun e w' => e = .returned (.string ⟨(dgs n (width n p)).toArray⟩) ∧ Below w.heap.size w w' := by
  have hW : width n p ≤ 16 := by
    have := nDigits_le n (by omega)
    unfold width
    omega
  obtain ⟨W0, hW0⟩ : ∃ W0, w = W0 := ⟨_, rfl⟩
  have HW : Hid (w = W0) := hW0
  clear hW0
  go_enter Tryd.func43, Tryd.ntmps43
  go_wp2
  go_loopg [0, 5] (width n p) (fun g vn vs wr => ∃ (k : Nat) (S : ByteArray), vn = .int .i64 ((n / 10 ^ k : Nat) : Int) ∧ vs = .string S ∧ Hid (S.data.toList = dgs n k) ∧ k ≤ width n p ∧ width n p ≤ k + g ∧ Below w.heap.size w wr)
  case atStart => exact ⟨0, ⟨#[]⟩, by rw [Nat.pow_zero, Nat.div_one], rfl, rfl, by omega, by omega, Below.refl _ _⟩
  case round =>
    obtain ⟨k, S, rfl, rfl, hS, hk, hg, hb⟩ := hrel
    have hgo := width_go n p k
    have hxl : n / 10 ^ k ≤ n := Nat.div_le_self _ _
    have hnext : n / 10 ^ (k + 1) = n / 10 ^ k / 10 := by rw [Nat.pow_succ, Nat.div_div_eq_div_mul]
    have hSs : S.size = k := by rw [Lib.size_eq, hS.out, dgs_length]
    obtain ⟨x, hx⟩ : ∃ x, n / 10 ^ k = x := ⟨_, rfl⟩
    rw [hx] at hgo hxl hnext ⊢
    have HX := Lib.hid hx
    have HN := Lib.hid hnext
    have HS := Lib.hid hSs
    have s1 : S.size ≤ k := by omega
    have s2 : k ≤ S.size := by omega
    clear hx hnext hSs
    by_cases hlt : k < width n p
    · have hc := hgo.1 hlt
      clear hgo
      have hdn := dg_nat n k
      rw [HX.out] at hdn
      have hcv : (convert 70 9 (.slice (some ⟨wr.heap.size, 0, none⟩) 1 1)).run Tryd.prog (wr.alloc (.cells #[.int .u8 (48 + (x : Int) % 10)] 5)) = .ok (.string ⟨#[Lib.dg n k]⟩) (wr.alloc (.cells #[.int .u8 (48 + (x : Int) % 10)] 5)) :=
        run_convert_bytes_back _ 70 9 5 ⟨wr.heap.size, 0, none⟩ 1 [Lib.dg n k] Tryd.underlying70 Tryd.underlying5 Tryd.underlying9 (fun j hj => by
          obtain rfl : j = 0 := by simpa using hj
          show World.cell? _ ⟨wr.heap.size, 0, none⟩ = _
          rw [World.cell?_alloc_new]
          simp [hdn])
      have hdl : x % 10 < 10 := Nat.mod_lt _ (by decide)
      have HD := Lib.hid hdn
      clear hdn
      by_cases h0 : 0 < x
      · have h0z : (0 : Int) < (x : Int) := by omega
        clear hc
        go_wp2
        go_roundg (gk - 1)
        case measure => omega
        case rel =>
          refine ⟨k + 1, ⟨#[Lib.dg n k]⟩ ++ S, val_int' (by rw [HN.out]; omega), rfl, ?_, by omega, by omega, hb.alloc hb.size _⟩
          show (⟨#[Lib.dg n k]⟩ ++ S : ByteArray).data.toList = dgs n (k + 1)
          rw [Joins.data_append, hS.out]
          rfl
      · have h0z : ¬ (0 : Int) < (x : Int) := by omega
        have h1z : (S.size : Int) < (p : Int) + 1 := by omega
        clear hc
        go_wp2
        go_roundg (gk - 1)
        case measure => omega
        case rel =>
          refine ⟨k + 1, ⟨#[Lib.dg n k]⟩ ++ S, val_int' (by rw [HN.out]; omega), rfl, ?_, by omega, by omega, hb.alloc hb.size _⟩
          show (⟨#[Lib.dg n k]⟩ ++ S : ByteArray).data.toList = dgs n (k + 1)
          rw [Joins.data_append, hS.out]
          rfl
    · have hw : k = width n p := by omega
      have h0z : ¬ (0 : Int) < (x : Int) := by
        have := fun h => hlt (hgo.2 (Or.inl h)); omega
      have h1z : ¬ (S.size : Int) < (p : Int) + 1 := by
        have := fun h => hlt (hgo.2 (Or.inr h)); omega
      have HK := Lib.hid hw
      clear hw hgo hlt
      go_wp2
      go_ret
      exact ⟨ret_string (str_ext (hS.out.trans (congrArg (dgs n) HK.out))), hb⟩

theorem fmt_whole' (m : Int) (X S : ByteArray) (hX : X.data.toList = dgs m.natAbs (width m.natAbs 0)) (hS : S.data.toList = signT m) : (S ++ X).data.toList = fmtT m 0 := fmt_whole m X S hX hS

set_option maxRecDepth 100000 in
set_option maxHeartbeats 1000000 in
theorem refFormat_any (m p : Int) (w : World) (h1 : -9223372036854775808 ≤ m) (h2 : m ≤ 9223372036854775807) (h3 : -9223372036854775808 ≤ p) (h4 : p ≤ 9223372036854775807) :
    Calls Tryd.prog 32 #[.int .i64 m, .int .i64 p] w fun e w' => e = .returned (.tuple #[.string ⟨(fmtS m p).1.toArray⟩, .int .i64 (fmtS m p).2]) ∧ Below w.heap.size w w' := by
  cases hm : validB m
  · have hf : fmtS m p = ([], 1) := by simp [fmtS, hm]
    rw [hf]
    clear hf
    go_enter Tryd.func32, Tryd.ntmps32
    go_wp2_with (go_at_call 25; refine (refValid_any _ _ (by omega) (by omega)).mono ?_; rintro e w' ⟨rfl, rfl⟩)
    go_ret2
    exact ⟨rfl, Below.refl _ _⟩
  have hm2 := validB_true hm
  by_cases p1 : p < 0
  · have hf : fmtS m p = ([], 1) := by
      have : ¬ 0 ≤ p := by omega
      simp [fmtS, this]
    rw [hf]
    clear hf
    go_enter Tryd.func32, Tryd.ntmps32
    go_wp2_with (go_at_call 25; refine (refValid_any _ _ (by omega) (by omega)).mono ?_; rintro e w' ⟨rfl, rfl⟩)
    go_ret2
    exact ⟨rfl, Below.refl _ _⟩
  by_cases p2 : 6 < p
  · have hf : fmtS m p = ([], 1) := by
      have : ¬ p ≤ 6 := by omega
      simp [fmtS, this]
    rw [hf]
    clear hf
    go_enter Tryd.func32, Tryd.ntmps32
    go_wp2_with (go_at_call 25; refine (refValid_any _ _ (by omega) (by omega)).mono ?_; rintro e w' ⟨rfl, rfl⟩)
    go_ret2
    exact ⟨rfl, Below.refl _ _⟩
  obtain ⟨p, rfl⟩ : ∃ q : Nat, p = q := ⟨p.toNat, by omega⟩
  have hf : fmtS m p = (fmtT m p, 0) := by
    have : (0 : Int) ≤ p ∧ (p : Int) ≤ 6 := by omega
    simp [fmtS, hm, this]
  rw [hf]
  clear hf
  have hD0 := fun w => digits_any m.natAbs p w (by omega) (by omega)
  obtain ⟨D, hD⟩ : ∃ D : ByteArray, (⟨(dgs m.natAbs (width m.natAbs p)).toArray⟩ : ByteArray) = D := ⟨_, rfl⟩
  rw [hD] at hD0
  have HI : Hid (∀ (x : Int) (w : World), x = (m.natAbs : Int) → Calls Tryd.prog 43 #[.int .i64 x, .int .i64 ((p : Int) + 1)] w fun e w' => e = .returned (.string D) ∧ Below w.heap.size w w') := fun x w h => by rw [h]; exact hD0 w
  have hT : D.data.toList = dgs m.natAbs (width m.natAbs p) := by rw [← hD]
  have hTs : D.size = width m.natAbs p := by rw [Lib.size_eq, hT, dgs_length]
  have hw1 := width_ge m.natAbs p
  have hw2 : width m.natAbs p ≤ 16 := by
    have := nDigits_le m.natAbs (by omega)
    unfold width
    omega
  have HT := Lib.hid hT
  have b1 : p + 1 ≤ D.size := by omega
  have b2 : D.size ≤ 16 := by omega
  clear hD0 hD hT hTs hw1 hw2
  obtain ⟨q, hq⟩ : ∃ q, D.size - p = q := ⟨_, rfl⟩
  have zq : (D.size : Int) - (p : Int) = (q : Int) := by omega
  have ql : (q : Int) ≤ (D.size : Int) := by omega
  have HQ : Hid (q = D.size - p) := hq.symm
  clear hq
  by_cases hs : m < 0
  · have SG : Hid ((⟨#[45]⟩ : ByteArray).data.toList = signT m) := by unfold Hid signT; rw [if_pos hs]
    have g1 : m < -m := by omega
    by_cases hp : p = 0
    · subst hp
      go_enter Tryd.func32, Tryd.ntmps32
      go_wp2_with (first | (go_at_call 25; refine (refValid_any _ _ (by omega) (by omega)).mono ?_; rintro e w' ⟨rfl, rfl⟩) | (go_at_call 43; refine (HI.out _ _ (by omega)).mono ?_; rintro e w1 ⟨rfl, hb1⟩))
      go_ret2
      exact ⟨ret_str (fmt_whole' m _ ⟨#[45]⟩ HT.out SG.out), hb1⟩
    · have hpz : ((p : Int) == 0) = false := beq_eq_false_iff_ne.2 (by omega)
      go_enter Tryd.func32, Tryd.ntmps32
      go_wp2_with (first | (go_at_call 25; refine (refValid_any _ _ (by omega) (by omega)).mono ?_; rintro e w' ⟨rfl, rfl⟩) | (go_at_call 43; refine (HI.out _ _ (by omega)).mono ?_; rintro e w1 ⟨rfl, hb1⟩))
      go_region
      all_goals go_wp2
      all_goals go_ret2
      all_goals exact ⟨ret_str (fmt_point m p q (by omega) _ ⟨#[45]⟩ HT.out HQ.out _ (by simp) SG.out), Below.step hb1 (below_drewN' _ 1)⟩
  · have SG : Hid ((⟨#[]⟩ : ByteArray).data.toList = signT m) := by unfold Hid signT; rw [if_neg hs]
    have g1 : ¬ m < -m := by omega
    by_cases hp : p = 0
    · subst hp
      go_enter Tryd.func32, Tryd.ntmps32
      go_wp2_with (first | (go_at_call 25; refine (refValid_any _ _ (by omega) (by omega)).mono ?_; rintro e w' ⟨rfl, rfl⟩) | (go_at_call 43; refine (HI.out _ _ (by omega)).mono ?_; rintro e w1 ⟨rfl, hb1⟩))
      go_ret2
      exact ⟨ret_str (fmt_whole' m _ ⟨#[]⟩ HT.out SG.out), hb1⟩
    · have hpz : ((p : Int) == 0) = false := beq_eq_false_iff_ne.2 (by omega)
      go_enter Tryd.func32, Tryd.ntmps32
      go_wp2_with (first | (go_at_call 25; refine (refValid_any _ _ (by omega) (by omega)).mono ?_; rintro e w' ⟨rfl, rfl⟩) | (go_at_call 43; refine (HI.out _ _ (by omega)).mono ?_; rintro e w1 ⟨rfl, hb1⟩))
      go_region
      all_goals go_wp2
      all_goals go_ret2
      all_goals exact ⟨ret_str (fmt_point m p q (by omega) _ ⟨#[]⟩ HT.out HQ.out _ (by simp) SG.out), Below.step hb1 (below_drewN' _ 1)⟩
end Go.Proofs.YtjgajcabecklcaaDoor
