/-
  The contracts of Format, of package num and of its specification. Condition: Go's own table of powers of ten holds what the program's text lays.
-/
import Derived.Test.YtjgajcabecklcaaDoorNumText
import Derived.Test.YtjgajcabecklcaaDoorNumE
import Derived.Test.YtjgajcabecklcaaDoorShelf
import Derived.WalkLawsBesides
import Derived.WalkSpells
import Derived.RegionTactic
import Derived.Lib.SmallJoins
import Derived.ChangeAlike
namespace Go.Proofs.YtjgajcabecklcaaDoor
open Go.RowKit
set_option linter.unusedVariables false

/-- What the library's variables hold, as the program's text lays them. -/
structure Facts (w : World) : Prop where
  tab : Lib.TabIs Tryd.prog w "internal/strconv.uint64pow10" .u64 Lib.pow10Tab
  low : 10 ≤ w.heap.size
  syn : ∃ tp p, w.cell? ⟨2, 0, none⟩ = some (.iface tp p)
  rng : ∃ tp p, w.cell? ⟨3, 0, none⟩ = some (.iface tp p)
  max : ∃ m, w.cell? ⟨4, 0, none⟩ = some (.int .i64 m)
theorem gPow : Tryd.prog.globalNamed "internal/strconv.uint64pow10" = some 7 := by kernel_rfl
theorem Facts.below {w w' : World} (f : Facts w) (h : Below w.heap.size w w') : Facts w' := by
  have hl := f.low
  refine ⟨var?_below h gPow (by omega) f.tab, Nat.le_trans hl h.size, ?_, ?_, ?_⟩
  · obtain ⟨tp, p, e⟩ := f.syn
    exact ⟨tp, p, (h.cell (p := ⟨2, 0, none⟩) (by show 2 < _; omega)).trans e⟩
  · obtain ⟨tp, p, e⟩ := f.rng
    exact ⟨tp, p, (h.cell (p := ⟨3, 0, none⟩) (by show 3 < _; omega)).trans e⟩
  · obtain ⟨m, e⟩ := f.max
    exact ⟨m, (h.cell (p := ⟨4, 0, none⟩) (by show 4 < _; omega)).trans e⟩

/-- One step of calls more. -/
theorem Below.step {a b c : World} (h : Below a.heap.size a b) (k : Below b.heap.size b c) : Below a.heap.size a c := h.trans (k.mono h.size)
theorem below_drewN' (w : World) (n : Nat) : Below w.heap.size w (w.drewN n) := ⟨rfl, rfl, rfl, Nat.le_refl _, fun _ _ => rfl⟩
theorem below_grow (w : World) (n : Nat) (os : Array Obj) : Below w.heap.size w (Sort.grow (w.drewN n) os) :=
  ⟨rfl, rfl, rfl, by simp [Sort.grow, World.drewN], fun k hk => by
    show (w.heap ++ os)[k]? = w.heap[k]?
    rw [Array.getElem?_append_left hk]⟩

/-- strconv.Itoa. -/
theorem itoa_any (n : Int) (w : World) (h0 : -9223372036854775808 ≤ n) (h1 : n ≤ 9223372036854775807) (f : Facts w) :
    Calls Tryd.prog 41 #[.int .i64 n] w fun e w' => e = .returned (.string ⟨(Lib.itoa n).toArray⟩) ∧ Below w.heap.size w w' :=
  (Tryd.strconv_Itoa n h0 h1 w f.tab).mono fun _ _ ⟨he, k, os, hw⟩ => ⟨he, hw ▸ below_grow w k os⟩

theorem str_ext {a b : ByteArray} (h : a.data.toList = b.data.toList) : a = b := by
  rw [← Lib.mk_data a, ← Lib.mk_data b, h]
theorem ret_str {a b : ByteArray} {k : IntKind} {c : Int} (h : a.data.toList = b.data.toList) : Ending.returned (.tuple #[.string a, .int k c]) = .returned (.tuple #[.string b, .int k c]) := by rw [str_ext h]

/-- What Format returns: the text, the error. -/
def fmtS (m p : Int) : List UInt8 × Int := if validB m && decide (0 ≤ p ∧ p ≤ 6) then (fmtT m p.toNat, 0) else ([], 1)

theorem fmt_whole (m : Int) (X S : ByteArray) (hX : X.data.toList = dgs m.natAbs (width m.natAbs 0)) (hS : S.data.toList = signT m) : (S ++ X).data.toList = fmtT m 0 := by
  rw [Joins.data_append, hS, hX]
  rfl
theorem fmt_point (m : Int) (p q : Nat) (hp : 1 ≤ p) (X S : ByteArray) (hX : X.data.toList = dgs m.natAbs (width m.natAbs p)) (hq : q = X.size - p) (n : Nat) (hn : n = X.size) (hS : S.data.toList = signT m) :
    (S ++ X.extract 0 q ++ ⟨#[46]⟩ ++ X.extract q n).data.toList = fmtT m p := by
  subst hn
  rw [Joins.data_append, Joins.data_append, Joins.data_append, hS, Lib.extract_data, Lib.extract_data, Lib.size_eq X, hX]
  unfold fmtT pointT
  rw [if_neg (by omega)]
  have e : X.size = (dgs m.natAbs (width m.natAbs p)).length := by rw [Lib.size_eq, hX]
  rw [hq, e, List.drop_zero, Nat.sub_zero, List.append_assoc, List.append_assoc]
  congr 2
  show 46 :: _ = 46 :: _
  congr 1
  exact List.take_of_length_le (by rw [List.length_drop]; omega)

set_option maxHeartbeats 1000000 in
theorem format_any (m p : Int) (w : World) (h1 : -9223372036854775808 ≤ m) (h2 : m ≤ 9223372036854775807) (h3 : -9223372036854775808 ≤ p) (h4 : p ≤ 9223372036854775807) (f : Facts w) :
    Calls Tryd.prog 31 #[.int .i64 m, .int .i64 p] w fun e w' => e = .returned (.tuple #[.string ⟨(fmtS m p).1.toArray⟩, .int .i64 (fmtS m p).2]) ∧ Below w.heap.size w w' := by
  cases hm : validB m
  · have hf : fmtS m p = ([], 1) := by simp [fmtS, hm]
    rw [hf]
    clear hf
    go_enter Tryd.func31, Tryd.ntmps31
    go_wp2_with (go_at_call 35; refine (valid_any _ _ (by omega) (by omega)).mono ?_; rintro e w' ⟨rfl, rfl⟩)
    go_ret2
    exact ⟨rfl, Below.refl _ _⟩
  have hm2 := validB_true hm
  by_cases p1 : p < 0
  · have hf : fmtS m p = ([], 1) := by
      have : ¬ 0 ≤ p := by omega
      simp [fmtS, this]
    rw [hf]
    clear hf
    go_enter Tryd.func31, Tryd.ntmps31
    go_wp2_with (go_at_call 35; refine (valid_any _ _ (by omega) (by omega)).mono ?_; rintro e w' ⟨rfl, rfl⟩)
    go_ret2
    exact ⟨rfl, Below.refl _ _⟩
  by_cases p2 : 6 < p
  · have hf : fmtS m p = ([], 1) := by
      have : ¬ p ≤ 6 := by omega
      simp [fmtS, this]
    rw [hf]
    clear hf
    go_enter Tryd.func31, Tryd.ntmps31
    go_wp2_with (go_at_call 35; refine (valid_any _ _ (by omega) (by omega)).mono ?_; rintro e w' ⟨rfl, rfl⟩)
    go_ret2
    exact ⟨rfl, Below.refl _ _⟩
  obtain ⟨p, rfl⟩ : ∃ q : Nat, p = q := ⟨p.toNat, by omega⟩
  have hf : fmtS m p = (fmtT m p, 0) := by
    have : (0 : Int) ≤ p ∧ (p : Int) ≤ 6 := by omega
    simp [fmtS, hm, this]
  rw [hf]
  clear hf
  have hA := absI_bd m hm2.1 hm2.2
  obtain ⟨D, hD⟩ : ∃ D : ByteArray, (⟨(Lib.itoa (absI m)).toArray⟩ : ByteArray) = D := ⟨_, rfl⟩
  have hI := fun w f => itoa_any (absI m) w (by omega) (by omega) f
  rw [hD] at hI
  have hDl : D.data.toList = Lib.decDigits m.natAbs := by
    rw [← hD]
    show Lib.itoa (absI m) = _
    rw [absI_natAbs]
    unfold Lib.itoa
    rw [if_neg (by omega), Int.toNat_natCast]
  have hDs : D.size = Lib.nDigits m.natAbs := by rw [Lib.size_eq, hDl, Lib.decDigits_length]
  have hn16 : Lib.nDigits m.natAbs ≤ 16 := nDigits_le _ (by omega)
  have hn1 := Lib.nDigits_pos m.natAbs
  clear hD
  obtain ⟨c, hc⟩ : ∃ c : Nat, p + 1 - D.size = c := ⟨_, rfl⟩
  have hR := fun w => Tryd.strings_Repeat ⟨#[48]⟩ c w (by omega) (by show 1 * c ≤ _; omega)
  obtain ⟨R, hRd⟩ : ∃ R : ByteArray, (⟨(Lib.repeatL (⟨#[48]⟩ : ByteArray).data.toList c).toArray⟩ : ByteArray) = R := ⟨_, rfl⟩
  rw [hRd] at hR
  have hRl : R.data.toList = List.replicate c 48 := by
    rw [← hRd]
    show Lib.repeatL [48] c = _
    exact (Lib.repeatL_replicate 48 1 c).trans (by rw [Nat.mul_one])
  clear hRd
  have hT : (R ++ D).data.toList = dgs m.natAbs (width m.natAbs p) := by rw [Joins.data_append, hRl, hDl, width_pad, ← hc, hDs]
  have hTs : R.size + D.size = width m.natAbs p := by
    have := congrArg List.length hT
    rw [Joins.data_append, List.length_append, ← Lib.size_eq, ← Lib.size_eq, dgs_length] at this
    exact this
  have hw1 := width_ge m.natAbs p
  have hw2 : width m.natAbs p ≤ 16 := by unfold width; omega
  have HI := Lib.hid hI
  have HR : Hid (∀ (x : Int) (w : World), x = (c : Int) → Calls Tryd.prog 42 #[.string ⟨#[48]⟩, .int .i64 x] w fun e w' => e = .returned (.string R) ∧ Below w.heap.size w w') := fun x w h => by rw [h]; exact hR w
  have HT := Lib.hid hT
  have b1 : p + 1 ≤ R.size + D.size := by omega
  have b2 : R.size + D.size ≤ 16 := by omega
  have b3 : D.size ≤ 16 := by omega
  have HTs := Lib.hid hTs
  clear hI hR hDl hDs hRl hT hTs hw1 hw2 hn16 hn1
  have HC := Lib.hid hc
  clear hc
  obtain ⟨q, hq⟩ : ∃ q, R.size + D.size - p = q := ⟨_, rfl⟩
  have zq : (R.size : Int) + (D.size : Int) - (p : Int) = (q : Int) := by omega
  have ql : (q : Int) ≤ (R.size : Int) + (D.size : Int) := by omega
  have HQ : Hid (q = R.size + D.size - p) := hq.symm
  clear hq
  by_cases hs : m < 0
  · have SG : Hid ((⟨#[45]⟩ : ByteArray).data.toList = signT m) := by unfold Hid signT; rw [if_pos hs]
    by_cases hp : p = 0
    · subst hp
      go_enter Tryd.func31, Tryd.ntmps31
      go_wp2_with (first | (go_at_call 35; refine (valid_any _ _ (by omega) (by omega)).mono ?_; rintro e w' ⟨rfl, rfl⟩) | (go_at_call 36; refine (abs_any _ _ (by omega) (by omega)).mono ?_; rintro e w' ⟨rfl, rfl⟩) | (go_at_call 41; refine (HI.out _ f).mono ?_; rintro e w1 ⟨rfl, hb1⟩) | (go_at_call 42; refine (HR.out _ _ (by have := HC.out; omega)).mono ?_; rintro e w2 ⟨rfl, hb2⟩))
      go_ret2
      exact ⟨ret_str (fmt_whole m _ ⟨#[45]⟩ HT.out SG.out), Below.step hb1 hb2⟩
    · have hpz : ((p : Int) == 0) = false := beq_eq_false_iff_ne.2 (by omega)
      go_enter Tryd.func31, Tryd.ntmps31
      go_wp2_with (first | (go_at_call 35; refine (valid_any _ _ (by omega) (by omega)).mono ?_; rintro e w' ⟨rfl, rfl⟩) | (go_at_call 36; refine (abs_any _ _ (by omega) (by omega)).mono ?_; rintro e w' ⟨rfl, rfl⟩) | (go_at_call 41; refine (HI.out _ f).mono ?_; rintro e w1 ⟨rfl, hb1⟩) | (go_at_call 42; refine (HR.out _ _ (by have := HC.out; omega)).mono ?_; rintro e w2 ⟨rfl, hb2⟩))
      go_region
      all_goals go_wp2
      all_goals go_ret2
      all_goals exact ⟨ret_str (fmt_point m p q (by omega) _ ⟨#[45]⟩ HT.out (by rw [HQ.out]; simp) _ (by simp) SG.out), Below.step (Below.step hb1 hb2) (below_drewN' _ 1)⟩
  · have SG : Hid ((⟨#[]⟩ : ByteArray).data.toList = signT m) := by unfold Hid signT; rw [if_neg hs]
    by_cases hp : p = 0
    · subst hp
      go_enter Tryd.func31, Tryd.ntmps31
      go_wp2_with (first | (go_at_call 35; refine (valid_any _ _ (by omega) (by omega)).mono ?_; rintro e w' ⟨rfl, rfl⟩) | (go_at_call 36; refine (abs_any _ _ (by omega) (by omega)).mono ?_; rintro e w' ⟨rfl, rfl⟩) | (go_at_call 41; refine (HI.out _ f).mono ?_; rintro e w1 ⟨rfl, hb1⟩) | (go_at_call 42; refine (HR.out _ _ (by have := HC.out; omega)).mono ?_; rintro e w2 ⟨rfl, hb2⟩))
      go_ret2
      exact ⟨ret_str (fmt_whole m _ ⟨#[]⟩ HT.out SG.out), Below.step hb1 hb2⟩
    · have hpz : ((p : Int) == 0) = false := beq_eq_false_iff_ne.2 (by omega)
      go_enter Tryd.func31, Tryd.ntmps31
      go_wp2_with (first | (go_at_call 35; refine (valid_any _ _ (by omega) (by omega)).mono ?_; rintro e w' ⟨rfl, rfl⟩) | (go_at_call 36; refine (abs_any _ _ (by omega) (by omega)).mono ?_; rintro e w' ⟨rfl, rfl⟩) | (go_at_call 41; refine (HI.out _ f).mono ?_; rintro e w1 ⟨rfl, hb1⟩) | (go_at_call 42; refine (HR.out _ _ (by have := HC.out; omega)).mono ?_; rintro e w2 ⟨rfl, hb2⟩))
      go_region
      all_goals go_wp2
      all_goals go_ret2
      all_goals exact ⟨ret_str (fmt_point m p q (by omega) _ ⟨#[]⟩ HT.out (by rw [HQ.out]; simp) _ (by simp) SG.out), Below.step (Below.step hb1 hb2) (below_drewN' _ 1)⟩
end Go.Proofs.YtjgajcabecklcaaDoor
