/-
  The contracts of Text, of package clock and of its specification. Condition: Go's own table of powers of ten holds what the program's text lays.
-/
import Derived.Test.YtkiedopknoekpaaDoorClkG
import Derived.Test.YtkiedopknoekpaaDoorClkText
namespace Go.Proofs.YtkiedopknoekpaaDoor
open Go.RowKit
set_option linter.unusedVariables false

/-- What the library's variables hold, as the program's text lays them. -/
structure Facts (w : World) : Prop where
  tab : Lib.TabIs Tryd.prog w "internal/strconv.uint64pow10" .u64 Lib.pow10Tab
  low : 6 ≤ w.heap.size
  syn : ∃ tp p, w.cell? ⟨1, 0, none⟩ = some (.iface tp p)
  rng : ∃ tp p, w.cell? ⟨2, 0, none⟩ = some (.iface tp p)
  max : ∃ m, w.cell? ⟨0, 0, none⟩ = some (.int .i64 m)
theorem gPow : Tryd.prog.globalNamed "internal/strconv.uint64pow10" = some 3 := by kernel_rfl
theorem Facts.below {w w' : World} (f : Facts w) (h : Below w.heap.size w w') : Facts w' := by
  have hl := f.low
  refine ⟨var?_below h gPow (by omega) f.tab, Nat.le_trans hl h.size, ?_, ?_, ?_⟩
  · obtain ⟨tp, p, e⟩ := f.syn
    exact ⟨tp, p, (h.cell (p := ⟨1, 0, none⟩) (by show 1 < _; omega)).trans e⟩
  · obtain ⟨tp, p, e⟩ := f.rng
    exact ⟨tp, p, (h.cell (p := ⟨2, 0, none⟩) (by show 2 < _; omega)).trans e⟩
  · obtain ⟨m, e⟩ := f.max
    exact ⟨m, (h.cell (p := ⟨0, 0, none⟩) (by show 0 < _; omega)).trans e⟩

theorem str_ext {a b : ByteArray} (h : a.data.toList = b.data.toList) : a = b := by
  rw [← Lib.mk_data a, ← Lib.mk_data b, h]
theorem ret_string {a b : ByteArray} (h : a = b) : Ending.returned (.string a) = .returned (.string b) := by rw [h]
theorem ret_str {a b : ByteArray} {k : IntKind} {c : Int} (h : a.data.toList = b.data.toList) : Ending.returned (.tuple #[.string a, .int k c]) = .returned (.tuple #[.string b, .int k c]) := by rw [str_ext h]
/-- A string of these bytes. -/
def strOf (l : List UInt8) : ByteArray := ⟨l.toArray⟩
theorem strOf_data (l : List UInt8) : (strOf l).data.toList = l := by simp [strOf]

theorem strOf_size (l : List UInt8) : (strOf l).size = l.length := by rw [Lib.size_eq, strOf_data]
theorem itoa_nat (n : Nat) (w : World) (h1 : n ≤ 4294967296) (f : Facts w) :
    Calls Tryd.prog 43 #[.int .i64 (n : Int)] w fun e w' => e = .returned (.string (strOf (Lib.decDigits n))) ∧ Below w.heap.size w w' :=
  (Tryd.strconv_Itoa (n : Int) (by omega) (by omega) w f.tab).mono fun _ _ ⟨he, k, os, hw⟩ => ⟨by
    rw [he]
    unfold Lib.itoa
    rw [if_neg (by omega), Int.toNat_natCast]
    rfl, hw ▸ below_grow w k os⟩

set_option maxRecDepth 100000 in
theorem twoDigits_any (n : Nat) (w : World) (h : n < 100) (f : Facts w) :
    Calls Tryd.prog 44 #[.int .i64 (n : Int)] w fun e w' => e = .returned (.string (strOf (dgs n 2))) ∧ Below w.heap.size w w' := by
  have h1 := fun w f => itoa_nat (n / 10) w (by omega) f
  have h2 := fun w f => itoa_nat (n % 10) w (by omega) f
  have e1 : ((n / 10 : Nat) : Int) = (n : Int) / 10 := by omega
  have e2 : ((n % 10 : Nat) : Int) = (n : Int) % 10 := by omega
  rw [e1] at h1
  rw [e2] at h2
  have H1 := Lib.hid h1
  have H2 := Lib.hid h2
  have HD : Hid ((strOf (Lib.decDigits (n / 10)) ++ strOf (Lib.decDigits (n % 10)) : ByteArray) = strOf (dgs n 2)) := Lib.hid (str_ext (by rw [Joins.data_append, strOf_data, strOf_data, strOf_data]; exact two_digits n h))
  have z1 : (strOf (Lib.decDigits (n / 10))).size ≤ 5 := by rw [strOf_size]; exact (day_len _ (by omega)).2
  have z2 : (strOf (Lib.decDigits (n % 10))).size ≤ 5 := by rw [strOf_size]; exact (day_len _ (by omega)).2
  generalize strOf (dgs n 2) = R at HD ⊢
  generalize strOf (Lib.decDigits (n / 10)) = S1 at H1 HD z1
  generalize strOf (Lib.decDigits (n % 10)) = S2 at H2 HD z2
  clear h1 h2 e1 e2
  go_enter Tryd.func44, Tryd.ntmps44
  go_wp2_with fail
  refine (H1.out _ f).mono ?_
  rintro e w1 ⟨rfl, hb1⟩
  go_wp2_with fail
  refine (H2.out _ (f.below hb1)).mono ?_
  rintro e w2 ⟨rfl, hb2⟩
  go_wp2_with fail
  go_ret
  exact ⟨ret_string HD.out, Below.step hb1 hb2⟩

/-- What Text returns. -/
def textS (t : Int) : ByteArray × Int := if momB t then (strOf (momT t.toNat), 0) else (strOf [], 1)
theorem mom_parts (t : Nat) (D H M S : ByteArray) (hD : D = strOf (Lib.decDigits (t / 86400))) (hH : H = strOf (dgs (t % 86400 / 3600) 2)) (hM : M = strOf (dgs (t % 86400 % 3600 / 60) 2)) (hS : S = strOf (dgs (t % 60) 2)) :
    (D ++ ⟨#[32]⟩ ++ H ++ ⟨#[58]⟩ ++ M ++ ⟨#[58]⟩ ++ S : ByteArray) = strOf (momT t) := by
  subst hD hH hM hS
  refine str_ext ?_
  rw [Joins.data_append, Joins.data_append, Joins.data_append, Joins.data_append, Joins.data_append, Joins.data_append, strOf_data, strOf_data, strOf_data, strOf_data, strOf_data]
  unfold momT restT
  simp only [List.append_assoc, List.cons_append, List.nil_append]

set_option maxRecDepth 100000 in
set_option maxHeartbeats 1000000 in
theorem text_any (t : Int) (w : World) (h0 : -9223372036854775808 ≤ t) (h1 : t ≤ 9223372036854775807) (f : Facts w) :
    Calls Tryd.prog 30 #[.int .i64 t] w fun e w' => e = .returned (.tuple #[.string (textS t).1, .int .i64 (textS t).2]) ∧ Below w.heap.size w w' := by
  cases hm : momB t
  · have e : textS t = (⟨#[]⟩, 1) := by simp [textS, hm, strOf]
    rw [e]
    clear e
    go_enter Tryd.func30, Tryd.ntmps30
    go_wp2_with (go_at_call 37; refine (validMoment_any _ _ (by omega) (by omega)).mono ?_; rintro e w' ⟨rfl, rfl⟩)
    go_ret2
    exact ⟨rfl, Below.refl _ _⟩
  · have hb := momB_true hm
    obtain ⟨n, rfl⟩ : ∃ n : Nat, t = n := ⟨t.toNat, by omega⟩
    have e : textS (n : Int) = (strOf (momT n), 0) := by simp [textS, hm]
    rw [e]
    have c1 := fun w f => itoa_nat (n / 86400) w (by omega) f
    have c2 := fun w f => twoDigits_any (n % 86400 / 3600) w (by omega) f
    have c3 := fun w f => twoDigits_any (n % 86400 % 3600 / 60) w (by omega) f
    have c4 := fun w f => twoDigits_any (n % 60) w (by omega) f
    have e1 : ((n / 86400 : Nat) : Int) = (n : Int) / 86400 := by omega
    have e2 : ((n % 86400 / 3600 : Nat) : Int) = (n : Int) % 86400 / 3600 := by omega
    have e3 : ((n % 86400 % 3600 / 60 : Nat) : Int) = (n : Int) % 3600 / 60 := by omega
    have e4 : ((n % 60 : Nat) : Int) = (n : Int) % 60 := by omega
    rw [e1] at c1
    rw [e2] at c2
    rw [e3] at c3
    rw [e4] at c4
    have H1 := Lib.hid c1
    have H2 := Lib.hid c2
    have H3 := Lib.hid c3
    have H4 := Lib.hid c4
    obtain ⟨D, hD⟩ : ∃ D, D = strOf (Lib.decDigits (n / 86400)) := ⟨_, rfl⟩
    obtain ⟨Hh, hH⟩ : ∃ D, D = strOf (dgs (n % 86400 / 3600) 2) := ⟨_, rfl⟩
    obtain ⟨M, hM⟩ : ∃ D, D = strOf (dgs (n % 86400 % 3600 / 60) 2) := ⟨_, rfl⟩
    obtain ⟨S, hS⟩ : ∃ D, D = strOf (dgs (n % 60) 2) := ⟨_, rfl⟩
    have HF := Lib.hid (mom_parts n D Hh M S hD hH hM hS)
    have z1 : D.size ≤ 5 := by rw [hD, strOf_size]; exact (day_len _ (by omega)).2
    have z2 : Hh.size ≤ 2 := by rw [hH, strOf_size, dgs_length]; exact Nat.le_refl _
    have z3 : M.size ≤ 2 := by rw [hM, strOf_size, dgs_length]; exact Nat.le_refl _
    have z4 : S.size ≤ 2 := by rw [hS, strOf_size, dgs_length]; exact Nat.le_refl _
    rw [← hD] at H1
    rw [← hH] at H2
    rw [← hM] at H3
    rw [← hS] at H4
    generalize strOf (momT n) = R at HF ⊢
    clear e c1 c2 c3 c4 e1 e2 e3 e4 hD hH hM hS
    go_enter Tryd.func30, Tryd.ntmps30
    go_wp2_with (go_at_call 37; refine (validMoment_any _ _ (by omega) (by omega)).mono ?_; rintro e w' ⟨rfl, rfl⟩)
    refine (H1.out _ f).mono ?_
    rintro e w1 ⟨rfl, hb1⟩
    go_wp2_with fail
    refine (H2.out _ (f.below hb1)).mono ?_
    rintro e w2 ⟨rfl, hb2⟩
    have hb12 := Below.step hb1 hb2
    go_wp2_with fail
    refine (H3.out _ (f.below hb12)).mono ?_
    rintro e w3 ⟨rfl, hb3⟩
    have hb13 := Below.step hb12 hb3
    go_wp2_with fail
    refine (H4.out _ (f.below hb13)).mono ?_
    rintro e w4 ⟨rfl, hb4⟩
    have hb14 := Below.step hb13 hb4
    go_wp2_with fail
    go_ret2
    exact ⟨ret_str (congrArg (fun x : ByteArray => x.data.toList) HF.out), hb14⟩

/-! ### The specification's -/
set_option maxRecDepth 100000 in
theorem two_any (n : Nat) (w : World) (h : n < 100) :
    Calls Tryd.prog 46 #[.int .i64 (n : Int)] w fun e w' => e = .returned (.string (strOf (dgs n 2))) ∧ Below w.heap.size w w' := by
  have d1 := dg_nat n 1
  have d0 := dg_nat n 0
  have e1 : n / 10 ^ 1 % 10 = n / 10 := by omega
  have e0 : n / 10 ^ 0 % 10 = n % 10 := by omega
  rw [e1] at d1
  rw [e0] at d0
  have hcv : (convert 61 9 (.slice (some ⟨w.heap.size, 0, none⟩) 2 2)).run Tryd.prog (w.alloc (.cells #[.int .u8 (48 + (n : Int) / 10), .int .u8 (48 + (n : Int) % 10)] 5)) = .ok (.string ⟨#[Lib.dg n 1, Lib.dg n 0]⟩) (w.alloc (.cells #[.int .u8 (48 + (n : Int) / 10), .int .u8 (48 + (n : Int) % 10)] 5)) :=
    run_convert_bytes_back _ 61 9 5 ⟨w.heap.size, 0, none⟩ 2 [Lib.dg n 1, Lib.dg n 0] Tryd.underlying61 Tryd.underlying5 Tryd.underlying9 (fun j hj => by
      match j, hj with
      | 0, _ =>
        show World.cell? _ ⟨w.heap.size, 0, none⟩ = _
        rw [World.cell?_alloc_new]
        simp [d1]
      | 1, _ =>
        show World.cell? _ ⟨w.heap.size, 1, none⟩ = _
        rw [World.cell?_alloc_new]
        simp [d0])
  have HD : Hid ((⟨#[Lib.dg n 1, Lib.dg n 0]⟩ : ByteArray) = strOf (dgs n 2)) := Lib.hid (str_ext (by rw [strOf_data]; rfl))
  generalize strOf (dgs n 2) = R at HD ⊢
  generalize (⟨#[Lib.dg n 1, Lib.dg n 0]⟩ : ByteArray) = R' at HD hcv
  clear d1 d0 e1 e0
  go_enter Tryd.func46, Tryd.ntmps46
  go_wp2
  go_ret
  exact ⟨ret_string HD.out, (Below.refl _ _).alloc (Nat.le_refl _) _⟩

set_option maxRecDepth 100000 in
set_option maxHeartbeats 1000000 in
theorem decimal_any (n : Nat) (w : World) (hn : n ≤ 49709) :
    Calls Tryd.prog 45 #[.int .i64 (n : Int)] w fun e w' => e = .returned (.string (strOf (Lib.decDigits n))) ∧ Below w.heap.size w w' := by
  have hW1 : width n 0 = Lib.nDigits n := by unfold width; have := Lib.nDigits_pos n; omega
  have hW : width n 0 ≤ 5 := by
    have := (day_len n hn).2
    rw [decDigits_dgs, dgs_length] at this
    omega
  have HR : Hid (dgs n (width n 0) = Lib.decDigits n) := Lib.hid (by rw [hW1, ← decDigits_dgs])
  clear hW1
  go_enter Tryd.func45, Tryd.ntmps45
  go_wp2
  go_loopw [0, 3, 4] (fun vn vs vi wr => ∃ (k : Nat) (S : ByteArray), vn = .int .i64 ((n / 10 ^ k : Nat) : Int) ∧ vs = .string S ∧ vi = .int .i64 (k : Int) ∧ Hid (S.data.toList = dgs n k) ∧ k ≤ width n 0 ∧ Below w.heap.size w wr) (fun _ _ vi _ => width n 0 - (intOf vi).toNat)
  case atStart => exact ⟨0, ⟨#[]⟩, by rw [Nat.pow_zero, Nat.div_one], rfl, rfl, rfl, by omega, Below.refl _ _⟩
  case round =>
    obtain ⟨k, S, rfl, rfl, rfl, hS, hk, hb⟩ := hrel
    have hgo := width_go n 0 k
    have hxl : n / 10 ^ k ≤ n := Nat.div_le_self _ _
    have hnext : n / 10 ^ (k + 1) = n / 10 ^ k / 10 := by rw [Nat.pow_succ, Nat.div_div_eq_div_mul]
    have hSs : S.size = k := by rw [Lib.size_eq, hS.out, dgs_length]
    obtain ⟨x, hx⟩ : ∃ x, n / 10 ^ k = x := ⟨_, rfl⟩
    rw [hx] at hgo hxl hnext ⊢
    have HX := Lib.hid hx
    have HN := Lib.hid hnext
    have s1 : S.size ≤ k := by omega
    have s2 : k ≤ S.size := by omega
    clear hx hnext hSs
    have k20 : (k : Int) < 20 := by omega
    by_cases hlt : k < width n 0
    · have hc := hgo.1 hlt
      clear hgo
      have hdn := dg_nat n k
      rw [HX.out] at hdn
      have hcv : (convert 61 9 (.slice (some ⟨wr.heap.size, 0, none⟩) 1 1)).run Tryd.prog (wr.alloc (.cells #[.int .u8 (48 + (x : Int) % 10)] 5)) = .ok (.string ⟨#[Lib.dg n k]⟩) (wr.alloc (.cells #[.int .u8 (48 + (x : Int) % 10)] 5)) :=
        run_convert_bytes_back _ 61 9 5 ⟨wr.heap.size, 0, none⟩ 1 [Lib.dg n k] Tryd.underlying61 Tryd.underlying5 Tryd.underlying9 (fun j hj => by
          obtain rfl : j = 0 := by simpa using hj
          show World.cell? _ ⟨wr.heap.size, 0, none⟩ = _
          rw [World.cell?_alloc_new]
          simp [hdn])
      have hdl : x % 10 < 10 := Nat.mod_lt _ (by decide)
      clear hdn
      by_cases h0 : 0 < x
      · have h0z : (0 : Int) < (x : Int) := by omega
        clear hc
        go_wp2
        go_roundw
        case rel =>
          refine ⟨k + 1, ⟨#[Lib.dg n k]⟩ ++ S, val_int' (by rw [HN.out]; omega), rfl, by go_num, ?_, by omega, hb.alloc hb.size _⟩
          show (⟨#[Lib.dg n k]⟩ ++ S : ByteArray).data.toList = dgs n (k + 1)
          rw [Joins.data_append, hS.out]
          rfl
        case measure => simp only [intOf]; omega
      · have h0z : ¬ (0 : Int) < (x : Int) := by omega
        obtain rfl : k = 0 := by omega
        have hkz : ((((0 : Nat) : Int)) == 0) = true := rfl
        clear hc
        go_wp2
        go_roundw
        case rel =>
          refine ⟨0 + 1, ⟨#[Lib.dg n 0]⟩ ++ S, val_int' (by rw [HN.out]; omega), rfl, by go_num, ?_, by omega, hb.alloc hb.size _⟩
          show (⟨#[Lib.dg n 0]⟩ ++ S : ByteArray).data.toList = dgs n (0 + 1)
          rw [Joins.data_append, hS.out]
          rfl
        case measure => simp only [intOf]; omega
    · have hw : k = width n 0 := by omega
      have h0z : ¬ (0 : Int) < (x : Int) := by
        have := fun h => hlt (hgo.2 (Or.inl h)); omega
      have h1z : ((k : Int) == 0) = false := beq_eq_false_iff_ne.2 (by
        have := fun h => hlt (hgo.2 (Or.inr h)); omega)
      have h1n : ¬ ((k : Int) = 0) := by
        have := fun h => hlt (hgo.2 (Or.inr h)); omega
      have HK := Lib.hid hw
      clear hw hgo hlt
      go_wp2
      go_ret
      exact ⟨ret_string (str_ext (by rw [strOf_data]; exact hS.out.trans ((congrArg (dgs n) HK.out).trans HR.out))), hb⟩

set_option maxRecDepth 100000 in
set_option maxHeartbeats 1000000 in
theorem refText_any (t : Int) (w : World) (h0 : -9223372036854775808 ≤ t) (h1 : t ≤ 9223372036854775807) :
    Calls Tryd.prog 31 #[.int .i64 t] w fun e w' => e = .returned (.tuple #[.string (textS t).1, .int .i64 (textS t).2]) ∧ Below w.heap.size w w' := by
  by_cases c0 : t < 0
  · have e : textS t = (⟨#[]⟩, 1) := by
      have : ¬ 0 ≤ t := by omega
      simp [textS, momB, this, strOf]
    rw [e]
    clear e
    go_enter Tryd.func31, Tryd.ntmps31
    go_wp2
    go_ret2
    exact ⟨rfl, Below.refl _ _⟩
  by_cases c1 : 4294943999 < t
  · have e : textS t = (⟨#[]⟩, 1) := by
      have : ¬ t ≤ 4294943999 := by omega
      simp [textS, momB, this, strOf]
    rw [e]
    clear e
    go_enter Tryd.func31, Tryd.ntmps31
    go_wp2
    go_ret2
    exact ⟨rfl, Below.refl _ _⟩
  · obtain ⟨n, rfl⟩ : ∃ n : Nat, t = n := ⟨t.toNat, by omega⟩
    have hm : momB (n : Int) = true := by
      have : (0 : Int) ≤ n ∧ (n : Int) ≤ 4294943999 := by omega
      simp [momB, this]
    have e : textS (n : Int) = (strOf (momT n), 0) := by simp [textS, hm]
    rw [e]
    have c1 := fun w => decimal_any (n / 86400) w (by omega)
    have c2 := fun w => two_any (n % 86400 / 3600) w (by omega)
    have c3 := fun w => two_any (n % 86400 % 3600 / 60) w (by omega)
    have c4 := fun w => two_any (n % 60) w (by omega)
    have e1 : ((n / 86400 : Nat) : Int) = (n : Int) / 86400 := by omega
    have e2 : ((n % 86400 / 3600 : Nat) : Int) = (n : Int) % 86400 / 3600 := by omega
    have e3 : ((n % 86400 % 3600 / 60 : Nat) : Int) = (n : Int) % 86400 / 60 % 60 := by omega
    have e4 : ((n % 60 : Nat) : Int) = (n : Int) % 60 := by omega
    rw [e1] at c1
    rw [e2] at c2
    rw [e3] at c3
    rw [e4] at c4
    have H1 := Lib.hid c1
    have H2 := Lib.hid c2
    have H3 := Lib.hid c3
    have H4 := Lib.hid c4
    obtain ⟨D, hD⟩ : ∃ D, D = strOf (Lib.decDigits (n / 86400)) := ⟨_, rfl⟩
    obtain ⟨Hh, hH⟩ : ∃ D, D = strOf (dgs (n % 86400 / 3600) 2) := ⟨_, rfl⟩
    obtain ⟨M, hM⟩ : ∃ D, D = strOf (dgs (n % 86400 % 3600 / 60) 2) := ⟨_, rfl⟩
    obtain ⟨S, hS⟩ : ∃ D, D = strOf (dgs (n % 60) 2) := ⟨_, rfl⟩
    have HF := Lib.hid (mom_parts n D Hh M S hD hH hM hS)
    have z1 : D.size ≤ 5 := by rw [hD, strOf_size]; exact (day_len _ (by omega)).2
    have z2 : Hh.size ≤ 2 := by rw [hH, strOf_size, dgs_length]; exact Nat.le_refl _
    have z3 : M.size ≤ 2 := by rw [hM, strOf_size, dgs_length]; exact Nat.le_refl _
    have z4 : S.size ≤ 2 := by rw [hS, strOf_size, dgs_length]; exact Nat.le_refl _
    rw [← hD] at H1
    rw [← hH] at H2
    rw [← hM] at H3
    rw [← hS] at H4
    generalize strOf (momT n) = R at HF ⊢
    clear e c1 c2 c3 c4 e1 e2 e3 e4 hD hH hM hS hm
    go_enter Tryd.func31, Tryd.ntmps31
    go_wp2_with fail
    refine (H1.out _).mono ?_
    rintro e w1 ⟨rfl, hb1⟩
    go_wp2_with fail
    refine (H2.out _).mono ?_
    rintro e w2 ⟨rfl, hb2⟩
    have hb12 := Below.step hb1 hb2
    go_wp2_with fail
    refine (H3.out _).mono ?_
    rintro e w3 ⟨rfl, hb3⟩
    have hb13 := Below.step hb12 hb3
    go_wp2_with fail
    refine (H4.out _).mono ?_
    rintro e w4 ⟨rfl, hb4⟩
    have hb14 := Below.step hb13 hb4
    go_wp2_with fail
    go_ret2
    exact ⟨ret_str (congrArg (fun x : ByteArray => x.data.toList) HF.out), hb14⟩
end Go.Proofs.YtkiedopknoekpaaDoor
