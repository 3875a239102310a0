/-
  The contracts of length and of Text, of the package and of its specification. Condition: at most 100000 bytes.
-/
import Derived.Test.YtlanbilcekepnaaWirI
namespace Go.Proofs.Ytlanbilcekepnaa
open Go.RowKit Go.Maps
set_option linter.unusedVariables false

set_option maxRecDepth 100000 in
set_option maxHeartbeats 1000000 in
theorem length_any (A : Option Addr) (l : List UInt8) (m c : Nat) (i : Int) (w : World) (N X : Int) (E : Nat) (hL : Ln l i = (N, X, E)) (hm : l.length = m) (hl : m ≤ 1000000) (hc : m ≤ c) (h : BytR w A l) (lo : -9223372036854775808 ≤ i) (hi : i ≤ 9223372036854775807) :
    Calls Try.prog 32 #[.slice A m c, .int .i64 i] w fun e w' => e = .returned (.tuple #[.int .i64 N, .int .i64 X, .int .i64 (E : Int)]) ∧ w = w' := by
  have HI := Lib.hid (fun N X E hI => int_any A l m c i w N X E hI hm hl hc h lo hi)
  rcases It_cases l i with ⟨E', h5, h6, _⟩ | ⟨k, x, n, rfl, _, _, _, _, _, h6⟩
  · rw [Ln_err h5] at hL
    simp only [Prod.mk.injEq] at hL
    obtain ⟨rfl, rfl, rfl⟩ := hL
    have HI2 := Lib.hid (HI.out _ _ _ h5)
    have hz : ¬ (E' : Int) = 0 := by omega
    have hz2 : ((E' : Int) == 0) = false := by rw [beq_eq_false_iff_ne]; omega
    clear h hm HI h5
    go_enter Try.func32, Try.ntmps32
    go_wp2_with fail
    refine HI2.out.mono ?_
    rintro e w1 ⟨rfl, rfl⟩
    go_wp2_with fail
    go_ret3
    exact ⟨rfl, rfl⟩
  · have HI2 := Lib.hid (HI.out _ _ _ h6)
    by_cases hn : n < 0
    · rw [Ln_neg h6 hn] at hL
      simp only [Prod.mk.injEq] at hL
      obtain ⟨rfl, rfl, rfl⟩ := hL
      clear h hm HI h6
      go_enter Try.func32, Try.ntmps32
      go_wp2_with fail
      refine HI2.out.mono ?_
      rintro e w1 ⟨rfl, rfl⟩
      go_wp2_with fail
      go_ret3
      exact ⟨rfl, rfl⟩
    · rw [Ln_ok h6 hn] at hL
      simp only [Prod.mk.injEq] at hL
      obtain ⟨rfl, rfl, rfl⟩ := hL
      clear h hm HI h6
      go_enter Try.func32, Try.ntmps32
      go_wp2_with fail
      refine HI2.out.mono ?_
      rintro e w1 ⟨rfl, rfl⟩
      go_wp2_with fail
      go_ret3
      exact ⟨rfl, rfl⟩
theorem retT {s s' : ByteArray} {k : IntKind} {b c b' c' : Int} (h1 : s = s') (h2 : b = b') (h3 : c = c') : Ending.returned (.tuple #[.string s, .int k b, .int k c]) = .returned (.tuple #[.string s', .int k b', .int k c']) := by rw [h1, h2, h3]

set_option maxRecDepth 100000 in
set_option maxHeartbeats 1000000 in
theorem text_any (A : Option Addr) (l : List UInt8) (m c : Nat) (i : Int) (w : World) (T : List UInt8) (X : Int) (E : Nat) (hT : Tt l i = (T, X, E)) (hm : l.length = m) (hl : m ≤ 100000) (hc : m ≤ c) (h : BytR w A l) (lo : -9223372036854775808 ≤ i) (hi : i ≤ 9223372036854775807) :
    Calls Try.prog 21 #[.slice A m c, .int .i64 i] w fun e w' => e = .returned (.tuple #[.string ⟨T.toArray⟩, .int .i64 X, .int .i64 (E : Int)]) ∧ w = w' := by
  have HI := Lib.hid (fun N X E hI => length_any A l m c i w N X E hI hm (by omega) hc h lo hi)
  rcases Ln_cases l i with ⟨E', h5, h6, _⟩ | ⟨k, x, n, rfl, h1, h2, h3, _, _, h6⟩
  · rw [Tt_err h5 h6] at hT
    simp only [Prod.mk.injEq] at hT
    obtain ⟨rfl, rfl, rfl⟩ := hT
    have HI2 := Lib.hid (HI.out _ _ _ h5)
    have hz : ¬ (E' : Int) = 0 := by omega
    clear h hm HI h5
    go_enter Try.func21, Try.ntmps21
    go_wp2_with fail
    refine HI2.out.mono ?_
    rintro e w1 ⟨rfl, rfl⟩
    go_wp2_with fail
    go_ret3
    exact ⟨rfl, rfl⟩
  · have HI2 := Lib.hid (HI.out _ _ _ h6)
    rw [hm] at h2
    by_cases hn : (m : Int) - (x : Int) < (n : Int)
    · rw [Tt_short h6 (by rw [hm]; exact hn)] at hT
      simp only [Prod.mk.injEq] at hT
      obtain ⟨rfl, rfl, rfl⟩ := hT
      clear h hm HI h6
      go_enter Try.func21, Try.ntmps21
      go_wp2_with fail
      refine HI2.out.mono ?_
      rintro e w1 ⟨rfl, rfl⟩
      go_wp2_with fail
      go_ret3
      exact ⟨rfl, rfl⟩
    · rw [Tt_ok h6 (by rw [hm]; exact hn)] at hT
      simp only [Prod.mk.injEq] at hT
      obtain ⟨hT1, hT2, rfl⟩ := hT
      obtain ⟨b, o, rfl, _, _⟩ := h.at (by omega)
      have HT1 := Lib.hid hT1
      have HT2 := Lib.hid hT2
      by_cases hcx : c = x
      · have hk := run_string_of w (some ⟨b, o, none⟩) [] 0 0 rfl (VsR.nil w _)
        have hn0 : n = 0 := by omega
        subst hn0 hcx
        have HTE : Hid (T = []) := Lib.hid (by rw [← hT1]; simp)
        clear h hm HI h6 hT1 hT2
        go_enter Try.func21, Try.ntmps21
        go_wp2_with fail
        refine HI2.out.mono ?_
        rintro e w1 ⟨rfl, rfl⟩
        go_wp2_with fail
        go_ret3
        have := HT2.out
        exact ⟨retT (by rw [HTE.out]) (by omega) rfl, rfl⟩
      · have hk := run_string_of w (some ⟨b, o + x, none⟩) T n (c - x) (by rw [← hT1, List.length_take, List.length_drop, hm]; omega) (by rw [← hT1]; exact h.part x n)
        clear h hm HI h6 hT1 hT2
        go_enter Try.func21, Try.ntmps21
        go_wp2_with fail
        refine HI2.out.mono ?_
        rintro e w1 ⟨rfl, rfl⟩
        go_wp2_with fail
        go_ret3
        have := HT2.out
        exact ⟨retT rfl (by omega) rfl, rfl⟩

set_option maxRecDepth 100000 in
set_option maxHeartbeats 1000000 in
theorem refText_any (A : Option Addr) (l : List UInt8) (m c : Nat) (i : Int) (w : World) (T : List UInt8) (X : Int) (E : Nat) (hT : Tt l i = (T, X, E)) (hm : l.length = m) (hl : m ≤ 100000) (hc : m ≤ c) (h : BytR w A l) (lo : -9223372036854775808 ≤ i) (hi : i ≤ 9223372036854775807) :
    Calls Try.prog 22 #[.slice A m c, .int .i64 i] w fun e w' => e = .returned (.tuple #[.string ⟨T.toArray⟩, .int .i64 X, .int .i64 (E : Int)]) ∧ w = w' := by
  have HI := Lib.hid (fun N X E hI => refInt_any A l m c i w N X E hI hm (by omega) h lo hi)
  rcases It_cases l i with ⟨E', h5, h6, _⟩ | ⟨k, x, n, rfl, h1, h2, h3, h4, _, h6⟩
  · rw [Tt_err (Ln_err h5) h6] at hT
    simp only [Prod.mk.injEq] at hT
    obtain ⟨rfl, rfl, rfl⟩ := hT
    have HI2 := Lib.hid (HI.out _ _ _ h5)
    have hz : ¬ (E' : Int) = 0 := by omega
    clear h hm HI h5
    go_enter Try.func22, Try.ntmps22
    go_wp2_with fail
    refine HI2.out.mono ?_
    rintro e w1 ⟨rfl, rfl⟩
    go_wp2_with fail
    go_ret3
    exact ⟨rfl, rfl⟩
  have HI2 := Lib.hid (HI.out _ _ _ h6)
  rw [hm] at h2
  by_cases hneg : n < 0
  · rw [Tt_err (Ln_neg h6 hneg) (by decide)] at hT
    simp only [Prod.mk.injEq] at hT
    obtain ⟨rfl, rfl, rfl⟩ := hT
    clear h hm HI h6
    go_enter Try.func22, Try.ntmps22
    go_wp2_with fail
    refine HI2.out.mono ?_
    rintro e w1 ⟨rfl, rfl⟩
    go_wp2_with fail
    go_ret3
    exact ⟨rfl, rfl⟩
  have h7 := Ln_ok h6 hneg
  obtain ⟨n, rfl⟩ : ∃ q : Nat, n = q := ⟨n.toNat, by omega⟩
  by_cases hn : (m : Int) - (x : Int) < (n : Int)
  · rw [Tt_short h7 (by rw [hm]; exact hn)] at hT
    simp only [Prod.mk.injEq] at hT
    obtain ⟨rfl, rfl, rfl⟩ := hT
    clear h hm HI h6 h7
    go_enter Try.func22, Try.ntmps22
    go_wp2_with fail
    refine HI2.out.mono ?_
    rintro e w1 ⟨rfl, rfl⟩
    go_wp2_with fail
    go_ret3
    exact ⟨rfl, rfl⟩
  · rw [Tt_ok h7 (by rw [hm]; exact hn)] at hT
    simp only [Prod.mk.injEq] at hT
    obtain ⟨hT1, hT2, rfl⟩ := hT
    obtain ⟨b, o, rfl, _, _⟩ := h.at (by omega)
    have HT1 := Lib.hid hT1
    have HT2 := Lib.hid hT2
    by_cases hcx : c = x
    · have hk := run_string_of w (some ⟨b, o, none⟩) [] 0 0 rfl (VsR.nil w _)
      have hn0 : n = 0 := by omega
      subst hn0 hcx
      have HTE : Hid (T = []) := Lib.hid (by rw [← hT1]; simp)
      clear h hm HI h6 h7 hT1 hT2
      go_enter Try.func22, Try.ntmps22
      go_wp2_with fail
      refine HI2.out.mono ?_
      rintro e w1 ⟨rfl, rfl⟩
      go_wp2_with fail
      go_ret3
      have := HT2.out
      exact ⟨retT (by rw [HTE.out]) (by omega) rfl, rfl⟩
    · have hk := run_string_of w (some ⟨b, o + x, none⟩) T n (c - x) (by rw [← hT1, List.length_take, List.length_drop, hm]; omega) (by rw [← hT1]; exact h.part x n)
      clear h hm HI h6 h7 hT1 hT2
      go_enter Try.func22, Try.ntmps22
      go_wp2_with fail
      refine HI2.out.mono ?_
      rintro e w1 ⟨rfl, rfl⟩
      go_wp2_with fail
      go_ret3
      have := HT2.out
      exact ⟨retT rfl (by omega) rfl, rfl⟩
end Go.Proofs.Ytlanbilcekepnaa
