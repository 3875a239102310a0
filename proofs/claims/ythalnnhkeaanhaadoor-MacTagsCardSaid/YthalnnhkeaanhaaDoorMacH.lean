/-
  The contracts of the specification's word and Sum. Condition: at most a million bytes.
-/
import Derived.Test.YthalnnhkeaanhaaDoorMacG
namespace Go.Proofs.YthalnnhkeaanhaaDoor
open Go.RowKit Go.Maps
set_option linter.unusedVariables false

theorem wd_skip {f : Nat → Nat} {j : Nat} (h : f j = 0) : wd f (j + 1) = wd f j := by
  show wd f j ||| f j * 2 ^ (8 * j) = wd f j
  rw [h, Nat.zero_mul, Nat.or_zero]
theorem or_word7 {f : Nat → Nat} (hf : ∀ k, f k < 256) : bits .or .u64 (wd f 7 : Int) (IntKind.u64.wrap ((f 7 : Int) * 72057594037927936)) = ((wd f 8 : Nat) : Int) := or_word (k := 7) (by decide) hf
theorem or_word7' {f : Nat → Nat} (hf : ∀ k, f k < 256) : bits .or .u64 (wd f 7 : Int) ((f 7 : Int) * 72057594037927936) = ((wd f 8 : Nat) : Int) := by
  rw [← or_word7 hf, IntKind.wrap_u64]
  have := hf 7
  rw [Int.emod_eq_of_lt (by omega) (by omega)]

set_option maxRecDepth 100000 in
set_option maxHeartbeats 1000000 in
theorem refWord_any (A : Option Addr) (l : List UInt8) (m c k : Nat) (w : World) (hm : l.length = m) (hl : m ≤ 1000000) (hk : 8 * k ≤ m) (h : BytR w A l) :
    Calls Tryd.prog 25 #[.slice A m c, .int .i64 (k : Int)] w fun e w' => e = .returned (.int .u64 (wrd l k : Int)) ∧ w = w' := by
  have HO := Lib.hid (fun j hj => or_word (f := byt l k) (k := j) hj (byt_lt l k))
  have H7 := Lib.hid (or_word7 (byt_lt l k))
  have H7' := Lib.hid (or_word7' (byt_lt l k))
  have HB := Lib.hid (fun n => wd_lt (byt_lt l k) n)
  have HL := Lib.hid (byt_lt l k)
  have HIN := Lib.hid (fun i => byt_in (l := l) (k := k) (i := i))
  have HLAST := Lib.hid (byt_last (l := l) (k := k))
  have HOUT := Lib.hid (fun i => byt_out (l := l) (k := k) (i := i))
  have HM := Lib.hid hm
  have HR := Lib.hid h
  have HW : Hid (wrd l k = wd (byt l k) 8) := Lib.hid rfl
  clear h hm
  go_enter Tryd.func25, Tryd.ntmps25
  go_wp2_with fail
  go_loop [5, 6] (fun n i => ∃ j : Nat, j ≤ 8 ∧ i = .int .i64 (j : Int) ∧ n = .int .u64 (wd (byt l k) j : Int)) (fun _ i => 8 - (intOf i).toNat)
  case atStart => exact ⟨0, by omega, rfl, rfl⟩
  case round =>
    obtain ⟨j, hj, rfl, rfl⟩ := hrel
    by_cases hlt : j < 8
    · have hltz : (j : Int) < 8 := by omega
      obtain ⟨a, ha⟩ : ∃ a, 8 * k + j = a := ⟨_, rfl⟩
      have hat : (k : Int) * 8 + (j : Int) = (a : Int) := by omega
      have hN : (wd (byt l k) j : Int) ≤ 18446744073709551615 := by have := HB.out j hj; omega
      by_cases hin : a < m
      · have hinz : (a : Int) < (m : Int) := by omega
        obtain ⟨b, o, rfl, _, hc⟩ := HR.out.at (by rw [HM.out]; omega)
        have hI := HIN.out j (by rw [HM.out, ha]; exact hin)
        rw [ha] at hI
        have c0 := hc a (by rw [HM.out]; exact hin)
        have hO := HO.out j hlt
        rw [hI] at hO
        have hF : ((l.getD a 0).toNat : Int) ≤ 255 := by have := HL.out j; omega
        obtain ⟨n2, hn2⟩ : ∃ n, wd (byt l k) (j + 1) = n := ⟨_, rfl⟩
        rw [hn2] at hO
        have HN2 := Lib.hid hn2
        clear hn2 hc hI ha
        generalize wd (byt l k) j = n1 at hO hN ⊢
        generalize (l.getD a 0).toNat = x at c0 hO hF
        go_wp2_with fail
        go_round
        case rel => exact ⟨j + 1, by omega, by go_num, by rw [HN2.out]⟩
        case measure => simp only [intOf]; omega
      · have hinz : ¬ (a : Int) < (m : Int) := by omega
        by_cases h7 : j = 7
        · subst h7
          have hY := HLAST.out (by rw [HM.out, ha]; exact hin)
          rw [HM.out] at hY
          have h8 := H7.out
          have h8' := H7'.out
          obtain ⟨y, hy⟩ : ∃ y, byt l k 7 = y := ⟨_, rfl⟩
          rw [hy] at hY h8 h8'
          have hyz : (m : Int) % 256 = (y : Int) := by omega
          have hyb : (y : Int) ≤ 255 := by omega
          obtain ⟨n2, hn2⟩ : ∃ n, wd (byt l k) 8 = n := ⟨_, rfl⟩
          rw [hn2] at h8 h8'
          have HN2 := Lib.hid hn2
          clear hn2 hy hY ha
          generalize wd (byt l k) 7 = n1 at h8 h8' hN ⊢
          go_wp2_with fail
          go_round
          case rel => exact ⟨8, by omega, by go_num, by rw [HN2.out]⟩
          case measure => simp only [intOf]; omega
        · have hn7 : ¬ (j : Int) = 7 := by omega
          have HN2 := Lib.hid (wd_skip (HOUT.out j (by rw [HM.out, ha]; exact hin) h7))
          clear ha
          go_wp2_with fail
          go_round
          case rel => exact ⟨j + 1, by omega, by go_num, by rw [HN2.out]⟩
          case measure => simp only [intOf]; omega
    · obtain rfl : j = 8 := by omega
      rw [← HW.out]
      go_wp2_with fail
      go_ret
      exact ⟨rfl, rfl⟩
end Go.Proofs.YthalnnhkeaanhaaDoor
