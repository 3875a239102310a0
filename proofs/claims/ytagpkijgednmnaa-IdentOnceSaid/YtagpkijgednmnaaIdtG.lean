/-
  The contracts of same and long. Condition: lists of at most 512 strings.
-/
import Derived.Test.YtagpkijgednmnaaIdtF
import Derived.Laws.IdiomStrings
namespace Go.Proofs.Ytagpkijgednmnaa
open Go.RowKit Go.Maps
set_option linter.unusedVariables false

set_option maxRecDepth 100000 in
set_option maxHeartbeats 2000000 in
theorem same_any (b : Nat) (S : Nat → Prop) (N : List ByteArray) (A : Option Addr) (cap : Nat) (s : ByteArray) (i : Int) (w : World) (h : Tab w b S N) (hr : StR w A N) (hs : s.size ≤ 9223372036854775807) :
    Calls Try.prog 16 #[.pointer (some ⟨b, 0, none⟩), .slice A N.length cap, .string s, .int .i64 i] w fun e w' => e = .returned (.bool true) ∧ w = w' := by
  have hle := h.1.2.1
  have HL := Lib.hid (len_any b S N w h)
  by_cases hi : i < 0 ∨ (N.length : Int) ≤ i
  · have HN := Lib.hid (name_out b S N i w h hi)
    by_cases hm : s ∈ N
    · have HF := Lib.hid (find_in b S N s w h hs hm)
      have HR := Lib.hid (refFind_in N s A cap w (by omega) hr hm)
      obtain ⟨p, hp⟩ : ∃ p, plc N s = p := ⟨_, rfl⟩
      rw [hp] at HF HR
      obtain ⟨n, hn⟩ : ∃ n, N.length = n := ⟨_, rfl⟩
      rw [hn] at HL HR hi ⊢
      have z : (0 : Int) ≤ (p : Int) := by omega
      clear h hr hs hm hp hn hle
      by_cases hi0 : i < 0
      · clear hi
        go_enter Try.func16, Try.ntmps16
        go_wp2_with fail
        refine HF.out.mono ?_
        rintro e w' ⟨rfl, rfl⟩
        go_wp2_with fail
        refine HR.out.mono ?_
        rintro e w' ⟨rfl, rfl⟩
        go_wp2_with fail
        refine HL.out.mono ?_
        rintro e w' ⟨rfl, rfl⟩
        go_wp2_with fail
        refine HN.out.mono ?_
        rintro e w' ⟨rfl, rfl⟩
        go_wp2_with fail
        go_ret
        exact ⟨rfl, rfl⟩
      · have hi1 : (n : Int) ≤ i := by omega
        clear hi
        go_enter Try.func16, Try.ntmps16
        go_wp2_with fail
        refine HF.out.mono ?_
        rintro e w' ⟨rfl, rfl⟩
        go_wp2_with fail
        refine HR.out.mono ?_
        rintro e w' ⟨rfl, rfl⟩
        go_wp2_with fail
        refine HL.out.mono ?_
        rintro e w' ⟨rfl, rfl⟩
        go_wp2_with fail
        refine HN.out.mono ?_
        rintro e w' ⟨rfl, rfl⟩
        go_wp2_with fail
        go_ret
        exact ⟨rfl, rfl⟩
    · have HF := Lib.hid (find_out b S N s w h hs hm)
      have HR := Lib.hid (refFind_out N s A cap w (by omega) hr hm)
      obtain ⟨n, hn⟩ : ∃ n, N.length = n := ⟨_, rfl⟩
      rw [hn] at HL HR hi ⊢
      clear h hr hs hm hn hle
      by_cases hi0 : i < 0
      · clear hi
        go_enter Try.func16, Try.ntmps16
        go_wp2_with fail
        refine HF.out.mono ?_
        rintro e w' ⟨rfl, rfl⟩
        go_wp2_with fail
        refine HR.out.mono ?_
        rintro e w' ⟨rfl, rfl⟩
        go_wp2_with fail
        refine HL.out.mono ?_
        rintro e w' ⟨rfl, rfl⟩
        go_wp2_with fail
        refine HN.out.mono ?_
        rintro e w' ⟨rfl, rfl⟩
        go_wp2_with fail
        go_ret
        exact ⟨rfl, rfl⟩
      · have hi1 : (n : Int) ≤ i := by omega
        clear hi
        go_enter Try.func16, Try.ntmps16
        go_wp2_with fail
        refine HF.out.mono ?_
        rintro e w' ⟨rfl, rfl⟩
        go_wp2_with fail
        refine HR.out.mono ?_
        rintro e w' ⟨rfl, rfl⟩
        go_wp2_with fail
        refine HL.out.mono ?_
        rintro e w' ⟨rfl, rfl⟩
        go_wp2_with fail
        refine HN.out.mono ?_
        rintro e w' ⟨rfl, rfl⟩
        go_wp2_with fail
        go_ret
        exact ⟨rfl, rfl⟩
  · obtain ⟨k, rfl⟩ : ∃ k : Nat, i = k := ⟨i.toNat, by omega⟩
    have hk : k < N.length := by omega
    have HN := Lib.hid (name_in b S N k w h hk)
    obtain ⟨g, o, rfl, hlt, hc⟩ := hr (by omega)
    have c1 := hc k hk
    have hr2 : StR w (some ⟨g, o, none⟩) N := hr
    obtain ⟨t, ht⟩ : ∃ t, N.getD k ByteArray.empty = t := ⟨_, rfl⟩
    rw [ht] at HN c1
    have z1 : ¬ (k : Int) < 0 := by omega
    by_cases hm : s ∈ N
    · have HF := Lib.hid (find_in b S N s w h hs hm)
      have HR := Lib.hid (refFind_in N s _ cap w (by omega) hr2 hm)
      obtain ⟨p, hp⟩ : ∃ p, plc N s = p := ⟨_, rfl⟩
      rw [hp] at HF HR
      obtain ⟨n, hn⟩ : ∃ n, N.length = n := ⟨_, rfl⟩
      rw [hn] at HL HR hk ⊢
      have z : (0 : Int) ≤ (p : Int) := by omega
      have z2 : ¬ (n : Int) ≤ (k : Int) := by omega
      have z3 : (k : Int) < (n : Int) := by omega
      clear h hr hr2 hs hm hp hn hle hi hc ht
      go_enter Try.func16, Try.ntmps16
      go_wp2_with fail
      refine HF.out.mono ?_
      rintro e w' ⟨rfl, rfl⟩
      go_wp2_with fail
      refine HR.out.mono ?_
      rintro e w' ⟨rfl, rfl⟩
      go_wp2_with fail
      refine HL.out.mono ?_
      rintro e w' ⟨rfl, rfl⟩
      go_wp2_with fail
      refine HN.out.mono ?_
      rintro e w' ⟨rfl, rfl⟩
      go_wp2_with fail
      go_ret
      exact ⟨rfl, rfl⟩
    · have HF := Lib.hid (find_out b S N s w h hs hm)
      have HR := Lib.hid (refFind_out N s _ cap w (by omega) hr2 hm)
      obtain ⟨n, hn⟩ : ∃ n, N.length = n := ⟨_, rfl⟩
      rw [hn] at HL HR hk ⊢
      have z2 : ¬ (n : Int) ≤ (k : Int) := by omega
      have z3 : (k : Int) < (n : Int) := by omega
      clear h hr hr2 hs hm hn hle hi hc ht
      go_enter Try.func16, Try.ntmps16
      go_wp2_with fail
      refine HF.out.mono ?_
      rintro e w' ⟨rfl, rfl⟩
      go_wp2_with fail
      refine HR.out.mono ?_
      rintro e w' ⟨rfl, rfl⟩
      go_wp2_with fail
      refine HL.out.mono ?_
      rintro e w' ⟨rfl, rfl⟩
      go_wp2_with fail
      refine HN.out.mono ?_
      rintro e w' ⟨rfl, rfl⟩
      go_wp2_with fail
      go_ret
      exact ⟨rfl, rfl⟩
end Go.Proofs.Ytagpkijgednmnaa
