/-
  The contract of counting, and the chapter's examples as plain facts. Condition: at most a hundred bytes.
-/
import Derived.Test.YthalnnhkeaanhaaDoorMacP
namespace Go.Proofs.YthalnnhkeaanhaaDoor
open Go.RowKit Go.Maps
set_option linter.unusedVariables false

def cnt (n : Nat) : List UInt8 := (List.range n).map UInt8.ofNat
theorem cnt_len (n : Nat) : (cnt n).length = n := by unfold cnt; rw [List.length_map, List.length_range]
theorem cnt_succ (n : Nat) : cnt (n + 1) = cnt n ++ [UInt8.ofNat n] := by
  unfold cnt
  rw [List.range_succ, List.map_append]
  rfl

set_option maxRecDepth 100000 in
set_option maxHeartbeats 1000000 in
theorem counting_any (n : Nat) (w : World) (hn : n ≤ 100) :
    Calls Tryd.prog 19 #[.int .i64 (n : Int)] w fun e w' => ∃ v', e = .returned v' ∧ Hid (OwnB w' w.heap.size v' (cnt n)) ∧ Below w.heap.size w w' := by
  go_enter Tryd.func19, Tryd.ntmps19
  go_wp2_with fail
  go_loopw [3, 4] (fun v i wr => ∃ (k : Nat), k ≤ n ∧ i = .int .i64 (k : Int) ∧ Hid (OwnB wr w.heap.size v (cnt k)) ∧ Below w.heap.size w wr) (fun _ i _ => n - (intOf i).toNat)
  case atStart => exact ⟨0, by omega, rfl, Lib.hid (OwnB.nil w _), Below.refl _ _⟩
  case round =>
    obtain ⟨k, hk, rfl, hO, hB⟩ := hrel
    have hsz := hB.size
    by_cases hlt : k < n
    · have hltz : (k : Int) < (n : Int) := by omega
      have HB := Lib.hid (low_byte k (by omega))
      have HS := Lib.hid (cnt_succ k)
      have HLEN : Hid ((cnt k).length ≤ 100000) := Lib.hid (by rw [cnt_len]; omega)
      obtain ⟨t, ht⟩ : ∃ t, UInt8.ofNat k = t := ⟨_, rfl⟩
      rw [ht] at HB HS
      clear ht
      go_wp2_with (at_builtin; refine wpList_append_byte rfl _ _ rfl w.heap.size _ (cnt k) rfl (Or.inl (hO.out.alloc _)) _ _ t rfl ?y0 HLEN.out ?y2 ?_)
      case y0 => first | exact HB.out | (rw [World.cell?_alloc_new, HB.out]; rfl) | (rw [← HB.out]; rfl)
      case y2 => first | omega | (simp; omega)
      intro v3 w3 hO3 hB3
      have hB4 : Below w.heap.size w w3 := (hB.alloc (by omega) _).trans hB3
      have HO4 : Hid (OwnB w3 w.heap.size v3 (cnt (k + 1))) := Lib.hid (by rw [HS.out]; exact hO3.out)
      clear hB3 hB hO hO3
      go_wp2_with fail
      go_roundw
      case rel => exact ⟨k + 1, by omega, by go_num, HO4, hB4⟩
      case measure => simp only [intOf]; omega
    · obtain rfl : k = n := by omega
      have hnlt : ¬ (k : Int) < (k : Int) := by omega
      go_wp2_with fail
      go_ret
      exact ⟨_, rfl, hO, hB⟩

theorem ex_sum0 : sumS 506097522914230528 1084818905618843912 [] = 8246050544436514353 := by decide +kernel
theorem ex_sum15 : sumS 506097522914230528 1084818905618843912 (cnt 15) = 11613035633349379557 := by decide +kernel
theorem leb0 (u : Nat) (h : u < 128) : leb u = [UInt8.ofNat u] := leb_small h
theorem ex_enc1 : encL [1, -1] = [4, 2, 1] := by
  unfold encL encs encs encs enc
  rw [show zz (([1, -1] : List Int).length : Int) = 4 from rfl, show zz 1 = 2 from rfl, show zz (-1) = 1 from rfl, leb_small (by decide), leb_small (by decide), leb_small (by decide)]
  rfl
theorem ex_enc0 : encL [] = [0] := by
  unfold encL encs enc
  rw [show zz (([] : List Int).length : Int) = 0 from rfl, leb_small (by decide)]
  rfl
theorem ex_tag1 (A B : Nat) : tagS A B [1, -1] = sumS A B [4, 2, 1] := by unfold tagS; rw [ex_enc1]
theorem ex_tag0 (A B : Nat) : tagS A B [] = sumS A B [0] := by unfold tagS; rw [ex_enc0]
end Go.Proofs.YthalnnhkeaanhaaDoor
