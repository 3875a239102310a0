/-
  The contract of long. Condition: a number below 512.
-/
import Derived.Test.YtagpkijgednmnaaIdtF
import Derived.Laws.IdiomStrings
import Derived.IntWalk
namespace Go.Proofs.Ytagpkijgednmnaa
open Go.RowKit Go.Maps
set_option linter.unusedVariables false

def longB (k : Nat) : ByteArray := ⟨#[110, UInt8.ofNat (48 + k / 100 % 10), UInt8.ofNat (48 + k / 10 % 10), UInt8.ofNat (48 + k % 10)]⟩
theorem conv_any (w : World) (x y z : Nat) (hx : x < 256) (hy : y < 256) (hz : z < 256) :
    (convert 49 9 (.slice (some ⟨w.heap.size, 0, none⟩) 3 3)).run Try.prog (w.alloc (.cells #[.int .u8 (x : Int), .int .u8 (y : Int), .int .u8 (z : Int)] 5)) =
      .ok (.string ⟨#[UInt8.ofNat x, UInt8.ofNat y, UInt8.ofNat z]⟩) (w.alloc (.cells #[.int .u8 (x : Int), .int .u8 (y : Int), .int .u8 (z : Int)] 5)) := by
  have := run_convert_bytes_back (P := Try.prog) (w.alloc (.cells #[.int .u8 (x : Int), .int .u8 (y : Int), .int .u8 (z : Int)] 5)) 49 9 5 ⟨w.heap.size, 0, none⟩ 3 [UInt8.ofNat x, UInt8.ofNat y, UInt8.ofNat z]
    Try.underlying49 Try.underlying5 Try.underlying9 (fun j hj => by
      rw [Addr.add_lit, World.cell?_alloc_new]
      match j, hj with
      | 0, _ => simp; omega
      | 1, _ => simp; omega
      | 2, _ => simp; omega)
  exact this
set_option maxRecDepth 100000 in
set_option maxHeartbeats 2000000 in
theorem long_any (k : Nat) (w : World) (hk : k < 512) : Calls Try.prog 22 #[.int .i64 (k : Int)] w fun e w' => e = .returned (.string (longB k)) ∧ Below w.heap.size w w' := by
  have hconv := conv_any w (48 + k / 100 % 10) (48 + k / 10 % 10) (48 + k % 10) (by omega) (by omega) (by omega)
  rw [show ((48 + k / 100 % 10 : Nat) : Int) = 48 + (k : Int) / 100 % 10 by omega, show ((48 + k / 10 % 10 : Nat) : Int) = 48 + (k : Int) / 10 % 10 by omega, show ((48 + k % 10 : Nat) : Int) = 48 + (k : Int) % 10 by omega] at hconv
  obtain ⟨T, hT⟩ : ∃ T, (⟨#[UInt8.ofNat (48 + k / 100 % 10), UInt8.ofNat (48 + k / 10 % 10), UInt8.ofNat (48 + k % 10)]⟩ : ByteArray) = T := ⟨_, rfl⟩
  have hT3 : T.size = 3 := by rw [← hT]; rfl
  have hL : Hid (longB k = ⟨#[110]⟩ ++ T) := Lib.hid (by rw [← hT]; rfl)
  rw [hT] at hconv
  clear hT
  go_enter Try.func22, Try.ntmps22
  go_wp2_with fail
  go_ret
  exact ⟨by rw [hL.out]; rfl, (Below.refl _ _).alloc (Nat.le_refl _) _⟩
theorem longB_size (k : Nat) : (longB k).size = 4 := rfl
theorem longB_ok : ∀ k, k < 512 → Vd (longB k) = true := by
  have : ((List.range 512).all fun k => Vd (longB k)) = true := by decide +kernel
  intro k hk
  exact List.all_eq_true.1 this k (List.mem_range.2 hk)
def longD (s : ByteArray) : Nat := (bt s 1 - 48) * 100 + (bt s 2 - 48) * 10 + (bt s 3 - 48)
theorem longD_ok : ∀ k, k < 512 → longD (longB k) = k := by
  have : ((List.range 512).all fun k => decide (longD (longB k) = k)) = true := by decide +kernel
  intro k hk
  exact of_decide_eq_true (List.all_eq_true.1 this k (List.mem_range.2 hk))
theorem longB_inj {j k : Nat} (hj : j < 512) (hk : k < 512) (h : longB j = longB k) : j = k := by
  have := congrArg longD h
  rwa [longD_ok j hj, longD_ok k hk] at this
/-- The first n. -/
def longs (n : Nat) : List ByteArray := (List.range n).map longB
theorem longs_length (n : Nat) : (longs n).length = n := by simp [longs]
theorem longs_succ (n : Nat) : longs (n + 1) = longs n ++ [longB n] := by simp [longs, List.range_succ]
theorem longs_mem {n : Nat} {s : ByteArray} : s ∈ longs n ↔ ∃ j, j < n ∧ longB j = s := by simp [longs]
theorem longs_add (n : Nat) (hn : n < 512) : addE (longs n) (longB n) = 0 := by
  refine addE_ok (longB_ok n hn) (fun h => ?_) (by rw [longs_length]; omega)
  obtain ⟨j, hj, e⟩ := longs_mem.1 h
  have := longB_inj (by omega) hn e
  omega
theorem longs_plc (k : Nat) (hk : k < 512) : longB k ∈ longs 512 ∧ plc (longs 512) (longB k) = k := by
  have hm : longB k ∈ longs 512 := longs_mem.2 ⟨k, hk, rfl⟩
  refine ⟨hm, ?_⟩
  have hlt := plc_lt hm
  rw [longs_length] at hlt
  have hg : (longs 512).getD (plc (longs 512) (longB k)) ByteArray.empty = longB k := by
    rw [plc_in hm]
    have h2 := List.idxOf_lt_length_iff.2 hm
    simp [h2]
  have hg2 : (longs 512).getD (plc (longs 512) (longB k)) ByteArray.empty = longB (plc (longs 512) (longB k)) := by
    generalize plc (longs 512) (longB k) = p at hlt
    simp [longs, hlt]
  rw [hg2] at hg
  exact longB_inj hlt hk hg
end Go.Proofs.Ytagpkijgednmnaa
