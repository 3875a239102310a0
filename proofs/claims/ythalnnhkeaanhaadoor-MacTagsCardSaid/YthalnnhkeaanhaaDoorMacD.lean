/-
  The contracts of newState and word. Condition: numbers below 2^64; newState: the variable start holds what the program's text lays.
-/
import Derived.Test.YthalnnhkeaanhaaDoorMacC
namespace Go.Proofs.YthalnnhkeaanhaaDoor
open Go.RowKit Go.Maps
set_option linter.unusedVariables false

/-- The variable start holds what the program's text lays. -/
structure Facts (w : World) : Prop where
  c0 : w.cell? ⟨0, 0, none⟩ = some (.int .u64 8317987319222330741)
  c1 : w.cell? ⟨0, 1, none⟩ = some (.int .u64 7237128888997146477)
  c2 : w.cell? ⟨0, 2, none⟩ = some (.int .u64 7816392313619706465)
  c3 : w.cell? ⟨0, 3, none⟩ = some (.int .u64 8387220255154660723)
theorem Facts.lt {w : World} (f : Facts w) : 0 < w.heap.size := World.block_lt_of_cell? _ _ f.c0
theorem Facts.below {w w' : World} (f : Facts w) {B : Nat} (h : Below B w w') (hB : 0 < B) : Facts w' :=
  ⟨(h.cell (p := ⟨0, 0, none⟩) hB).trans f.c0, (h.cell (p := ⟨0, 1, none⟩) hB).trans f.c1, (h.cell (p := ⟨0, 2, none⟩) hB).trans f.c2, (h.cell (p := ⟨0, 3, none⟩) hB).trans f.c3⟩
theorem Facts.step {w w' : World} (f : Facts w) (h : Below w.heap.size w w') : Facts w' := f.below h f.lt
theorem four_start (A B : Nat) : four (startS A B) = #[.int .u64 ((A ^^^ 8317987319222330741 : Nat) : Int), .int .u64 ((B ^^^ 7237128888997146477 : Nat) : Int), .int .u64 ((A ^^^ 7816392313619706465 : Nat) : Int), .int .u64 ((B ^^^ 8387220255154660723 : Nat) : Int)] := rfl

set_option maxRecDepth 100000 in
set_option maxHeartbeats 1000000 in
theorem newState_any (A B : Nat) (w : World) (f : Facts w) (ha : A < 18446744073709551616) (hb : B < 18446744073709551616) :
    Calls Tryd.prog 20 #[.agg #[.int .u64 (A : Int), .int .u64 (B : Int)]] w fun e w' => e = .returned (.agg (four (startS A B))) ∧ Below w.heap.size w w' := by
  have c0 := f.c0
  have c1 := f.c1
  have c2 := f.c2
  have c3 := f.c3
  have hlt := f.lt
  have x0 := u64_xor_nat A 8317987319222330741 ha (by decide)
  have x1 := u64_xor_nat B 7237128888997146477 hb (by decide)
  have x2 := u64_xor_nat A 7816392313619706465 ha (by decide)
  have x3 := u64_xor_nat B 8387220255154660723 hb (by decide)
  have HF := Lib.hid (four_start A B)
  generalize A ^^^ 8317987319222330741 = y0 at x0 HF
  generalize B ^^^ 7237128888997146477 = y1 at x1 HF
  generalize A ^^^ 7816392313619706465 = y2 at x2 HF
  generalize B ^^^ 8387220255154660723 = y3 at x3 HF
  have x0 : bits .xor .u64 (A : Int) 8317987319222330741 = (y0 : Int) := x0
  have x1 : bits .xor .u64 (B : Int) 7237128888997146477 = (y1 : Int) := x1
  have x2 : bits .xor .u64 (A : Int) 7816392313619706465 = (y2 : Int) := x2
  have x3 : bits .xor .u64 (B : Int) 8387220255154660723 = (y3 : Int) := x3
  clear f
  go_enter Tryd.func20, Tryd.ntmps20
  go_wp2_with fail
  rw [HF.out]
  have hB : Below w.heap.size w ((w.alloc (.cells #[.int .u64 (A : Int), .int .u64 (B : Int)] 24)).alloc (.cells #[.int .u64 (y0 : Int), .int .u64 (y1 : Int), .int .u64 (y2 : Int), .int .u64 (y3 : Int)] 42)) := ((Below.refl _ _).alloc (Nat.le_refl _) _).alloc (by simp) _
  first
    | (go_ret; exact ⟨rfl, hB⟩)
    | exact bodyPost_ret (v := .agg #[.int .u64 (y0 : Int), .int .u64 (y1 : Int), .int .u64 (y2 : Int), .int .u64 (y3 : Int)]) (by simp [results, Tryd.results20, go_sem]) rfl ⟨rfl, hB⟩

theorem or_word {f : Nat → Nat} {k : Nat} (hk : k < 8) (hf : ∀ k, f k < 256) : bits .or .u64 (wd f k : Int) (IntKind.u64.wrap ((f k : Int) * 2 ^ (8 * k))) = ((wd f (k + 1) : Nat) : Int) := by
  have h1 := byte_lt (hf k) hk
  have e2 : IntKind.u64.wrap ((f k : Int) * 2 ^ (8 * k)) = ((f k * 2 ^ (8 * k) : Nat) : Int) := by
    rw [IntKind.wrap_u64]
    have e1 : (f k : Int) * 2 ^ (8 * k) = ((f k * 2 ^ (8 * k) : Nat) : Int) := by
      push_cast
      rfl
    rw [e1]
    generalize f k * 2 ^ (8 * k) = q at h1
    omega
  rw [e2, u64_or_nat _ _ (wd_lt hf k (by omega)) h1]
  rfl
/-- Eight bytes, as an array. -/
def arr (f : Nat → Nat) : Array Value := #[.int .u8 (f 0 : Int), .int .u8 (f 1 : Int), .int .u8 (f 2 : Int), .int .u8 (f 3 : Int), .int .u8 (f 4 : Int), .int .u8 (f 5 : Int), .int .u8 (f 6 : Int), .int .u8 (f 7 : Int)]
theorem arr_at (f : Nat → Nat) {k : Nat} (hk : k < 8) : (arr f)[k]? = some (.int .u8 (f k : Int)) := by
  rcases (by omega : k = 0 ∨ k = 1 ∨ k = 2 ∨ k = 3 ∨ k = 4 ∨ k = 5 ∨ k = 6 ∨ k = 7) with rfl | rfl | rfl | rfl | rfl | rfl | rfl | rfl <;> rfl
theorem idx8 (cs : Array Value) (k : Nat) (hk : k < 8) (v : Int) (h : cs[k]? = some (.int .u8 v)) (w : World) : (Instr.index 46 (.agg cs) (.int .i64 (k : Int))).run Tryd.prog w = .ok (.int .u8 v) w := by
  have hn : (0 : Int) ≤ (k : Int) ∧ (k : Int) < 8 := by omega
  have hs : (Go.sizeOf 5).run Tryd.prog w = .ok 1 w := Tryd.sizeOf5 w
  simp [Instr.index, run_underlying Tryd.underlying46, asIntOf, hn, hs, part, h]
  intro h4
  omega

set_option maxRecDepth 100000 in
set_option maxHeartbeats 1000000 in
theorem word_any (f : Nat → Nat) (w : World) (hf : ∀ k, f k < 256) :
    Calls Tryd.prog 22 #[.agg (arr f)] w fun e w' => e = .returned (.int .u64 (wd f 8 : Int)) ∧ Below w.heap.size w w' := by
  have HI := Lib.hid (fun k hk => idx8 (arr f) k hk (f k : Int) (arr_at f hk))
  have HO := Lib.hid (fun k hk => or_word (f := f) (k := k) hk hf)
  have HB := Lib.hid (fun n => wd_lt hf n)
  have HL := Lib.hid hf
  have HA : Hid (arr f = #[.int .u8 (f 0 : Int), .int .u8 (f 1 : Int), .int .u8 (f 2 : Int), .int .u8 (f 3 : Int), .int .u8 (f 4 : Int), .int .u8 (f 5 : Int), .int .u8 (f 6 : Int), .int .u8 (f 7 : Int)]) := Lib.hid rfl
  rw [HA.out]
  rw [HA.out] at HI
  clear HA hf
  go_enter Tryd.func22, Tryd.ntmps22
  go_wp2_with fail
  have hB0 : Below w.heap.size w (w.alloc (.cells #[.int .u8 (f 0 : Int), .int .u8 (f 1 : Int), .int .u8 (f 2 : Int), .int .u8 (f 3 : Int), .int .u8 (f 4 : Int), .int .u8 (f 5 : Int), .int .u8 (f 6 : Int), .int .u8 (f 7 : Int)] 46)) := (Below.refl _ _).alloc (Nat.le_refl _) _
  generalize w.alloc (.cells #[.int .u8 (f 0 : Int), .int .u8 (f 1 : Int), .int .u8 (f 2 : Int), .int .u8 (f 3 : Int), .int .u8 (f 4 : Int), .int .u8 (f 5 : Int), .int .u8 (f 6 : Int), .int .u8 (f 7 : Int)] 46) = w1 at hB0 ⊢
  go_loop [3, 7] (fun n i => ∃ k : Nat, k ≤ 8 ∧ i = .int .i64 (k : Int) ∧ n = .int .u64 (wd f k : Int)) (fun _ i => 8 - (intOf i).toNat)
  case atStart => exact ⟨0, by omega, rfl, rfl⟩
  case round =>
    obtain ⟨k, hk, rfl, rfl⟩ := hrel
    by_cases hlt : k < 8
    · have hltz : (k : Int) < 8 := by omega
      have hI := HI.out k hlt
      have hO := HO.out k hlt
      have hN : (wd f k : Int) ≤ 18446744073709551615 := by have := HB.out k hk; omega
      have hF : (f k : Int) ≤ 255 := by have := HL.out k; omega
      obtain ⟨n2, hn2⟩ : ∃ n, wd f (k + 1) = n := ⟨_, rfl⟩
      rw [hn2] at hO
      have HN2 := Lib.hid hn2
      clear hn2
      generalize wd f k = n1 at hO hN ⊢
      generalize f k = x at hI hO hF ⊢
      go_wp2_with fail
      go_round
      case rel => exact ⟨k + 1, by omega, by go_num, by rw [HN2.out]⟩
      case measure => simp only [intOf]; omega
    · obtain rfl : k = 8 := by omega
      go_wp2_with fail
      go_ret
      exact ⟨rfl, hB0⟩
end Go.Proofs.YthalnnhkeaanhaaDoor
