/-
  The contract of awake: the chapter's examples. Condition: the variable start holds what the program's text lays.
-/
import Derived.Test.YthalnnhkeaanhaaDoorMacQ
namespace Go.Proofs.YthalnnhkeaanhaaDoor
open Go.RowKit Go.Maps
set_option linter.unusedVariables false
set_option linter.unusedSimpArgs false

theorem one_byte {w : World} {b : Nat} {x : UInt8} (h0 : w.cell? ⟨b, 0, none⟩ = some (.int .u8 (x.toNat : Int))) : BytR w (some ⟨b, 0, none⟩) [x] := fun _ => ⟨b, 0, rfl, World.block_lt_of_cell? _ _ h0, fun k v hk => by
  match k, hk with
  | 0, hk => simp at hk; subst hk; exact h0⟩
theorem three_bytes {w : World} {b : Nat} {x y z : UInt8} (h0 : w.cell? ⟨b, 0, none⟩ = some (.int .u8 (x.toNat : Int))) (h1 : w.cell? ⟨b, 1, none⟩ = some (.int .u8 (y.toNat : Int))) (h2 : w.cell? ⟨b, 2, none⟩ = some (.int .u8 (z.toNat : Int))) : BytR w (some ⟨b, 0, none⟩) [x, y, z] := fun _ => ⟨b, 0, rfl, World.block_lt_of_cell? _ _ h0, fun k v hk => by
  match k, hk with
  | 0, hk => simp at hk; subst hk; exact h0
  | 1, hk => simp at hk; subst hk; exact h1
  | 2, hk => simp at hk; subst hk; exact h2⟩
theorem run_field1 (w : World) (a b : Nat) : (Instr.field 24 (.agg #[.int .u64 (a : Int), .int .u64 (b : Int)]) 1).run Tryd.prog w = .ok (.int .u64 (b : Int)) w := by
  have hp : (part 22 #[.int .u64 (a : Int), .int .u64 (b : Int)] 1).run Tryd.prog w = .ok (.int .u64 (b : Int)) w := run_part_plain w (by kernel_rfl) rfl
  simp [Instr.field, run_underlying Tryd.underlying24, asAgg, hp]
def kA : Nat := 506097522914230528
def kB : Nat := 1084818905618843912
theorem kA_lt : kA < 18446744073709551616 := by decide
theorem kB_lt : kB < 18446744073709551616 := by decide

section
variable {W : World} (f : Facts W)
include f
theorem aw_sum (w' : World) (A : Option Addr) (l : List UInt8) (m c : Nat) (hm : l.length = m) (hl : m ≤ 1000) (hc : m ≤ c) (h : BytR w' A l) (hb : Below W.heap.size W w') :
    Calls Tryd.prog 10 #[.agg #[.int .u64 506097522914230528, .int .u64 1084818905618843912], .slice A m c] w' fun e w'' => e = .returned (.int .u64 (sumS kA kB l : Int)) ∧ Below W.heap.size W w'' ∧ Below w'.heap.size w' w'' :=
  (sum_any kA kB A l m c w' (f.step hb) kA_lt kB_lt hm (by omega) hc h).mono fun e w'' ⟨he, hb2⟩ => ⟨he, Below.step hb hb2, hb2⟩
theorem aw_tag (w' : World) (B : Option Addr) (L : List Int) (n d : Nat) (hn : L.length = n) (hl : n ≤ 10) (hw : WideI L) (h : IntR w' B L) (hb : Below W.heap.size W w') :
    Calls Tryd.prog 12 #[.agg #[.int .u64 506097522914230528, .int .u64 1084818905618843912], .slice B n d] w' fun e w'' => e = .returned (.int .u64 (tagS kA kB L : Int)) ∧ Below W.heap.size W w'' ∧ Below w'.heap.size w' w'' :=
  (tag_any kA kB B L n d w' (f.step hb) kA_lt kB_lt hn (by omega) hw h).mono fun e w'' ⟨he, hb2⟩ => ⟨he, Below.step hb hb2, hb2⟩
theorem aw_derive (w' : World) (n : Int) (lo : -9223372036854775808 ≤ n) (hi : n ≤ 9223372036854775807) (hb : Below W.heap.size W w') :
    Calls Tryd.prog 14 #[.agg #[.int .u64 506097522914230528, .int .u64 1084818905618843912], .int .i64 n] w' fun e w'' => e = .returned (.agg #[.int .u64 (tagS kA kB [n, 0] : Int), .int .u64 (tagS kA kB [n, 1] : Int)]) ∧ Below W.heap.size W w'' ∧ Below w'.heap.size w' w'' :=
  (derive_any kA kB n w' (f.step hb) kA_lt kB_lt lo hi).mono fun e w'' ⟨he, hb2⟩ => ⟨he, Below.step hb hb2, hb2⟩
end
theorem aw_counting (W w' : World) (hb : Below W.heap.size W w') : Calls Tryd.prog 19 #[.int .i64 15] w' fun e w'' => ∃ A c, e = .returned (.slice A 15 c) ∧ 15 ≤ c ∧ Hid (BytR w'' A (cnt 15)) ∧ Below W.heap.size W w'' ∧ Below w'.heap.size w' w'' := by
  refine (counting_any 15 w' (by decide)).mono ?_
  rintro e w'' ⟨v, rfl, hO, hb2⟩
  obtain ⟨A, c, rfl, hc, hr⟩ := hO.out.form
  rw [cnt_len] at hc ⊢
  exact ⟨A, c, rfl, hc, hr, Below.step hb hb2, hb2⟩

attribute [local irreducible] Calls
set_option maxRecDepth 100000 in
set_option maxHeartbeats 16000000 in
theorem awake_any (w : World) (f : Facts w) : Calls Tryd.prog 9 #[] w fun e w' => e = .returned (.bool true) ∧ Below w.heap.size w w' := by
  have HK0 : Hid (∀ W w', KeyR W w.heap.size kA kB → w.heap.size < W.heap.size → Below W.heap.size W w' → w'.cell? ⟨w.heap.size, 0, none⟩ = some (.int .u64 506097522914230528) ∧ w'.cell? ⟨w.heap.size, 1, none⟩ = some (.int .u64 1084818905618843912)) := Lib.hid (fun W w' hk hlt hb => ⟨(hk.below hb hlt).c0, (hk.below hb hlt).c1⟩)
  have F0 := Lib.hid f
  clear f
  go_enter Tryd.func9, Tryd.ntmps9
  go_wp2_with fail
  have hB0 : Below w.heap.size w (w.alloc (.cells #[.int .u64 506097522914230528, .int .u64 1084818905618843912] 24)) := (Below.refl _ _).alloc (Nat.le_refl _) _
  have FW := Lib.hid (F0.out.step hB0)
  have HKR : Hid (KeyR (w.alloc (.cells #[.int .u64 506097522914230528, .int .u64 1084818905618843912] 24)) w.heap.size kA kB) := Lib.hid (heap_alloc_new w _)
  have HLT : Hid (w.heap.size < (w.alloc (.cells #[.int .u64 506097522914230528, .int .u64 1084818905618843912] 24)).heap.size) := Lib.hid (by simp)
  generalize w.alloc (.cells #[.int .u64 506097522914230528, .int .u64 1084818905618843912] 24) = W at hB0 FW HKR HLT ⊢
  have HK := Lib.hid (fun w' hb => HK0.out W w' HKR.out HLT.out hb)
  have HC := Lib.hid (fun w' hb => aw_counting W w' hb)
  have HS15 := Lib.hid (fun w' A c hc h hb => aw_sum FW.out w' A (cnt 15) 15 c (cnt_len 15) (by decide) hc h hb)
  have HS0 := Lib.hid (fun w' hb => aw_sum FW.out w' none [] 0 0 rfl (by decide) (Nat.le_refl _) (VsR.nil _ _) hb)
  have HS3 := Lib.hid (fun w' b h0 h1 h2 hb => aw_sum FW.out w' (some ⟨b, 0, none⟩) [4, 2, 1] 3 3 rfl (by decide) (Nat.le_refl _) (three_bytes h0 h1 h2) hb)
  have HS1 := Lib.hid (fun w' b h0 hb => aw_sum FW.out w' (some ⟨b, 0, none⟩) [0] 1 1 rfl (by decide) (Nat.le_refl _) (one_byte h0) hb)
  have HT1 := Lib.hid (fun w' b h0 h1 hb => aw_tag FW.out w' (some ⟨b, 0, none⟩) [1, -1] 2 2 rfl (by decide) (wide_two (by decide) (by decide) (by decide) (by decide)) (two_ints h0 h1) hb)
  have HT0 := Lib.hid (fun w' hb => aw_tag FW.out w' none [] 0 0 rfl (by decide) (fun k hk => absurd hk (Nat.not_lt_zero k)) (VsR.nil _ _) hb)
  have HT3 := Lib.hid (fun w' b h0 h1 hb => aw_tag FW.out w' (some ⟨b, 0, none⟩) [3, 1] 2 2 rfl (by decide) (wide_two (by decide) (by decide) (by decide) (by decide)) (two_ints h0 h1) hb)
  have HD := Lib.hid (fun w' hb => aw_derive FW.out w' 3 (by decide) (by decide) hb)
  rw [ex_tag1] at HT1
  rw [ex_tag0] at HT0
  rw [show sumS kA kB (cnt 15) = 11613035633349379557 from ex_sum15] at HS15
  rw [show sumS kA kB [] = 8246050544436514353 from ex_sum0] at HS0
  generalize sumS kA kB [4, 2, 1] = x3 at HS3 HT1
  generalize sumS kA kB [0] = x1 at HS1 HT0
  generalize tagS kA kB [3, 1] = x5 at HT3 HD
  generalize tagS kA kB [3, 0] = x4 at HD
  have hfield : ∀ w' : World, (Instr.field 24 (.agg #[.int .u64 (x4 : Int), .int .u64 (x5 : Int)]) 1).run Tryd.prog w' = .ok (.int .u64 (x5 : Int)) w' := fun w' => run_field1 w' x4 x5
  clear HK0 HKR HLT F0
  have hBR := Below.refl W.heap.size W
  go_region_held3 (fun w' => w'.cell? ⟨w.heap.size, 0, none⟩ = some (.int .u64 506097522914230528) ∧ w'.cell? ⟨w.heap.size, 1, none⟩ = some (.int .u64 1084818905618843912))
    (first | exact HK.out _ (by first | exact hb3 | exact hb3.alloc hb3.size _ | exact (hb3.alloc hb3.size _).alloc (hb3.alloc hb3.size _).size _ | exact hBR.drew | exact hBR | exact (hBR.alloc (Nat.le_refl _) _).drew | fail) | go_keep)
    (first | (go_at_call 19; refine (HC.out _ (by first | exact hb3 | exact hb3.alloc hb3.size _ | exact (hb3.alloc hb3.size _).alloc (hb3.alloc hb3.size _).size _ | exact hBR.drew | exact hBR | exact (hBR.alloc (Nat.le_refl _) _).drew | fail)).mono ?_; rintro e w3 ⟨A3, c3, rfl, hc3, hR3, hb3, hl3⟩; obtain ⟨k0, k1⟩ := HK.out w3 hb3) | (go_at_call 10; refine (HS15.out _ _ _ hc3 hR3.out (by first | exact hb3 | exact hb3.alloc hb3.size _ | exact (hb3.alloc hb3.size _).alloc (hb3.alloc hb3.size _).size _ | exact hBR.drew | exact hBR | exact (hBR.alloc (Nat.le_refl _) _).drew | fail)).mono ?_; rintro e w3 ⟨rfl, hb3, hl3⟩; obtain ⟨k0, k1⟩ := HK.out w3 hb3) | (go_at_call 10; refine (HS0.out _ (by first | exact hb3 | exact hb3.alloc hb3.size _ | exact (hb3.alloc hb3.size _).alloc (hb3.alloc hb3.size _).size _ | exact hBR.drew | exact hBR | exact (hBR.alloc (Nat.le_refl _) _).drew | fail)).mono ?_; rintro e w3 ⟨rfl, hb3, hl3⟩; obtain ⟨k0, k1⟩ := HK.out w3 hb3) | (go_at_call 10; refine (HS3.out _ _ (by first | (go_simp; done) | (rw [hl3.cell (by first | (simp; done) | (simp; omega))]; go_simp; done) | fail) (by first | (go_simp; done) | (rw [hl3.cell (by first | (simp; done) | (simp; omega))]; go_simp; done) | fail) (by first | (go_simp; done) | (rw [hl3.cell (by first | (simp; done) | (simp; omega))]; go_simp; done) | fail) (by first | exact hb3 | exact hb3.alloc hb3.size _ | exact (hb3.alloc hb3.size _).alloc (hb3.alloc hb3.size _).size _ | exact hBR.drew | exact hBR | exact (hBR.alloc (Nat.le_refl _) _).drew | fail)).mono ?_; rintro e w3 ⟨rfl, hb3, hl3⟩; obtain ⟨k0, k1⟩ := HK.out w3 hb3) | (go_at_call 10; refine (HS1.out _ _ (by first | (go_simp; done) | (rw [hl3.cell (by first | (simp; done) | (simp; omega))]; go_simp; done) | fail) (by first | exact hb3 | exact hb3.alloc hb3.size _ | exact (hb3.alloc hb3.size _).alloc (hb3.alloc hb3.size _).size _ | exact hBR.drew | exact hBR | exact (hBR.alloc (Nat.le_refl _) _).drew | fail)).mono ?_; rintro e w3 ⟨rfl, hb3, hl3⟩; obtain ⟨k0, k1⟩ := HK.out w3 hb3) | (go_at_call 12; refine (HT1.out _ _ (by first | (go_simp; done) | (rw [hl3.cell (by first | (simp; done) | (simp; omega))]; go_simp; done) | fail) (by first | (go_simp; done) | (rw [hl3.cell (by first | (simp; done) | (simp; omega))]; go_simp; done) | fail) (by first | exact hb3 | exact hb3.alloc hb3.size _ | exact (hb3.alloc hb3.size _).alloc (hb3.alloc hb3.size _).size _ | exact hBR.drew | exact hBR | exact (hBR.alloc (Nat.le_refl _) _).drew | fail)).mono ?_; rintro e w3 ⟨rfl, hb3, hl3⟩; obtain ⟨k0, k1⟩ := HK.out w3 hb3) | (go_at_call 12; refine (HT0.out _ (by first | exact hb3 | exact hb3.alloc hb3.size _ | exact (hb3.alloc hb3.size _).alloc (hb3.alloc hb3.size _).size _ | exact hBR.drew | exact hBR | exact (hBR.alloc (Nat.le_refl _) _).drew | fail)).mono ?_; rintro e w3 ⟨rfl, hb3, hl3⟩; obtain ⟨k0, k1⟩ := HK.out w3 hb3) | (go_at_call 14; refine (HD.out _ (by first | exact hb3 | exact hb3.alloc hb3.size _ | exact (hb3.alloc hb3.size _).alloc (hb3.alloc hb3.size _).size _ | exact hBR.drew | exact hBR | exact (hBR.alloc (Nat.le_refl _) _).drew | fail)).mono ?_; rintro e w3 ⟨rfl, hb3, hl3⟩; obtain ⟨k0, k1⟩ := HK.out w3 hb3) | (go_at_call 12; refine (HT3.out _ _ (by first | (go_simp; done) | (rw [hl3.cell (by first | (simp; done) | (simp; omega))]; go_simp; done) | fail) (by first | (go_simp; done) | (rw [hl3.cell (by first | (simp; done) | (simp; omega))]; go_simp; done) | fail) (by first | exact hb3 | exact hb3.alloc hb3.size _ | exact (hb3.alloc hb3.size _).alloc (hb3.alloc hb3.size _).size _ | exact hBR.drew | exact hBR | exact (hBR.alloc (Nat.le_refl _) _).drew | fail)).mono ?_; rintro e w3 ⟨rfl, hb3, hl3⟩; obtain ⟨k0, k1⟩ := HK.out w3 hb3) | fail)
  all_goals
    go_wp2_with fail
    go_ret
    exact ⟨rfl, Below.step hB0 hb3⟩
end Go.Proofs.YthalnnhkeaanhaaDoor
