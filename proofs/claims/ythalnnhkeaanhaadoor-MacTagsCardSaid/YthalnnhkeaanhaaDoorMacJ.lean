/-
  The contracts of Tag, of the package and of its specification. Condition: at most two thousand integers.
-/
import Derived.Test.YthalnnhkeaanhaaDoorMacI
import Derived.Deep.RegionHeld3
namespace Go.Proofs.YthalnnhkeaanhaaDoor
open Go.RowKit Go.Maps
set_option linter.unusedVariables false

/-- The encoding of a list of integers. -/
def encL (L : List Int) : List UInt8 := enc L.length ++ encs L
theorem encL_len {L : List Int} (hw : WideI L) (hl : L.length ≤ 2000) : (encL L).length ≤ 30000 := by
  have h1 := enc_ten (n := (L.length : Int)) (by omega) (by omega)
  have h2 := encs_len L fun x hx => hw.mem x hx
  unfold encL
  rw [List.length_append]
  omega
/-- What Tag returns. -/
def tagS (A B : Nat) (L : List Int) : Nat := sumS A B (encL L)
theorem tagS_lt {A B : Nat} (ha : A < 18446744073709551616) (hb : B < 18446744073709551616) (L : List Int) : tagS A B L < 18446744073709551616 := sumS_lt ha hb _
theorem key_cells {w w' : World} {A B : Nat} (h : Below (w.alloc (.cells #[.int .u64 (A : Int), .int .u64 (B : Int)] 24)).heap.size (w.alloc (.cells #[.int .u64 (A : Int), .int .u64 (B : Int)] 24)) w') :
    w'.cell? ⟨w.heap.size, 0, none⟩ = some (.int .u64 (A : Int)) ∧ w'.cell? ⟨w.heap.size, 1, none⟩ = some (.int .u64 (B : Int)) := by
  constructor
  · rw [h.cell (p := ⟨w.heap.size, 0, none⟩) (by simp), World.cell?_alloc_new]; rfl
  · rw [h.cell (p := ⟨w.heap.size, 1, none⟩) (by simp), World.cell?_alloc_new]; rfl

set_option maxRecDepth 100000 in
set_option maxHeartbeats 1000000 in
theorem tag_any (A0 B0 : Nat) (B : Option Addr) (L : List Int) (n d : Nat) (w : World) (f : Facts w) (ha : A0 < 18446744073709551616) (hb0 : B0 < 18446744073709551616) (hn : L.length = n) (hl : n ≤ 2000) (hw : WideI L) (h : IntR w B L) :
    Calls Tryd.prog 12 #[.agg #[.int .u64 (A0 : Int), .int .u64 (B0 : Int)], .slice B n d] w fun e w' => e = .returned (.int .u64 (tagS A0 B0 L : Int)) ∧ Below w.heap.size w w' := by
  have hEL := encL_len hw (by omega)
  have HP : Hid (∀ w0 w', Below w.heap.size w w0 → Below w0.heap.size w0 w' → Calls Tryd.prog 16 #[.slice none 0 0, .slice B n d] w' fun e w'' => ∃ A' c', e = .returned (.slice A' (encL L).length c') ∧ (encL L).length ≤ c' ∧ Hid (BytR w'' A' (encL L)) ∧ Below w0.heap.size w0 w'') := Lib.hid (fun w0 w' h0 hb =>
    (putInts_own none [] 0 0 B L n d w' rfl (by decide) (Nat.le_refl _) (VsR.nil _ _) hn (by omega) hw (h.below (Below.step h0 hb))).mono fun e w'' ⟨v', he, hO, hb2⟩ => by
      obtain ⟨A', c', hv, hc, hr⟩ := hO.out.form
      exact ⟨A', c', by rw [he, hv]; rfl, hc, Lib.hid hr, Below.step hb hb2⟩)
  have HS : Hid (∀ w0 w' A' c', Below w.heap.size w w0 → Below w0.heap.size w0 w' → (encL L).length ≤ c' → BytR w' A' (encL L) → Calls Tryd.prog 10 #[.agg #[.int .u64 (A0 : Int), .int .u64 (B0 : Int)], .slice A' (encL L).length c'] w' fun e w'' => e = .returned (.int .u64 (tagS A0 B0 L : Int)) ∧ Below w0.heap.size w0 w'') := Lib.hid (fun w0 w' A' c' h0 hb hc hr =>
    (sum_any A0 B0 A' (encL L) (encL L).length c' w' ((f.step h0).step hb) ha hb0 rfl (Nat.le_trans hEL (by decide)) hc hr).mono fun e w'' ⟨he, hb2⟩ => ⟨he, Below.step hb hb2⟩)
  generalize tagS A0 B0 L = T at HS ⊢
  generalize encL L = E at HP HS
  obtain ⟨N, hN⟩ : ∃ N, E.length = N := ⟨_, rfl⟩
  rw [hN] at HP HS
  have hB0 : Below w.heap.size w (w.alloc (.cells #[.int .u64 (A0 : Int), .int .u64 (B0 : Int)] 24)) := (Below.refl _ _).alloc (Nat.le_refl _) _
  have HK : Hid (∀ w', Below (w.alloc (.cells #[.int .u64 (A0 : Int), .int .u64 (B0 : Int)] 24)).heap.size (w.alloc (.cells #[.int .u64 (A0 : Int), .int .u64 (B0 : Int)] 24)) w' → w'.cell? ⟨w.heap.size, 0, none⟩ = some (.int .u64 (A0 : Int)) ∧ w'.cell? ⟨w.heap.size, 1, none⟩ = some (.int .u64 (B0 : Int)) ∧ Below (w.alloc (.cells #[.int .u64 (A0 : Int), .int .u64 (B0 : Int)] 24)).heap.size (w.alloc (.cells #[.int .u64 (A0 : Int), .int .u64 (B0 : Int)] 24)) w') := Lib.hid (fun w' hb => ⟨(key_cells hb).1, (key_cells hb).2, hb⟩)
  clear h hw hn hEL hN
  go_enter Tryd.func12, Tryd.ntmps12
  go_wp2_with fail
  generalize w.alloc (.cells #[.int .u64 (A0 : Int), .int .u64 (B0 : Int)] 24) = W at hB0 HK ⊢
  have HP := Lib.hid (fun w' => HP.out W w' hB0)
  have HS := Lib.hid (fun w' A' c' => HS.out W w' A' c' hB0)
  have hBW := Below.refl W.heap.size W
  go_region_held3 (fun w' => w'.cell? ⟨w.heap.size, 0, none⟩ = some (.int .u64 (A0 : Int)) ∧ w'.cell? ⟨w.heap.size, 1, none⟩ = some (.int .u64 (B0 : Int)) ∧ Below W.heap.size W w')
    (first | exact HK.out _ (by assumption) | exact HK.out _ (Below.drew (by assumption)) | exact HK.out _ hB3)
    (first | (go_at_call 16; refine (HP.out _ (by first | assumption | exact Below.drew (by assumption))).mono ?_; rintro e w3 ⟨A3, c3, rfl, hc3, hR3, hB3⟩) | (go_at_call 10; refine (HS.out _ _ _ (by first | assumption | exact Below.drew (by assumption)) hc3 hR3.out).mono ?_; rintro e w4 ⟨rfl, hB3⟩))
  all_goals
    go_wp2_with fail
    go_ret
    exact ⟨rfl, Below.step hB0 hB3⟩

set_option maxRecDepth 100000 in
set_option maxHeartbeats 1000000 in
theorem refTag_any (A0 B0 : Nat) (B : Option Addr) (L : List Int) (n d : Nat) (w : World) (ha : A0 < 18446744073709551616) (hb0 : B0 < 18446744073709551616) (hn : L.length = n) (hl : n ≤ 2000) (hw : WideI L) (h : IntR w B L) :
    Calls Tryd.prog 13 #[.agg #[.int .u64 (A0 : Int), .int .u64 (B0 : Int)], .slice B n d] w fun e w' => e = .returned (.int .u64 (tagS A0 B0 L : Int)) ∧ Below w.heap.size w w' := by
  have hEL := encL_len hw (by omega)
  have HP : Hid (∀ w0 w', Below w.heap.size w w0 → Below w0.heap.size w0 w' → Calls Tryd.prog 18 #[.slice none 0 0, .slice B n d] w' fun e w'' => ∃ A' c', e = .returned (.slice A' (encL L).length c') ∧ (encL L).length ≤ c' ∧ Hid (BytR w'' A' (encL L)) ∧ Below w0.heap.size w0 w'') := Lib.hid (fun w0 w' h0 hb =>
    (refPutInts_own none [] 0 0 B L n d w' rfl (by decide) (VsR.nil _ _) hn (by omega) hw (h.below (Below.step h0 hb))).mono fun e w'' ⟨v', he, hO, hb2⟩ => by
      obtain ⟨A', c', hv, hc, hr⟩ := hO.out.form
      exact ⟨A', c', by rw [he, hv]; rfl, hc, Lib.hid hr, Below.step hb hb2⟩)
  have HS : Hid (∀ w0 w' A' c', Below w.heap.size w w0 → Below w0.heap.size w0 w' → (encL L).length ≤ c' → BytR w' A' (encL L) → Calls Tryd.prog 11 #[.agg #[.int .u64 (A0 : Int), .int .u64 (B0 : Int)], .slice A' (encL L).length c'] w' fun e w'' => e = .returned (.int .u64 (tagS A0 B0 L : Int)) ∧ Below w0.heap.size w0 w'') := Lib.hid (fun w0 w' A' c' h0 hb hc hr =>
    (refSum_any A0 B0 A' (encL L) (encL L).length c' w' ha hb0 rfl (Nat.le_trans hEL (by decide)) hc hr).mono fun e w'' ⟨he, hb2⟩ => ⟨he, Below.step hb hb2⟩)
  generalize tagS A0 B0 L = T at HS ⊢
  generalize encL L = E at HP HS
  obtain ⟨N, hN⟩ : ∃ N, E.length = N := ⟨_, rfl⟩
  rw [hN] at HP HS
  have hB0 : Below w.heap.size w (w.alloc (.cells #[.int .u64 (A0 : Int), .int .u64 (B0 : Int)] 24)) := (Below.refl _ _).alloc (Nat.le_refl _) _
  have HK : Hid (∀ w', Below (w.alloc (.cells #[.int .u64 (A0 : Int), .int .u64 (B0 : Int)] 24)).heap.size (w.alloc (.cells #[.int .u64 (A0 : Int), .int .u64 (B0 : Int)] 24)) w' → w'.cell? ⟨w.heap.size, 0, none⟩ = some (.int .u64 (A0 : Int)) ∧ w'.cell? ⟨w.heap.size, 1, none⟩ = some (.int .u64 (B0 : Int)) ∧ Below (w.alloc (.cells #[.int .u64 (A0 : Int), .int .u64 (B0 : Int)] 24)).heap.size (w.alloc (.cells #[.int .u64 (A0 : Int), .int .u64 (B0 : Int)] 24)) w') := Lib.hid (fun w' hb => ⟨(key_cells hb).1, (key_cells hb).2, hb⟩)
  clear h hw hn hEL hN
  go_enter Tryd.func13, Tryd.ntmps13
  go_wp2_with fail
  generalize w.alloc (.cells #[.int .u64 (A0 : Int), .int .u64 (B0 : Int)] 24) = W at hB0 HK ⊢
  have HP := Lib.hid (fun w' => HP.out W w' hB0)
  have HS := Lib.hid (fun w' A' c' => HS.out W w' A' c' hB0)
  have hBW := Below.refl W.heap.size W
  go_region_held3 (fun w' => w'.cell? ⟨w.heap.size, 0, none⟩ = some (.int .u64 (A0 : Int)) ∧ w'.cell? ⟨w.heap.size, 1, none⟩ = some (.int .u64 (B0 : Int)) ∧ Below W.heap.size W w')
    (first | exact HK.out _ (by assumption) | exact HK.out _ (Below.drew (by assumption)) | exact HK.out _ hB3)
    (first | (go_at_call 18; refine (HP.out _ (by first | assumption | exact Below.drew (by assumption))).mono ?_; rintro e w3 ⟨A3, c3, rfl, hc3, hR3, hB3⟩) | (go_at_call 11; refine (HS.out _ _ _ (by first | assumption | exact Below.drew (by assumption)) hc3 hR3.out).mono ?_; rintro e w4 ⟨rfl, hB3⟩))
  all_goals
    go_wp2_with fail
    go_ret
    exact ⟨rfl, Below.step hB0 hB3⟩
end Go.Proofs.YthalnnhkeaanhaaDoor
