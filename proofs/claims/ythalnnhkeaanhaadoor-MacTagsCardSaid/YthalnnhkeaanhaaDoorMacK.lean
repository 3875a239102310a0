/-
  The contracts of Derive, of the package and of its specification. No condition but the integers' ranges.
-/
import Derived.Test.YthalnnhkeaanhaaDoorMacJ
namespace Go.Proofs.YthalnnhkeaanhaaDoor
open Go.RowKit Go.Maps
set_option linter.unusedVariables false
set_option linter.unusedSimpArgs false

/-- A key in a block of its own. -/
def KeyR (w : World) (g : Nat) (a b : Nat) : Prop := w.heap[g]? = some (.cells #[.int .u64 (a : Int), .int .u64 (b : Int)] 24 (0, 0))
theorem KeyR.below {w w' : World} {g B a b : Nat} (h : KeyR w g a b) (hb : Below B w w') (hB : g < B) : KeyR w' g a b := (hb.block g hB).trans h
theorem KeyR.c0 {w : World} {g a b : Nat} (h : KeyR w g a b) : w.cell? ⟨g, 0, none⟩ = some (.int .u64 (a : Int)) := (cell_of_row w g 0 _ _ _ h).trans rfl
theorem KeyR.c1 {w : World} {g a b : Nat} (h : KeyR w g a b) : w.cell? ⟨g, 1, none⟩ = some (.int .u64 (b : Int)) := (cell_of_row w g 1 _ _ _ h).trans rfl
theorem KeyR.frozen {w : World} {g a b : Nat} (h : KeyR w g a b) (k : Nat) : w.frozen? ⟨g, k, none⟩ = false := by
  simp [World.frozen?, show w.heap[g]? = _ from h]
theorem two_ints {w : World} {b : Nat} {n q : Int} (h0 : w.cell? ⟨b, 0, none⟩ = some (.int .i64 n)) (h1 : w.cell? ⟨b, 1, none⟩ = some (.int .i64 q)) : IntR w (some ⟨b, 0, none⟩) [n, q] := fun _ => ⟨b, 0, rfl, World.block_lt_of_cell? _ _ h0, fun k v hk => by
  match k, hk with
  | 0, hk => simp at hk; subst hk; exact h0
  | 1, hk => simp at hk; subst hk; exact h1⟩
theorem wide_two {n q : Int} (lo : -9223372036854775808 ≤ n) (hi : n ≤ 9223372036854775807) (lo2 : -9223372036854775808 ≤ q) (hi2 : q ≤ 9223372036854775807) : WideI [n, q] := fun k hk => by
  match k, hk with
  | 0, _ => exact ⟨lo, hi⟩
  | 1, _ => exact ⟨lo2, hi2⟩

set_option maxRecDepth 100000 in
set_option maxHeartbeats 1000000 in
theorem derive_any (A0 B0 : Nat) (n : Int) (w : World) (f : Facts w) (ha : A0 < 18446744073709551616) (hb0 : B0 < 18446744073709551616) (lo : -9223372036854775808 ≤ n) (hi : n ≤ 9223372036854775807) :
    Calls Tryd.prog 14 #[.agg #[.int .u64 (A0 : Int), .int .u64 (B0 : Int)], .int .i64 n] w fun e w' => e = .returned (.agg #[.int .u64 (tagS A0 B0 [n, 0] : Int), .int .u64 (tagS A0 B0 [n, 1] : Int)]) ∧ Below w.heap.size w w' := by
  have HT : Hid (∀ q, -9223372036854775808 ≤ q → q ≤ 9223372036854775807 → ∀ w0 w' blk c, Below w.heap.size w w0 → Below w0.heap.size w0 w' → w'.cell? ⟨blk, 0, none⟩ = some (.int .i64 n) → w'.cell? ⟨blk, 1, none⟩ = some (.int .i64 q) → Calls Tryd.prog 12 #[.agg #[.int .u64 (A0 : Int), .int .u64 (B0 : Int)], .slice (some ⟨blk, 0, none⟩) 2 c] w' fun e w'' => e = .returned (.int .u64 (tagS A0 B0 [n, q] : Int)) ∧ Below w0.heap.size w0 w'' ∧ Below w'.heap.size w' w'') := Lib.hid (fun q lo2 hi2 w0 w' blk c h0 hb c0 c1 =>
    (tag_any A0 B0 (some ⟨blk, 0, none⟩) [n, q] 2 c w' ((f.step h0).step hb) ha hb0 rfl (by decide) (wide_two lo hi lo2 hi2) (two_ints c0 c1)).mono fun e w'' ⟨he, hb2⟩ => ⟨he, Below.step hb hb2, hb2⟩)
  have HT0 := Lib.hid (HT.out 0 (by decide) (by decide))
  have HT1 := Lib.hid (HT.out 1 (by decide) (by decide))
  clear HT f
  generalize tagS A0 B0 [n, 0] = T0 at HT0 ⊢
  generalize tagS A0 B0 [n, 1] = T1 at HT1 ⊢
  go_enter Tryd.func14, Tryd.ntmps14
  go_wp2_with fail
  have hB0 : Below w.heap.size w ((w.alloc (.cells #[.int .u64 (A0 : Int), .int .u64 (B0 : Int)] 24)).alloc (.cells #[.int .u64 0, .int .u64 0] 24)) := ((Below.refl _ _).alloc (Nat.le_refl _) _).alloc (by simp) _
  have K1 : KeyR ((w.alloc (.cells #[.int .u64 (A0 : Int), .int .u64 (B0 : Int)] 24)).alloc (.cells #[.int .u64 0, .int .u64 0] 24)) w.heap.size A0 B0 := ((Below.refl (w.heap.size + 1) (w.alloc (.cells #[.int .u64 (A0 : Int), .int .u64 (B0 : Int)] 24))).alloc (by simp) _).block w.heap.size (by omega) |>.trans (heap_alloc_new w _)
  have K2 : KeyR ((w.alloc (.cells #[.int .u64 (A0 : Int), .int .u64 (B0 : Int)] 24)).alloc (.cells #[.int .u64 0, .int .u64 0] 24)) (w.heap.size + 1) 0 0 := by
    have := heap_alloc_new (w.alloc (.cells #[.int .u64 (A0 : Int), .int .u64 (B0 : Int)] 24)) (.cells #[.int .u64 0, .int .u64 0] 24)
    rwa [World.size_alloc] at this
  generalize (w.alloc (.cells #[.int .u64 (A0 : Int), .int .u64 (B0 : Int)] 24)).alloc (.cells #[.int .u64 0, .int .u64 0] 24) = W at hB0 K1 K2 ⊢
  obtain ⟨g, hg⟩ : ∃ g, w.heap.size = g := ⟨_, rfl⟩
  obtain ⟨g2, hg2⟩ : ∃ g2, w.heap.size + 1 = g2 := ⟨_, rfl⟩
  have HGL : Hid (w.heap.size ≤ g2) := Lib.hid (by omega)
  have hne : g ≠ g2 := by omega
  rw [hg] at K1
  rw [hg2] at K2
  rw [hg2, hg]
  have HT0 := Lib.hid (fun w' blk c => HT0.out W w' blk c hB0)
  have HT1 := Lib.hid (fun w' blk c => HT1.out W w' blk c hB0)
  have hgW : g < W.heap.size := World.block_lt_of_cell? _ _ K1.c0
  have hg2W : g2 < W.heap.size := World.block_lt_of_cell? _ _ K2.c0
  clear hg hg2
  have HK : Hid (∀ w', Below W.heap.size W w' → w'.cell? ⟨g, 0, none⟩ = some (.int .u64 (A0 : Int)) ∧ w'.cell? ⟨g, 1, none⟩ = some (.int .u64 (B0 : Int)) ∧ w'.cell? ⟨g2, 0, none⟩ = some (.int .u64 0) ∧ w'.cell? ⟨g2, 1, none⟩ = some (.int .u64 0) ∧ w'.frozen? ⟨g2, 0, none⟩ = false ∧ w'.frozen? ⟨g2, 1, none⟩ = false) := Lib.hid (fun w' hb =>
    ⟨(K1.below hb hgW).c0, (K1.below hb hgW).c1, (K2.below hb hg2W).c0, (K2.below hb hg2W).c1, (K2.below hb hg2W).frozen 0, (K2.below hb hg2W).frozen 1⟩)
  have hBW : Below W.heap.size W W.drew := (Below.refl W.heap.size W).drew
  obtain ⟨k0, k1, k2, k3, k4, k5⟩ := HK.out _ hBW
  have hBR := Below.refl W.heap.size W
  have HKK := Lib.hid (fun w' hb => And.intro (HK.out w' hb).1 (HK.out w' hb).2.1)
  go_region_held3 (fun w' => w'.cell? ⟨g, 0, none⟩ = some (.int .u64 (A0 : Int)) ∧ w'.cell? ⟨g, 1, none⟩ = some (.int .u64 (B0 : Int)))
    (first | exact HKK.out _ (by first | exact hb3 | exact hb3.alloc hb3.size _ | exact (hBR.alloc (Nat.le_refl _) _).drew | exact ((hBR.alloc (Nat.le_refl _) _).alloc (by simp) _).drew | exact hBR.alloc (Nat.le_refl _) _ | exact (hBR.alloc (Nat.le_refl _) _).alloc (by simp) _ | exact hBR.drew | exact hBR | fail) | (simp [k0, k1, hne, Ne.symm hne, World.cell?_setCell_far]; done) | go_keep)
    (first | (go_at_call 12; refine (HT0.out _ _ _ (by first | exact hb3 | exact hb3.alloc hb3.size _ | exact (hBR.alloc (Nat.le_refl _) _).drew | exact ((hBR.alloc (Nat.le_refl _) _).alloc (by simp) _).drew | exact hBR.alloc (Nat.le_refl _) _ | exact (hBR.alloc (Nat.le_refl _) _).alloc (by simp) _ | exact hBR.drew | exact hBR | fail) (by first | (go_simp; done) | (rw [hl3.cell (by first | (simp; done) | (simp; omega))]; go_simp; done) | fail) (by first | (go_simp; done) | (rw [hl3.cell (by first | (simp; done) | (simp; omega))]; go_simp; done) | fail)).mono ?_; rintro e w3 ⟨rfl, hb3, hl3⟩; obtain ⟨k0, k1, k2, k3, k4, k5⟩ := HK.out w3 hb3) | (go_at_call 12; refine (HT1.out _ _ _ (by first | exact hb3 | exact hb3.alloc hb3.size _ | exact (hBR.alloc (Nat.le_refl _) _).drew | exact ((hBR.alloc (Nat.le_refl _) _).alloc (by simp) _).drew | exact hBR.alloc (Nat.le_refl _) _ | exact (hBR.alloc (Nat.le_refl _) _).alloc (by simp) _ | exact hBR.drew | exact hBR | fail) (by first | (go_simp; done) | (rw [hl3.cell (by first | (simp; done) | (simp; omega))]; go_simp; done) | fail) (by first | (go_simp; done) | (rw [hl3.cell (by first | (simp; done) | (simp; omega))]; go_simp; done) | fail)).mono ?_; rintro e w3 ⟨rfl, hb3, hl3⟩; obtain ⟨k0, k1, k2, k3, k4, k5⟩ := HK.out w3 hb3) | fail)
  all_goals
    have hB : ∀ a b, Below w.heap.size w ((w3.setCell ⟨g2, 0, none⟩ a).setCell ⟨g2, 1, none⟩ b) := fun a b => ((Below.step hB0 hb3).setCell (p := ⟨g2, 0, none⟩) HGL.out a).setCell (p := ⟨g2, 1, none⟩) HGL.out b
    go_wp2_with fail
    first
      | (go_ret; exact ⟨rfl, hB _ _⟩)
      | exact bodyPost_ret (v := .agg #[.int .u64 (T0 : Int), .int .u64 (T1 : Int)]) (by simp [results, Tryd.results14, go_sem, k2, k3]) rfl ⟨rfl, hB _ _⟩

set_option maxRecDepth 100000 in
set_option maxHeartbeats 1000000 in
theorem refDerive_any (A0 B0 : Nat) (n : Int) (w : World) (ha : A0 < 18446744073709551616) (hb0 : B0 < 18446744073709551616) (lo : -9223372036854775808 ≤ n) (hi : n ≤ 9223372036854775807) :
    Calls Tryd.prog 15 #[.agg #[.int .u64 (A0 : Int), .int .u64 (B0 : Int)], .int .i64 n] w fun e w' => e = .returned (.agg #[.int .u64 (tagS A0 B0 [n, 0] : Int), .int .u64 (tagS A0 B0 [n, 1] : Int)]) ∧ Below w.heap.size w w' := by
  have HT : Hid (∀ q, -9223372036854775808 ≤ q → q ≤ 9223372036854775807 → ∀ w0 w' blk c, Below w.heap.size w w0 → Below w0.heap.size w0 w' → w'.cell? ⟨blk, 0, none⟩ = some (.int .i64 n) → w'.cell? ⟨blk, 1, none⟩ = some (.int .i64 q) → Calls Tryd.prog 13 #[.agg #[.int .u64 (A0 : Int), .int .u64 (B0 : Int)], .slice (some ⟨blk, 0, none⟩) 2 c] w' fun e w'' => e = .returned (.int .u64 (tagS A0 B0 [n, q] : Int)) ∧ Below w0.heap.size w0 w'' ∧ Below w'.heap.size w' w'') := Lib.hid (fun q lo2 hi2 w0 w' blk c h0 hb c0 c1 =>
    (refTag_any A0 B0 (some ⟨blk, 0, none⟩) [n, q] 2 c w' ha hb0 rfl (by decide) (wide_two lo hi lo2 hi2) (two_ints c0 c1)).mono fun e w'' ⟨he, hb2⟩ => ⟨he, Below.step hb hb2, hb2⟩)
  have HT0 := Lib.hid (HT.out 0 (by decide) (by decide))
  have HT1 := Lib.hid (HT.out 1 (by decide) (by decide))
  clear HT
  generalize tagS A0 B0 [n, 0] = T0 at HT0 ⊢
  generalize tagS A0 B0 [n, 1] = T1 at HT1 ⊢
  go_enter Tryd.func15, Tryd.ntmps15
  go_wp2_with fail
  have hB0 : Below w.heap.size w ((w.alloc (.cells #[.int .u64 (A0 : Int), .int .u64 (B0 : Int)] 24)).alloc (.cells #[.int .u64 0, .int .u64 0] 24)) := ((Below.refl _ _).alloc (Nat.le_refl _) _).alloc (by simp) _
  have K1 : KeyR ((w.alloc (.cells #[.int .u64 (A0 : Int), .int .u64 (B0 : Int)] 24)).alloc (.cells #[.int .u64 0, .int .u64 0] 24)) w.heap.size A0 B0 := ((Below.refl (w.heap.size + 1) (w.alloc (.cells #[.int .u64 (A0 : Int), .int .u64 (B0 : Int)] 24))).alloc (by simp) _).block w.heap.size (by omega) |>.trans (heap_alloc_new w _)
  have K2 : KeyR ((w.alloc (.cells #[.int .u64 (A0 : Int), .int .u64 (B0 : Int)] 24)).alloc (.cells #[.int .u64 0, .int .u64 0] 24)) (w.heap.size + 1) 0 0 := by
    have := heap_alloc_new (w.alloc (.cells #[.int .u64 (A0 : Int), .int .u64 (B0 : Int)] 24)) (.cells #[.int .u64 0, .int .u64 0] 24)
    rwa [World.size_alloc] at this
  generalize (w.alloc (.cells #[.int .u64 (A0 : Int), .int .u64 (B0 : Int)] 24)).alloc (.cells #[.int .u64 0, .int .u64 0] 24) = W at hB0 K1 K2 ⊢
  obtain ⟨g, hg⟩ : ∃ g, w.heap.size = g := ⟨_, rfl⟩
  obtain ⟨g2, hg2⟩ : ∃ g2, w.heap.size + 1 = g2 := ⟨_, rfl⟩
  have HGL : Hid (w.heap.size ≤ g2) := Lib.hid (by omega)
  have hne : g ≠ g2 := by omega
  rw [hg] at K1
  rw [hg2] at K2
  rw [hg2, hg]
  have HT0 := Lib.hid (fun w' blk c => HT0.out W w' blk c hB0)
  have HT1 := Lib.hid (fun w' blk c => HT1.out W w' blk c hB0)
  have hgW : g < W.heap.size := World.block_lt_of_cell? _ _ K1.c0
  have hg2W : g2 < W.heap.size := World.block_lt_of_cell? _ _ K2.c0
  clear hg hg2
  have HK : Hid (∀ w', Below W.heap.size W w' → w'.cell? ⟨g, 0, none⟩ = some (.int .u64 (A0 : Int)) ∧ w'.cell? ⟨g, 1, none⟩ = some (.int .u64 (B0 : Int)) ∧ w'.cell? ⟨g2, 0, none⟩ = some (.int .u64 0) ∧ w'.cell? ⟨g2, 1, none⟩ = some (.int .u64 0) ∧ w'.frozen? ⟨g2, 0, none⟩ = false ∧ w'.frozen? ⟨g2, 1, none⟩ = false) := Lib.hid (fun w' hb =>
    ⟨(K1.below hb hgW).c0, (K1.below hb hgW).c1, (K2.below hb hg2W).c0, (K2.below hb hg2W).c1, (K2.below hb hg2W).frozen 0, (K2.below hb hg2W).frozen 1⟩)
  have hBW : Below W.heap.size W W.drew := (Below.refl W.heap.size W).drew
  obtain ⟨k0, k1, k2, k3, k4, k5⟩ := HK.out _ hBW
  have hBR := Below.refl W.heap.size W
  have HKK := Lib.hid (fun w' hb => And.intro (HK.out w' hb).1 (HK.out w' hb).2.1)
  go_region_held3 (fun w' => w'.cell? ⟨g, 0, none⟩ = some (.int .u64 (A0 : Int)) ∧ w'.cell? ⟨g, 1, none⟩ = some (.int .u64 (B0 : Int)))
    (first | exact HKK.out _ (by first | exact hb3 | exact hb3.alloc hb3.size _ | exact (hBR.alloc (Nat.le_refl _) _).drew | exact ((hBR.alloc (Nat.le_refl _) _).alloc (by simp) _).drew | exact hBR.alloc (Nat.le_refl _) _ | exact (hBR.alloc (Nat.le_refl _) _).alloc (by simp) _ | exact hBR.drew | exact hBR | fail) | (simp [k0, k1, hne, Ne.symm hne, World.cell?_setCell_far]; done) | go_keep)
    (first | (go_at_call 13; refine (HT0.out _ _ _ (by first | exact hb3 | exact hb3.alloc hb3.size _ | exact (hBR.alloc (Nat.le_refl _) _).drew | exact ((hBR.alloc (Nat.le_refl _) _).alloc (by simp) _).drew | exact hBR.alloc (Nat.le_refl _) _ | exact (hBR.alloc (Nat.le_refl _) _).alloc (by simp) _ | exact hBR.drew | exact hBR | fail) (by first | (go_simp; done) | (rw [hl3.cell (by first | (simp; done) | (simp; omega))]; go_simp; done) | fail) (by first | (go_simp; done) | (rw [hl3.cell (by first | (simp; done) | (simp; omega))]; go_simp; done) | fail)).mono ?_; rintro e w3 ⟨rfl, hb3, hl3⟩; obtain ⟨k0, k1, k2, k3, k4, k5⟩ := HK.out w3 hb3) | (go_at_call 13; refine (HT1.out _ _ _ (by first | exact hb3 | exact hb3.alloc hb3.size _ | exact (hBR.alloc (Nat.le_refl _) _).drew | exact ((hBR.alloc (Nat.le_refl _) _).alloc (by simp) _).drew | exact hBR.alloc (Nat.le_refl _) _ | exact (hBR.alloc (Nat.le_refl _) _).alloc (by simp) _ | exact hBR.drew | exact hBR | fail) (by first | (go_simp; done) | (rw [hl3.cell (by first | (simp; done) | (simp; omega))]; go_simp; done) | fail) (by first | (go_simp; done) | (rw [hl3.cell (by first | (simp; done) | (simp; omega))]; go_simp; done) | fail)).mono ?_; rintro e w3 ⟨rfl, hb3, hl3⟩; obtain ⟨k0, k1, k2, k3, k4, k5⟩ := HK.out w3 hb3) | fail)
  all_goals
    have hB : ∀ a b, Below w.heap.size w ((w3.setCell ⟨g2, 0, none⟩ a).setCell ⟨g2, 1, none⟩ b) := fun a b => ((Below.step hB0 hb3).setCell (p := ⟨g2, 0, none⟩) HGL.out a).setCell (p := ⟨g2, 1, none⟩) HGL.out b
    go_wp2_with fail
    first
      | (go_ret; exact ⟨rfl, hB _ _⟩)
      | exact bodyPost_ret (v := .agg #[.int .u64 (T0 : Int), .int .u64 (T1 : Int)]) (by simp [results, Tryd.results15, go_sem, k2, k3]) rfl ⟨rfl, hB _ _⟩
end Go.Proofs.YthalnnhkeaanhaaDoor
