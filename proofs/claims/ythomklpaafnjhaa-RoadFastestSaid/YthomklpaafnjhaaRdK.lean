/-
  The contract of entrances. Condition: a network that Check passes.
-/
import Derived.Test.YthomklpaafnjhaaRdJ
import Derived.BigRegion
namespace Go.Proofs.Ythomklpaafnjhaa
open Go.RowKit
set_option linter.unusedVariables false

/-- A block, and a slice, by whatever address: one frame for all. -/
def CutE (A : Nat → Option Addr → Nat → Act) (J : Nat → Option Addr → Nat → World → Prop) : Exit → Act → World → Prop
  | .normal, a, w => ∃ z x n, a = A z x n ∧ J z x n w
  | _, _, _ => False
theorem wp_cutE {P : Program} {c : Code} {Q : Exit → Act → World → Prop} {a : Act} {w : World} (A : Nat → Option Addr → Nat → Act) (J : Nat → Option Addr → Nat → World → Prop) (h1 : c.wp P (CutE A J) a w) (h2 : ∀ z x n w', J z x n w' → Q .normal (A z x n) w') : c.wp P Q a w :=
  Code.wp_mono (fun e a' w' h => by
    cases e with
    | normal =>
      obtain ⟨z, x, n, ha, hj⟩ := h
      rw [ha]
      exact h2 z x n w' hj
    | _ => exact h.elim) h1
/-- A network in a block that may be written. -/
structure BoxW (w : World) (b : Nat) (n : Int) (v : Value) : Prop where
  c0 : w.cell? ⟨b, 0, none⟩ = some (.int .i64 n)
  c1 : w.cell? ⟨b, 1, none⟩ = some v
  f0 : w.frozen? ⟨b, 0, none⟩ = false
  f1 : w.frozen? ⟨b, 1, none⟩ = false
theorem BoxW.lt {w : World} {b : Nat} {n : Int} {v : Value} (h : BoxW w b n v) : b < w.heap.size := World.block_lt_of_cell? _ _ h.c0
theorem BoxW.keep {w w' : World} {b : Nat} {n : Int} {v : Value} {S : Nat → Prop} (h : BoxW w b n v) (hk : Keep S w w') (hS : ¬ S b) : BoxW w' b n v := by
  have hlt := h.lt
  refine ⟨?_, ?_, ?_, ?_⟩
  · rw [hk.cell (p := ⟨b, 0, none⟩) hlt hS]; exact h.c0
  · rw [hk.cell (p := ⟨b, 1, none⟩) hlt hS]; exact h.c1
  · rw [hk.frozen (p := ⟨b, 0, none⟩) hlt hS]; exact h.f0
  · rw [hk.frozen (p := ⟨b, 1, none⟩) hlt hS]; exact h.f1
theorem BoxW.below {w w' : World} {b : Nat} {n : Int} {v : Value} (h : BoxW w b n v) (hb : Below w.heap.size w w') : BoxW w' b n v := h.keep (Keep.ofBelow (S := fun _ => False) hb) (fun e => e)
theorem BoxW.made (w : World) (n : Int) (v : Value) (t : TypeId) : BoxW (w.alloc (.cells #[.int .i64 n, v] t)) w.heap.size n v :=
  ⟨by rw [World.cell?_alloc_new]; rfl, by rw [World.cell?_alloc_new]; rfl, World.frozen?_alloc_new _ _ _ _, World.frozen?_alloc_new _ _ _ _⟩
theorem BoxW.drew {w : World} {b : Nat} {n : Int} {v : Value} (h : BoxW w b n v) : BoxW w.drew b n v := ⟨h.c0, h.c1, h.f0, h.f1⟩
theorem size_ad (w : World) (o : Obj) : (w.alloc o).drew.heap.size = w.heap.size + 1 := by simp
theorem BoxW.put {w : World} {b : Nat} {n : Int} {v : Value} (h : BoxW w b n v) (n' : Int) (v' : Value) : BoxW ((w.setCell ⟨b, 0, none⟩ (.int .i64 n')).setCell ⟨b, 1, none⟩ v') b n' v' := by
  refine ⟨?_, ?_, by simp only [World.frozen?_setCell]; exact h.f0, by simp only [World.frozen?_setCell]; exact h.f1⟩
  · rw [World.cell?_setCell_other _ _ _ _ (by simp)]; exact World.cell?_setCell_same _ _ _ h.c0
  · exact World.cell?_setCell_same _ _ _ (by rw [World.cell?_setCell_other _ _ _ _ (by simp)]; exact h.c1)
theorem OwnA.apart {e : TypeId} {w : World} {base m d : Nat} {B : Option Addr} {l : List Ed} (h : OwnA e w base (.slice B m d) l) (hm : l.length = m) : ∀ a, B = some a → base ≤ a.block ∧ a.block < w.heap.size := fun a ha => by
  obtain ⟨A, cap, hv, _, _, h4⟩ := h.form
  injection hv with hv _ _
  exact h.ge _ (h4 a (by rw [← hv]; exact ha))

theorem leafA {w1 w3 : World} {N m d : Nat} {B : Option Addr} {l : List Ed} (hm : l.length = m) (hO3 : OwnA 43 w3 w1.drew.heap.size (.slice B m d) l) (hB3 : Below w1.drew.heap.size w1.drew w3) :
    Hid (BoxW (w3.alloc (.cells #[.int .i64 (N : Int), .slice B m d] 24)) w3.heap.size (N : Int) (.slice B m d)) ∧ Hid (OwnA 43 (w3.alloc (.cells #[.int .i64 (N : Int), .slice B m d] 24)) w1.heap.size (.slice B m d) l) ∧ Hid (Below w1.heap.size w1 (w3.alloc (.cells #[.int .i64 (N : Int), .slice B m d] 24))) ∧ Hid (w1.heap.size ≤ w3.heap.size ∧ ∀ a, B = some a → a.block ≠ w3.heap.size) :=
  ⟨Lib.hid (BoxW.made _ _ _ _), Lib.hid (hO3.below (below_alloc _ _)), Lib.hid (((Below.refl _ w1).drew.trans hB3).alloc hB3.size _), Lib.hid ⟨hB3.size, fun a ha => by have := (hO3.apart hm a ha).2; omega⟩⟩
theorem leafB {w1 w3 : World} {N m d : Nat} {B : Option Addr} {l : List Ed} (hm : l.length = m) (hO3 : OwnA 43 w3 (w1.alloc (.cells #[.int .i64 0, .slice none 0 0] 24)).drew.heap.size (.slice B m d) l) (hB3 : Below (w1.alloc (.cells #[.int .i64 0, .slice none 0 0] 24)).drew.heap.size (w1.alloc (.cells #[.int .i64 0, .slice none 0 0] 24)).drew w3) :
    Hid (BoxW ((w3.setCell ⟨w1.heap.size, 0, none⟩ (.int .i64 (N : Int))).setCell ⟨w1.heap.size, 1, none⟩ (.slice B m d)) w1.heap.size (N : Int) (.slice B m d)) ∧ Hid (OwnA 43 ((w3.setCell ⟨w1.heap.size, 0, none⟩ (.int .i64 (N : Int))).setCell ⟨w1.heap.size, 1, none⟩ (.slice B m d)) w1.heap.size (.slice B m d) l) ∧ Hid (Below w1.heap.size w1 ((w3.setCell ⟨w1.heap.size, 0, none⟩ (.int .i64 (N : Int))).setCell ⟨w1.heap.size, 1, none⟩ (.slice B m d))) ∧ Hid (w1.heap.size ≤ w1.heap.size ∧ ∀ a, B = some a → a.block ≠ w1.heap.size) := by
  have hb : Below w1.heap.size w1 w3 := Below.step (b := (w1.alloc (.cells #[.int .i64 0, .slice none 0 0] 24)).drew) (below_alloc _ _).drew hB3
  have hz : BoxW w3 w1.heap.size 0 (.slice none 0 0) := (BoxW.made w1 0 (.slice none 0 0) 24).drew.below hB3
  have hap := fun a ha => (hO3.apart hm a ha).1
  have hge := fun k hk => (hO3.ge k hk).1
  simp only [size_ad] at hap hge
  exact ⟨Lib.hid (hz.put _ _), Lib.hid (World.ownsRow.mono (OwnA.keep (S := fun k => k = w1.heap.size) hO3 (((Keep.refl (fun k => k = w1.heap.size) w3).set _ _ rfl).set _ _ rfl) (fun k hk e => by have := hge k hk; omega)) (by rw [size_ad]; omega)), Lib.hid ((hb.setCell (p := ⟨w1.heap.size, 0, none⟩) (Nat.le_refl _) _).setCell (p := ⟨w1.heap.size, 1, none⟩) (Nat.le_refl _) _), Lib.hid ⟨Nat.le_refl _, fun a ha => by have := hap a ha; omega⟩⟩

set_option maxRecDepth 100000 in
set_option maxHeartbeats 2000000 in
theorem entrances_any (N : Nat) (A : Option Addr) (m c : Nat) (l : List Ed) (w : World) (hN : N ≤ 64) (hm : l.length = m) (hm5 : m ≤ 512) (hA : EdR w A l) (hO : OkL N l) :
    Calls Try.prog 30 #[.agg #[.int .i64 (N : Int), .slice A m c]] w fun e w' => ∃ g, e = .returned (.slice (some ⟨g, 0, none⟩) N N) ∧ XsR w' g N (fun v => exT (trnL l) (v : Int) m) ∧ Below w.heap.size w w' := by
  have HM := Lib.hid hm
  have HEX := Lib.hid (fun W B d (hE : EdR W B (trnL l)) => exits_any N B m d (trnL l) W hN (by rw [trnL_length]; exact hm) hm5 hE hO.trn)
  obtain ⟨w1, hw1⟩ : ∃ x, w.alloc (.cells #[.int .i64 (N : Int), .slice A m c] 24) = x := ⟨_, rfl⟩
  have HB1 : Hid (Below w.heap.size w w1) := Lib.hid (hw1 ▸ below_alloc _ _)
  have HBX : Hid (BoxR w1 w.heap.size (N : Int) A m c) := Lib.hid (hw1 ▸ BoxR.made _ _ _ _ _ _)
  have HA1 := Lib.hid (hA.below HB1.out)
  have HCL := Lib.hid (fun W (hb : Below w1.heap.size w1 W) => clone_any A m c l W hm (by omega) (HA1.out.below hb))
  have HBa : Hid (Below w1.heap.size w1 w1.drew) := Lib.hid (Below.refl _ _).drew
  have HBb : Hid (Below w1.heap.size w1 (w1.alloc (.cells #[.int .i64 0, .slice none 0 0] 24)).drew) := Lib.hid (below_alloc _ _).drew
  have HZb : Hid (BoxW (w1.alloc (.cells #[.int .i64 0, .slice none 0 0] 24)).drew w1.heap.size 0 (.slice none 0 0)) := Lib.hid (BoxW.made _ _ _ _).drew
  clear hm hA hO
  go_enter Try.func30, Try.ntmps30
  go_wp2_with fail
  obtain ⟨x0, x1⟩ := HBX.out
  have hbs : w.heap.size < w1.heap.size := World.block_lt_of_cell? _ _ x0
  clear hw1
  apply wp_cutE (J := fun z B d W => Hid (BoxW W z (N : Int) (.slice B m d)) ∧ Hid (OwnA 43 W w1.heap.size (.slice B m d) l) ∧ Hid (Below w1.heap.size w1 W) ∧ Hid (w1.heap.size ≤ z ∧ ∀ a, B = some a → a.block ≠ z))
  case h1 =>
    go_region_law (first
      | (go_simp; go_at_call 40; refine (HCL.out _ HBa.out).mono ?_; rintro e w3 ⟨B, d, rfl, hO3, hB3⟩; obtain ⟨y0, y1⟩ := HBX.out.below ((Below.refl w1.heap.size w1).drew.trans hB3); have hb3 := World.block_lt_of_cell? _ _ y0; simp only at hb3; have hJA := leafA (N := N) HM.out hO3 hB3)
      | (go_simp; go_at_call 40; refine (HCL.out _ HBb.out).mono ?_; rintro e w3 ⟨B, d, rfl, hO3, hB3⟩; obtain ⟨y0, y1⟩ := HBX.out.below (Below.step (b := (w1.alloc (.cells #[.int .i64 0, .slice none 0 0] 24)).drew) HBb.out hB3); have hb3 := World.block_lt_of_cell? _ _ y0; simp only at hb3; obtain ⟨z0, z1, z2, z3⟩ := HZb.out.below hB3; have hJA := leafB (N := N) HM.out hO3 hB3)
      | fail)
    all_goals
      first
        | (obtain ⟨p, hp⟩ : ∃ p, w3.heap.size = p := ⟨_, rfl⟩
           rw [hp] at hJA ⊢
           exact ⟨p, B, d, rfl, hJA⟩)
        | (obtain ⟨p, hp⟩ : ∃ p, w1.heap.size = p := ⟨_, rfl⟩
           rw [hp] at hJA ⊢
           exact ⟨p, B, d, rfl, hJA⟩)
  intro z B d W hJ
  obtain ⟨HZ, HOW, HBW, HZ1⟩ := hJ
  clear HA1 HCL HBa HBb HZb HBX x0 x1 hbs
  obtain ⟨z0, z1, _, _⟩ := HZ.out
  have HROW : Hid (0 < m → ∃ gB, B = some ⟨gB, 0, none⟩ ∧ w1.heap.size ≤ gB ∧ gB ≠ z ∧ TrB W gB (trnK l 0)) := Lib.hid (fun h0 => by
    obtain ⟨gB, h1, h2, h3⟩ := HOW.out.block HM.out h0
    exact ⟨gB, h1, h2, HZ1.out.2 _ h1, by rw [trnK_zero]; exact h3⟩)
  go_wp2_with fail
  clear z0 z1 HOW
  go_loopw [15] (fun i wr => ∃ k : Nat, k ≤ m ∧ i = .int .i64 (k : Int) ∧ Hid (0 < m → ∃ gB, B = some ⟨gB, 0, none⟩ ∧ w1.heap.size ≤ gB ∧ gB ≠ z ∧ TrB wr gB (trnK l k)) ∧ Hid (BoxW wr z (N : Int) (.slice B m d)) ∧ Hid (Below w1.heap.size w1 wr)) (fun i _ => m - (intOf i).toNat)
  case atStart => exact ⟨0, by omega, rfl, HROW, HZ, HBW⟩
  case round =>
    obtain ⟨k, hk, rfl, HR, HZr, HBr⟩ := hrel
    clear HROW HZ HBW
    by_cases hlt : k < m
    · have hkz : (k : Int) < (m : Int) := by omega
      have hkl : k < l.length := by rw [HM.out]; exact hlt
      obtain ⟨gB, rfl, hgB, hgz, hTr⟩ := HR.out (by omega)
      have hkk : k < (trnK l k).length := by rw [trnK_length l k (by omega)]; exact hkl
      obtain ⟨c0, c1, c2⟩ := hTr.cell hkk
      rw [trnK_get l k k (by omega) hkl, if_neg (Nat.lt_irrefl k)] at c0 c1 c2
      have g0 := hTr.frozen (k * 3)
      have g1 := hTr.frozen (k * 3 + 1)
      have HTU := Lib.hid (hTr.turn hkl)
      obtain ⟨⟨f, t, s⟩, hy⟩ : ∃ y, l.getD k ed0 = y := ⟨_, rfl⟩
      rw [hy] at c0 c1 c2 HTU
      simp only at c0 c1 c2 HTU
      have hgl : gB < wr.heap.size := hTr.lt
      obtain ⟨z0, z1, _, _⟩ := HZr.out
      have hzl : z < wr.heap.size := HZr.out.lt
      have hzg : ¬ z = gB := fun e => hgz e.symm
      have n1 : ¬ wr.heap.size = gB := by omega
      have n2 : ¬ wr.heap.size = z := by omega
      have n3 : ¬ gB = z := hgz
      have HGZ := Lib.hid (And.intro hgB hgz)
      clear hTr hkk hy hkl HR
      go_wp2_with fail
      go_region
      have HR5 : Hid (0 < m → ∃ g, some (⟨gB, 0, none⟩ : Addr) = some ⟨g, 0, none⟩ ∧ w1.heap.size ≤ g ∧ g ≠ z ∧ TrB ((((wr.setCell ⟨gB, k * 3, none⟩ (.int .i64 t)).setCell ⟨gB, k * 3 + 1, none⟩ (.int .i64 f)).alloc (.cells #[.int .i64 f, .int .i64 t, .int .i64 s] 43)).drew) g (trnK l (k + 1))) := Lib.hid (fun _ => ⟨gB, rfl, HGZ.out.1, HGZ.out.2, HTU.out.below (below_alloc _ _).drew⟩)
      have HK5 : Keep (fun x => x = gB) wr ((((wr.setCell ⟨gB, k * 3, none⟩ (.int .i64 t)).setCell ⟨gB, k * 3 + 1, none⟩ (.int .i64 f)).alloc (.cells #[.int .i64 f, .int .i64 t, .int .i64 s] 43)).drew) := ((((Keep.refl (fun x => x = gB) wr).set _ _ rfl).set _ _ rfl).alloc _).drew
      have HZ5 : Hid (BoxW ((((wr.setCell ⟨gB, k * 3, none⟩ (.int .i64 t)).setCell ⟨gB, k * 3 + 1, none⟩ (.int .i64 f)).alloc (.cells #[.int .i64 f, .int .i64 t, .int .i64 s] 43)).drew) z (N : Int) (.slice (some ⟨gB, 0, none⟩) m d)) := Lib.hid (HZr.out.keep HK5 hzg)
      have HB5 : Hid (Below w1.heap.size w1 ((((wr.setCell ⟨gB, k * 3, none⟩ (.int .i64 t)).setCell ⟨gB, k * 3 + 1, none⟩ (.int .i64 f)).alloc (.cells #[.int .i64 f, .int .i64 t, .int .i64 s] 43)).drew)) := Lib.hid (HBr.out.trans (HK5.below (fun x e => by rw [e]; exact HGZ.out.1) HBr.out.size))
      clear HK5
      go_wp2_with fail
      go_roundw
      case rel => exact ⟨k + 1, by omega, by go_num, HR5, HZ5, HB5⟩
      case measure => simp only [intOf]; omega
    · obtain rfl : k = m := by omega
      have hnlt : ¬ (k : Int) < (k : Int) := by omega
      have HE : Hid (EdR wr B (trnL l)) := Lib.hid (by
        intro h0
        rw [trnL_length, HM.out] at h0
        obtain ⟨gB, h1, _, _, h2⟩ := HR.out h0
        have e : trnK l k = trnL l := by rw [← HM.out]; exact trnK_all l
        rw [e] at h2
        rw [h1]
        exact h2.read (by rw [trnL_length, HM.out]; exact h0))
      obtain ⟨z0, z1, _, _⟩ := HZr.out
      go_wp2_with fail
      refine (HEX.out _ _ _ HE.out).mono ?_
      rintro e w5 ⟨g, rfl, hX, hB5⟩
      have HX := Lib.hid hX
      have HB5 := Lib.hid (Below.step HB1.out (Below.step HBr.out hB5))
      clear hX hB5
      go_wp2_with fail
      go_ret
      exact ⟨g, rfl, HX.out, HB5.out⟩
end Go.Proofs.Ythomklpaafnjhaa
