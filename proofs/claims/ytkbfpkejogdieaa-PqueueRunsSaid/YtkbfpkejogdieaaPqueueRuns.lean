/-
  P7.1, P7.2, P7.3: PqueueRuns: for every list of at most 200 calls (else the chapter's example alone) and either order, whatever is pushed, removed and looked at, all results are the specified ones; and the chapter's second example holds. Conditions: none but the row's own.
-/
import Derived.Test.YtkbfpkejogdieaaPqQ
namespace Go.Proofs.Ytkbfpkejogdieaa.pqueueRuns
open Go.ChangeShapes Go.WideShapes Go.ChangeAt Go.RowKit
set_option linter.unusedVariables false

theorem refPush_k (A : Option Addr) (l : List It) (n c k : Nat) (x : It) (w : World) (hk : n + 1 = k) (hn : l.length = n) (hl : n ≤ 5000) (h : ItsR w A l) :
    Calls Try.prog 17 #[.slice A n c, .agg #[.int .i64 x.1, .int .i64 x.2]] w fun e w' => ∃ B d, e = .returned (.slice B k d) ∧ k ≤ d ∧ ItsR w' B (l ++ [x]) ∧ Below w.heap.size w w' ∧ ∀ a, B = some a → w.heap.size ≤ a.block := by
  subst hk
  exact refPush_any A l n c x w hn hl h
theorem refPop_k (dn : Bool) (l : List It) (n k c f : Nat) (x : It) (A : Option Addr) (w : World) (hk : k + 1 = n) (hf : fI dn l n = f) (hx : l.getD f (0, 0) = x) (hn : l.length = n) (hl : n ≤ 1000) (hc : n ≤ c) (h : ItsR w A l) :
    Calls Try.prog 18 #[.slice A n c, .bool dn] w fun e w' => ∃ B d, e = .returned (.tuple #[.slice B k d, .agg #[.int .i64 x.1, .int .i64 x.2], .bool true]) ∧ k ≤ d ∧ ItsR w' B (l.eraseIdx f) ∧ Below w.heap.size w w' ∧ ∀ a, B = some a → w.heap.size ≤ a.block := by
  subst hk hf hx
  exact refPop_any dn l (k + 1) c A w hn hl (by omega) hc h

set_option maxRecDepth 100000 in
set_option maxHeartbeats 8000000 in
theorem walk (w : World) (A0 : Option Addr) (l0 : List (Int × Int)) (c0 : Nat) (hi0 : OpsR w A0 l0) (hw0 : WideO l0) (hl0 : l0.length ≤ 9223372036854775807) (a1 : Bool) :
    Calls Try.prog 4 #[.slice A0 l0.length c0, .bool a1] w fun e w' => e = .returned (.bool true) ∧ Below w.heap.size w w' := by
  obtain ⟨n, hn⟩ : ∃ n, l0.length = n := ⟨_, rfl⟩
  rw [hn] at hl0 ⊢
  by_cases hb : 200 < n
  · have hbz : (200 : Int) < (n : Int) := by omega
    clear hi0 hw0 hn
    go_enter Try.func4, Try.ntmps4
    go_wp2_with fail
    refine (awake_any _).mono ?_
    rintro e w9 ⟨rfl, hb9⟩
    go_wp2_with fail
    go_ret
    exact ⟨rfl, hb9⟩
  have hbz : ¬ (200 : Int) < (n : Int) := by omega
  have HN := Lib.hid hn
  have HI := Lib.hid hi0
  have HW := Lib.hid hw0
  have hgN := run_guardN
  clear hi0 hw0 hn
  cases a1
  · go_enter Try.func4, Try.ntmps4
    go_wp2_with fail
    refine (new_up _).mono ?_
    rintro e w1 ⟨q, Sq, rfl, hq1, hs1, hb1⟩
    have HQ1 := Lib.hid hq1
    have HS1 := Lib.hid hs1
    have HB1 := Lib.hid hb1
    clear hq1 hs1 hb1
    go_wp2_with fail
    go_loopw [6, 7] (fun vl vi wr => ∃ (k N j : Nat) (L : List It) (S' : Nat → Prop) (B : Option Addr) (d : Nat), k ≤ n ∧ vi = .int .i64 (k : Int) ∧ vl = .slice B j d ∧ Hid (L.length = j) ∧ Hid (j ≤ d) ∧ Hid (N ≤ k ∧ j ≤ k) ∧ Hid (ItsR wr B L) ∧ Hid (QR wr q S' false N (stS (kI false) L)) ∧ Hid (Below w.heap.size w wr) ∧ Hid (∀ x, S' x → w.heap.size ≤ x) ∧ Hid (∀ a, B = some a → 0 < j → ¬ S' a.block)) (fun _ vi _ => n - (intOf vi).toNat)
    case atStart => exact ⟨0, 0, 0, [], Sq, none, 0, by omega, rfl, rfl, Lib.hid rfl, Lib.hid (Nat.le_refl _), Lib.hid ⟨Nat.le_refl _, Nat.le_refl _⟩, Lib.hid (ItsR.nil _ _), HQ1, HB1, HS1, Lib.hid (fun a ha => by cases ha)⟩
    case round =>
      obtain ⟨k, N, j, L, S', B, d, hk, rfl, rfl, HL, HD, HNJ, HR, HQ, HB, HS, HBS⟩ := hrel
      have HNK : Hid (N ≤ 200) := Lib.hid (by have := HNJ.out; omega)
      have HJN : Hid (j ≤ k ∧ j ≤ 200) := Lib.hid ⟨HNJ.out.2, by have := HNJ.out; omega⟩
      have HNK1 : Hid (N ≤ k) := Lib.hid HNJ.out.1
      by_cases hlt : k < n
      · have hltz : (k : Int) < (n : Int) := by omega
        have hkl : k < l0.length := by rw [HN.out]; exact hlt
        obtain ⟨b, o, rfl, hbl, hc⟩ := HI.out (by omega)
        obtain ⟨c0', c1'⟩ := hc k hkl
        have hwk := HW.out k hkl
        rw [← HB.out.cell (p := ⟨b, o + k * 2, none⟩) hbl] at c0'
        rw [← HB.out.cell (p := ⟨b, o + k * 2 + 1, none⟩) hbl] at c1'
        obtain ⟨⟨kd, y⟩, hx⟩ : ∃ x, l0.getD k (0, 0) = x := ⟨_, rfl⟩
        rw [hx] at c0' c1' hwk
        simp only at c0' c1' hwk
        have hbr : b < wr.heap.size := Nat.lt_of_lt_of_le hbl HB.out.size
        clear hkl hc hx
        by_cases hk0 : kd = 0
        · subst hk0
          clear hwk
          have HNK : Hid (N ≤ k ∧ N ≤ 200) := Lib.hid ⟨HNK1.out, HNK.out⟩
          have HPUSH := Lib.hid (fun W (hb : Below wr.heap.size wr W) => push_any q S' false N _ (y, (k : Int)) W (HQ.out.below hb) (by have := HNK.out; omega))
          go_wp2_with fail
          refine (HPUSH.out _ ?_).mono ?_
          · exact (Below.refl _ _).alloc (Nat.le_refl _) _
          rintro e w2 ⟨rfl, S2, hq2, hk2, hs2⟩
          have hv2 : VarI w2 wr.heap.size (y, (k : Int)) := (VarI.made wr (y, (k : Int)) 27).keep hk2 (fun e => by have := HQ.out.lt _ e; omega)
          obtain ⟨v0, v1, v2, v3⟩ := hv2
          simp only at v0 v1
          have k02 : Keep S' wr w2 := (Keep.alloc0 wr _).step hk2
          have HQ2 : Hid (QR w2 q S2 false (N + 1) (stS (kI false) (L ++ [(y, (k : Int))]))) := Lib.hid (by rw [stS_snoc]; exact hq2)
          have HS2 : Hid (∀ x, S2 x → w.heap.size ≤ x) := Lib.hid (fun x e => by
            rcases hs2 x e with h | h
            · exact HS.out x h
            · have := HB.out.size; simp at h; omega)
          have HB2 : Hid (Below w.heap.size w w2) := Lib.hid (HB.out.trans (k02.below HS.out HB.out.size))
          have HR2 : Hid (ItsR w2 B L) := Lib.hid (fun h9 => (HR.out.keep k02 (fun a ha => HBS.out a ha (by rw [← HL.out]; exact h9))) h9)
          obtain ⟨j2, hj2⟩ : ∃ j2, j + 1 = j2 := ⟨_, rfl⟩
          have HPU := Lib.hid (refPush_k B L j d j2 (y, (k : Int)) w2 hj2 HL.out (by have := HJN.out; omega) HR2.out)
          have HL2 : Hid ((L ++ [(y, (k : Int))]).length = j2) := Lib.hid (by rw [List.length_append, HL.out, ← hj2]; rfl)
          have HJ2 : Hid (j2 ≤ 300) := Lib.hid (by have := HJN.out; omega)
          have HNK2 : Hid (N + 1 ≤ k + 1) := Lib.hid (by have := HNK.out; omega)
          clear hq2 hk2 hs2 k02 HPUSH hj2
          go_wp2_with fail
          refine HPU.out.mono ?_
          rintro e w3 ⟨B3, d3, rfl, hd3, hr3, hb3, hbk3⟩
          have HR3 := Lib.hid hr3
          have HQ3 := Lib.hid (HQ2.out.below hb3)
          have HB3 := Lib.hid (Below.step HB2.out hb3)
          have HD3 := Lib.hid hd3
          have HBS3 : Hid (∀ a, B3 = some a → 0 < j2 → ¬ S2 a.block) := Lib.hid (fun a ha _ e => by have := hbk3 a ha; have := HQ2.out.lt _ e; omega)
          have HNJ3 : Hid (N + 1 ≤ k + 1 ∧ j2 ≤ k + 1) := Lib.hid ⟨HNK2.out, by have := HQ3.out.len.1; rw [stS_length, HL2.out] at this; have := HNK2.out; omega⟩
          clear hr3 hb3 hbk3 hd3 HPU HQ2 HB2 HR2
          go_wp2_with fail
          refine (len_any q S2 false (N + 1) j2 _ _ HQ3.out (by rw [stS_length]; exact HL2.out)).mono ?_
          rintro e w' ⟨rfl, rfl⟩
          go_wp2_with fail
          go_roundw
          case rel => exact ⟨k + 1, (N + 1), j2, L ++ [(y, (k : Int))], S2, B3, d3, by omega, by go_num, rfl, HL2, HD3, HNJ3, HR3, HQ3, HB3, HS2, HBS3⟩
          case measure => simp only [intOf]; omega
        · have hk0b : (kd == 0) = false := beq_eq_false_iff_ne.2 hk0
          have HNK : Hid (N ≤ k ∧ N ≤ 200) := Lib.hid ⟨HNK1.out, HNK.out⟩
          by_cases hk1 : kd = 1
          · subst hk1
            clear hwk c1'
            by_cases hj0 : j = 0
            · obtain rfl : L = [] := List.eq_nil_of_length_eq_zero (by rw [HL.out]; exact hj0)
              have hj00 : j = 0 := hj0
              subst hj00
              have hne := run_neqI 0 0
              have HQE : Hid (QR wr q S' false N []) := HQ
              have HLT := Lib.hid HQ.out.lt
              go_wp2_with fail
              refine (refPop_nil false d B wr).mono ?_
              rintro e w2 ⟨rfl, hb2⟩
              have HQ2 := Lib.hid ((HQE.out.below hb2).below ((Below.refl _ _).alloc (Nat.le_refl _) (.cells #[.int .i64 0, .int .i64 0] 27)))
              have HB2 := Lib.hid (Below.step HB.out (hb2.alloc hb2.size (.cells #[.int .i64 0, .int .i64 0] 27)))
              have hw2 := hb2.size
              clear hb2
              go_wp2_with fail
              refine (pop_any q S' false N [] _ HQ2.out (by have := HNK.out; omega)).mono ?_
              rintro e w3 ⟨rfl, hq3, hk3⟩
              unfold hdV
              have hv3 : VarI w3 w2.heap.size (0, 0) := (VarI.made w2 (0, 0) 27).keep hk3 (fun e => by have := HLT.out _ e; omega)
              have HQ3 : Hid (QR w3 q S' false N []) := Lib.hid hq3
              have HB3 := Lib.hid (HB2.out.trans (hk3.below HS.out HB2.out.size))
              clear hq3 hk3
              obtain ⟨v0, v1, v2, v3⟩ := hv3
              simp only at v0 v1
              have hw23 : w2.heap.size < w3.heap.size := World.block_lt_of_cell? _ _ v0
              have HQ4 : Hid (QR _ q S' false N (stS (kI false) [])) := Lib.hid (HQ3.out.below ((Below.refl _ _).alloc (Nat.le_refl _) (.cells #[.int .i64 0, .int .i64 0] 27)))
              have HB4 := Lib.hid (HB3.out.alloc HB3.out.size (.cells #[.int .i64 0, .int .i64 0] 27))
              have HNJ4 : Hid (N ≤ k + 1 ∧ 0 ≤ k + 1) := Lib.hid ⟨by have := HNK.out; omega, by omega⟩
              have HR4 : Hid (ItsR (w3.alloc (.cells #[.int .i64 0, .int .i64 0] 27)) none []) := Lib.hid (ItsR.nil _ _)
              have HBS4 : Hid (∀ a, (none : Option Addr) = some a → 0 < 0 → ¬ S' a.block) := Lib.hid (fun a ha => by cases ha)
              have HD4 : Hid (0 ≤ 0) := Lib.hid (Nat.le_refl _)
              go_wp2_with fail
              refine (len_any q S' false N 0 _ _ HQ4.out (by rw [stS_length]; exact HL.out)).mono ?_
              rintro e w' ⟨rfl, rfl⟩
              go_wp2_with fail
              go_roundw
              case rel => exact ⟨k + 1, N, 0, [], S', none, 0, by omega, by go_num, rfl, HL, HD4, HNJ4, HR4, HQ4, HB4, HS, HBS4⟩
              case measure => simp only [intOf]; omega
            · have hst := stS_first false L (by rw [HL.out]; omega)
              rw [HL.out] at hst
              obtain ⟨j2, hj2⟩ : ∃ j2, j2 + 1 = j := ⟨j - 1, by omega⟩
              have hfl := fI_lt false L j (by omega)
              obtain ⟨f, hf⟩ : ∃ f, fI false L j = f := ⟨_, rfl⟩
              obtain ⟨x, hx⟩ : ∃ x, L.getD f (0, 0) = x := ⟨_, rfl⟩
              rw [hf, hx] at hst
              rw [hf] at hfl
              have hne := run_neqI x.1 x.2
              have HPP := Lib.hid (refPop_k false L j j2 d f x B wr hj2 hf hx HL.out (by have := HJN.out; omega) HD.out HR.out)
              have HQE : Hid (QR wr q S' false N (x :: stS (kI false) (L.eraseIdx f))) := Lib.hid (by rw [← hst]; exact HQ.out)
              have HST := Lib.hid hst
              have HLT := Lib.hid HQ.out.lt
              have HL2 : Hid ((L.eraseIdx f).length = j2) := Lib.hid (by rw [List.length_eraseIdx, if_pos (by rw [HL.out]; exact hfl), HL.out]; omega)
              have HJ2 := Lib.hid hj2
              clear hst hfl hf hx hj2
              go_wp2_with fail
              refine HPP.out.mono ?_
              rintro e w2 ⟨B2, d2, rfl, hd2, hr2, hb2, hbk2⟩
              have HQ2 := Lib.hid ((HQE.out.below hb2).below ((Below.refl _ _).alloc (Nat.le_refl _) (.cells #[.int .i64 x.1, .int .i64 x.2] 27)))
              have HB2 := Lib.hid (Below.step HB.out (hb2.alloc hb2.size (.cells #[.int .i64 x.1, .int .i64 x.2] 27)))
              have hw2 := hb2.size
              have HR2 : Hid (ItsR (w2.alloc (.cells #[.int .i64 x.1, .int .i64 x.2] 27)) B2 (L.eraseIdx f)) := Lib.hid (hr2.below ((Below.refl _ _).alloc (Nat.le_refl _) _))
              have HRB2 : Hid (ItsR (w2.alloc (.cells #[.int .i64 x.1, .int .i64 x.2] 27)) B L) := Lib.hid ((HR.out.below hb2).below ((Below.refl _ _).alloc (Nat.le_refl _) _))
              have HD2 := Lib.hid hd2
              have HBS2 : Hid (∀ a, B2 = some a → ¬ S' a.block) := Lib.hid (fun a ha e => by have := hbk2 a ha; have := HLT.out _ e; omega)
              clear hb2 hr2 hbk2 hd2 HPP
              go_wp2_with fail
              refine (pop_any q S' false N (x :: stS (kI false) (L.eraseIdx f)) _ HQ2.out (by have := HNK.out; omega)).mono ?_
              rintro e w3 ⟨rfl, hq3, hk3⟩
              unfold hdV
              have hv3 : VarI w3 w2.heap.size x := (VarI.made w2 x 27).keep hk3 (fun e => by have := HLT.out _ e; omega)
              have HQ3 : Hid (QR w3 q S' false N (stS (kI false) (L.eraseIdx f))) := Lib.hid hq3
              have HB3 := Lib.hid (HB2.out.trans (hk3.below HS.out HB2.out.size))
              have HR3 := Lib.hid (HR2.out.keep hk3 HBS2.out)
              clear hq3 hk3
              obtain ⟨v0, v1, v2, v3⟩ := hv3
              have hw23 : w2.heap.size < w3.heap.size := World.block_lt_of_cell? _ _ v0
              have HQ4 := Lib.hid (HQ3.out.below ((Below.refl _ _).alloc (Nat.le_refl _) (.cells #[.int .i64 x.1, .int .i64 x.2] 27)))
              have HB4 := Lib.hid (HB3.out.alloc HB3.out.size (.cells #[.int .i64 x.1, .int .i64 x.2] 27))
              have HR4 := Lib.hid (HR3.out.below ((Below.refl _ _).alloc (Nat.le_refl _) (.cells #[.int .i64 x.1, .int .i64 x.2] 27)))
              have HNJ4 : Hid (N ≤ k + 1 ∧ j2 ≤ k + 1) := Lib.hid ⟨by have := HNK.out; omega, by have := HJN.out; have := HJ2.out; omega⟩
              have HBS4 : Hid (∀ a, B2 = some a → 0 < j2 → ¬ S' a.block) := Lib.hid (fun a ha _ => HBS2.out a ha)
              go_wp2_with fail
              refine (len_any q S' false N j2 _ _ HQ4.out (by rw [stS_length]; exact HL2.out)).mono ?_
              rintro e w' ⟨rfl, rfl⟩
              go_wp2_with fail
              go_roundw
              case rel => exact ⟨k + 1, N, j2, L.eraseIdx f, S', B2, d2, by omega, by go_num, rfl, HL2, HD2, HNJ4, HR4, HQ4, HB4, HS, HBS4⟩
              case measure => simp only [intOf]; omega
          · have hk1b : (kd == 1) = false := beq_eq_false_iff_ne.2 hk1
            clear hwk c1'
            by_cases hj0 : j = 0
            · obtain rfl : L = [] := List.eq_nil_of_length_eq_zero (by rw [HL.out]; exact hj0)
              have hj00 : j = 0 := hj0
              subst hj00
              have hne := run_neqI 0 0
              have HQE : Hid (QR wr q S' false N []) := HQ
              have HLT := Lib.hid HQ.out.lt
              go_wp2_with fail
              refine (refPop_nil false d B wr).mono ?_
              rintro e w2 ⟨rfl, hb2⟩
              have HQ2 := Lib.hid ((HQE.out.below hb2).below ((Below.refl _ _).alloc (Nat.le_refl _) (.cells #[.int .i64 0, .int .i64 0] 27)))
              have HB2 := Lib.hid (Below.step HB.out (hb2.alloc hb2.size (.cells #[.int .i64 0, .int .i64 0] 27)))
              have hw2 := hb2.size
              clear hb2
              go_wp2_with fail
              refine (peek_any q S' false N [] _ HQ2.out (by have := HNK.out; omega)).mono ?_
              rintro e w3 ⟨rfl, hb3⟩
              unfold hdV
              have hv3 : VarI w3 w2.heap.size (0, 0) := (VarI.made w2 (0, 0) 27).below hb3
              have HQ3 := Lib.hid (HQ2.out.below hb3)
              have HB3 := Lib.hid (Below.step HB2.out hb3)
              clear hb3
              obtain ⟨v0, v1, v2, v3⟩ := hv3
              simp only at v0 v1
              have hw23 : w2.heap.size < w3.heap.size := World.block_lt_of_cell? _ _ v0
              have HQ4 : Hid (QR _ q S' false N (stS (kI false) [])) := Lib.hid (HQ3.out.below ((Below.refl _ _).alloc (Nat.le_refl _) (.cells #[.int .i64 0, .int .i64 0] 27)))
              have HB4 := Lib.hid (HB3.out.alloc HB3.out.size (.cells #[.int .i64 0, .int .i64 0] 27))
              have HNJ4 : Hid (N ≤ k + 1 ∧ 0 ≤ k + 1) := Lib.hid ⟨by have := HNK.out; omega, by omega⟩
              have HR4 : Hid (ItsR (w3.alloc (.cells #[.int .i64 0, .int .i64 0] 27)) B []) := Lib.hid (ItsR.nil _ _)
              go_wp2_with fail
              refine (len_any q S' false N 0 _ _ HQ4.out (by rw [stS_length]; exact HL.out)).mono ?_
              rintro e w' ⟨rfl, rfl⟩
              go_wp2_with fail
              go_roundw
              case rel => exact ⟨k + 1, N, 0, [], S', B, d, by omega, by go_num, rfl, HL, HD, HNJ4, HR4, HQ4, HB4, HS, HBS⟩
              case measure => simp only [intOf]; omega
            · have hst := stS_first false L (by rw [HL.out]; omega)
              rw [HL.out] at hst
              obtain ⟨j2, hj2⟩ : ∃ j2, j2 + 1 = j := ⟨j - 1, by omega⟩
              have hfl := fI_lt false L j (by omega)
              obtain ⟨f, hf⟩ : ∃ f, fI false L j = f := ⟨_, rfl⟩
              obtain ⟨x, hx⟩ : ∃ x, L.getD f (0, 0) = x := ⟨_, rfl⟩
              rw [hf, hx] at hst
              rw [hf] at hfl
              have hne := run_neqI x.1 x.2
              have HPP := Lib.hid (refPop_k false L j j2 d f x B wr hj2 hf hx HL.out (by have := HJN.out; omega) HD.out HR.out)
              have HQE : Hid (QR wr q S' false N (x :: stS (kI false) (L.eraseIdx f))) := Lib.hid (by rw [← hst]; exact HQ.out)
              have HST := Lib.hid hst
              have HLT := Lib.hid HQ.out.lt
              have HL2 : Hid ((L.eraseIdx f).length = j2) := Lib.hid (by rw [List.length_eraseIdx, if_pos (by rw [HL.out]; exact hfl), HL.out]; omega)
              have HJ2 := Lib.hid hj2
              clear hst hfl hf hx hj2
              go_wp2_with fail
              refine HPP.out.mono ?_
              rintro e w2 ⟨B2, d2, rfl, hd2, hr2, hb2, hbk2⟩
              have HQ2 := Lib.hid ((HQE.out.below hb2).below ((Below.refl _ _).alloc (Nat.le_refl _) (.cells #[.int .i64 x.1, .int .i64 x.2] 27)))
              have HB2 := Lib.hid (Below.step HB.out (hb2.alloc hb2.size (.cells #[.int .i64 x.1, .int .i64 x.2] 27)))
              have hw2 := hb2.size
              have HR2 : Hid (ItsR (w2.alloc (.cells #[.int .i64 x.1, .int .i64 x.2] 27)) B2 (L.eraseIdx f)) := Lib.hid (hr2.below ((Below.refl _ _).alloc (Nat.le_refl _) _))
              have HRB2 : Hid (ItsR (w2.alloc (.cells #[.int .i64 x.1, .int .i64 x.2] 27)) B L) := Lib.hid ((HR.out.below hb2).below ((Below.refl _ _).alloc (Nat.le_refl _) _))
              have HD2 := Lib.hid hd2
              have HBS2 : Hid (∀ a, B2 = some a → ¬ S' a.block) := Lib.hid (fun a ha e => by have := hbk2 a ha; have := HLT.out _ e; omega)
              clear hb2 hr2 hbk2 hd2 HPP
              go_wp2_with fail
              refine (peek_any q S' false N (x :: stS (kI false) (L.eraseIdx f)) _ HQ2.out (by have := HNK.out; omega)).mono ?_
              rintro e w3 ⟨rfl, hb3⟩
              unfold hdV
              have hv3 : VarI w3 w2.heap.size x := (VarI.made w2 x 27).below hb3
              have HQ3 : Hid (QR w3 q S' false N (stS (kI false) L)) := Lib.hid (by rw [HST.out]; exact HQ2.out.below hb3)
              have HB3 := Lib.hid (Below.step HB2.out hb3)
              have HR3 := Lib.hid (HRB2.out.below hb3)
              clear hb3
              obtain ⟨v0, v1, v2, v3⟩ := hv3
              have hw23 : w2.heap.size < w3.heap.size := World.block_lt_of_cell? _ _ v0
              have HQ4 := Lib.hid (HQ3.out.below ((Below.refl _ _).alloc (Nat.le_refl _) (.cells #[.int .i64 x.1, .int .i64 x.2] 27)))
              have HB4 := Lib.hid (HB3.out.alloc HB3.out.size (.cells #[.int .i64 x.1, .int .i64 x.2] 27))
              have HR4 := Lib.hid (HR3.out.below ((Below.refl _ _).alloc (Nat.le_refl _) (.cells #[.int .i64 x.1, .int .i64 x.2] 27)))
              have HNJ4 : Hid (N ≤ k + 1 ∧ j ≤ k + 1) := Lib.hid ⟨by have := HNK.out; omega, by have := HJN.out; omega⟩
              go_wp2_with fail
              refine (len_any q S' false N j _ _ HQ4.out (by rw [stS_length]; exact HL.out)).mono ?_
              rintro e w' ⟨rfl, rfl⟩
              go_wp2_with fail
              go_roundw
              case rel => exact ⟨k + 1, N, j, L, S', B, d, by omega, by go_num, rfl, HL, HD, HNJ4, HR4, HQ4, HB4, HS, HBS⟩
              case measure => simp only [intOf]; omega
      · obtain rfl : k = n := by omega
        have hnlt : ¬ (k : Int) < (k : Int) := by omega
        have HLV : Hid ((stS (kI false) L).length = j) := Lib.hid (by rw [stS_length, HL.out])
        have hj200 : j ≤ 200 := HJN.out.2
        go_wp2_with fail
        refine (drainAll_any q S' false N _ j wr HQ.out (by have := HNK.out; omega) HLV.out).mono ?_
        rintro e w2 ⟨B2, d2, rfl, hr2, hq2, hk2, hbk2⟩
        have HR2 := Lib.hid hr2
        have HRL2 : Hid (ItsR w2 B L) := Lib.hid (fun h9 => (HR.out.keep hk2 (fun a ha => HBS.out a ha (by rw [← HL.out]; exact h9))) h9)
        have HB2 := Lib.hid (HB.out.trans (hk2.below HS.out HB.out.size))
        clear hr2 hq2 hk2 hbk2
        go_wp2_with fail
        refine (refAll_any false L j d B w2 HL.out (by have := HJN.out; omega) HD.out HRL2.out).mono ?_
        rintro e w3 ⟨B3, d3, rfl, hd3, hr3, hb3, _⟩
        have HR3 := Lib.hid hr3
        have HRX3 := Lib.hid (HR2.out.below hb3)
        have HB3 := Lib.hid (Below.step HB2.out hb3)
        clear hr3 hb3
        go_wp2_with fail
        refine (same_any _ _ rfl B2 B3 j d2 d3 _ HLV.out (by have := HJN.out; omega) HRX3.out HR3.out).mono ?_
        rintro e w4 ⟨rfl, hb4⟩
        have HB4 := Lib.hid (Below.step HB3.out hb4)
        clear hb4
        go_wp2_with fail
        refine (awake_any _).mono ?_
        rintro e w5 ⟨rfl, hb5⟩
        have HB5 := Lib.hid (Below.step HB4.out hb5)
        clear hb5
        go_wp2_with fail
        go_ret
        exact ⟨rfl, HB5.out⟩
  · go_enter Try.func4, Try.ntmps4
    go_wp2_with fail
    refine (new_up _).mono ?_
    rintro e w0 ⟨q0, Sq0, rfl, hq0, hs0, hb0⟩
    clear hq0 hs0
    go_wp2_with fail
    refine (new_down _).mono ?_
    rintro e w1 ⟨q, Sq, rfl, hq1, hs1', hb1'⟩
    have hs1 : ∀ k, Sq k → w.heap.size ≤ k := fun k e => Nat.le_trans hb0.size (hs1' k e)
    have hb1 := Below.step hb0 hb1'
    clear hs1' hb1' hb0
    have HQ1 := Lib.hid hq1
    have HS1 := Lib.hid hs1
    have HB1 := Lib.hid hb1
    clear hq1 hs1 hb1
    go_wp2_with fail
    go_loopw [6, 7] (fun vl vi wr => ∃ (k N j : Nat) (L : List It) (S' : Nat → Prop) (B : Option Addr) (d : Nat), k ≤ n ∧ vi = .int .i64 (k : Int) ∧ vl = .slice B j d ∧ Hid (L.length = j) ∧ Hid (j ≤ d) ∧ Hid (N ≤ k ∧ j ≤ k) ∧ Hid (ItsR wr B L) ∧ Hid (QR wr q S' true N (stS (kI true) L)) ∧ Hid (Below w.heap.size w wr) ∧ Hid (∀ x, S' x → w.heap.size ≤ x) ∧ Hid (∀ a, B = some a → 0 < j → ¬ S' a.block)) (fun _ vi _ => n - (intOf vi).toNat)
    case atStart => exact ⟨0, 0, 0, [], Sq, none, 0, by omega, rfl, rfl, Lib.hid rfl, Lib.hid (Nat.le_refl _), Lib.hid ⟨Nat.le_refl _, Nat.le_refl _⟩, Lib.hid (ItsR.nil _ _), HQ1, HB1, HS1, Lib.hid (fun a ha => by cases ha)⟩
    case round =>
      obtain ⟨k, N, j, L, S', B, d, hk, rfl, rfl, HL, HD, HNJ, HR, HQ, HB, HS, HBS⟩ := hrel
      have HNK : Hid (N ≤ 200) := Lib.hid (by have := HNJ.out; omega)
      have HJN : Hid (j ≤ k ∧ j ≤ 200) := Lib.hid ⟨HNJ.out.2, by have := HNJ.out; omega⟩
      have HNK1 : Hid (N ≤ k) := Lib.hid HNJ.out.1
      by_cases hlt : k < n
      · have hltz : (k : Int) < (n : Int) := by omega
        have hkl : k < l0.length := by rw [HN.out]; exact hlt
        obtain ⟨b, o, rfl, hbl, hc⟩ := HI.out (by omega)
        obtain ⟨c0', c1'⟩ := hc k hkl
        have hwk := HW.out k hkl
        rw [← HB.out.cell (p := ⟨b, o + k * 2, none⟩) hbl] at c0'
        rw [← HB.out.cell (p := ⟨b, o + k * 2 + 1, none⟩) hbl] at c1'
        obtain ⟨⟨kd, y⟩, hx⟩ : ∃ x, l0.getD k (0, 0) = x := ⟨_, rfl⟩
        rw [hx] at c0' c1' hwk
        simp only at c0' c1' hwk
        have hbr : b < wr.heap.size := Nat.lt_of_lt_of_le hbl HB.out.size
        clear hkl hc hx
        by_cases hk0 : kd = 0
        · subst hk0
          clear hwk
          have HNK : Hid (N ≤ k ∧ N ≤ 200) := Lib.hid ⟨HNK1.out, HNK.out⟩
          have HPUSH := Lib.hid (fun W (hb : Below wr.heap.size wr W) => push_any q S' true N _ (y, (k : Int)) W (HQ.out.below hb) (by have := HNK.out; omega))
          go_wp2_with fail
          refine (HPUSH.out _ ?_).mono ?_
          · exact (Below.refl _ _).alloc (Nat.le_refl _) _
          rintro e w2 ⟨rfl, S2, hq2, hk2, hs2⟩
          have hv2 : VarI w2 wr.heap.size (y, (k : Int)) := (VarI.made wr (y, (k : Int)) 27).keep hk2 (fun e => by have := HQ.out.lt _ e; omega)
          obtain ⟨v0, v1, v2, v3⟩ := hv2
          simp only at v0 v1
          have k02 : Keep S' wr w2 := (Keep.alloc0 wr _).step hk2
          have HQ2 : Hid (QR w2 q S2 true (N + 1) (stS (kI true) (L ++ [(y, (k : Int))]))) := Lib.hid (by rw [stS_snoc]; exact hq2)
          have HS2 : Hid (∀ x, S2 x → w.heap.size ≤ x) := Lib.hid (fun x e => by
            rcases hs2 x e with h | h
            · exact HS.out x h
            · have := HB.out.size; simp at h; omega)
          have HB2 : Hid (Below w.heap.size w w2) := Lib.hid (HB.out.trans (k02.below HS.out HB.out.size))
          have HR2 : Hid (ItsR w2 B L) := Lib.hid (fun h9 => (HR.out.keep k02 (fun a ha => HBS.out a ha (by rw [← HL.out]; exact h9))) h9)
          obtain ⟨j2, hj2⟩ : ∃ j2, j + 1 = j2 := ⟨_, rfl⟩
          have HPU := Lib.hid (refPush_k B L j d j2 (y, (k : Int)) w2 hj2 HL.out (by have := HJN.out; omega) HR2.out)
          have HL2 : Hid ((L ++ [(y, (k : Int))]).length = j2) := Lib.hid (by rw [List.length_append, HL.out, ← hj2]; rfl)
          have HJ2 : Hid (j2 ≤ 300) := Lib.hid (by have := HJN.out; omega)
          have HNK2 : Hid (N + 1 ≤ k + 1) := Lib.hid (by have := HNK.out; omega)
          clear hq2 hk2 hs2 k02 HPUSH hj2
          go_wp2_with fail
          refine HPU.out.mono ?_
          rintro e w3 ⟨B3, d3, rfl, hd3, hr3, hb3, hbk3⟩
          have HR3 := Lib.hid hr3
          have HQ3 := Lib.hid (HQ2.out.below hb3)
          have HB3 := Lib.hid (Below.step HB2.out hb3)
          have HD3 := Lib.hid hd3
          have HBS3 : Hid (∀ a, B3 = some a → 0 < j2 → ¬ S2 a.block) := Lib.hid (fun a ha _ e => by have := hbk3 a ha; have := HQ2.out.lt _ e; omega)
          have HNJ3 : Hid (N + 1 ≤ k + 1 ∧ j2 ≤ k + 1) := Lib.hid ⟨HNK2.out, by have := HQ3.out.len.1; rw [stS_length, HL2.out] at this; have := HNK2.out; omega⟩
          clear hr3 hb3 hbk3 hd3 HPU HQ2 HB2 HR2
          go_wp2_with fail
          refine (len_any q S2 true (N + 1) j2 _ _ HQ3.out (by rw [stS_length]; exact HL2.out)).mono ?_
          rintro e w' ⟨rfl, rfl⟩
          go_wp2_with fail
          go_roundw
          case rel => exact ⟨k + 1, (N + 1), j2, L ++ [(y, (k : Int))], S2, B3, d3, by omega, by go_num, rfl, HL2, HD3, HNJ3, HR3, HQ3, HB3, HS2, HBS3⟩
          case measure => simp only [intOf]; omega
        · have hk0b : (kd == 0) = false := beq_eq_false_iff_ne.2 hk0
          have HNK : Hid (N ≤ k ∧ N ≤ 200) := Lib.hid ⟨HNK1.out, HNK.out⟩
          by_cases hk1 : kd = 1
          · subst hk1
            clear hwk c1'
            by_cases hj0 : j = 0
            · obtain rfl : L = [] := List.eq_nil_of_length_eq_zero (by rw [HL.out]; exact hj0)
              have hj00 : j = 0 := hj0
              subst hj00
              have hne := run_neqI 0 0
              have HQE : Hid (QR wr q S' true N []) := HQ
              have HLT := Lib.hid HQ.out.lt
              go_wp2_with fail
              refine (refPop_nil true d B wr).mono ?_
              rintro e w2 ⟨rfl, hb2⟩
              have HQ2 := Lib.hid ((HQE.out.below hb2).below ((Below.refl _ _).alloc (Nat.le_refl _) (.cells #[.int .i64 0, .int .i64 0] 27)))
              have HB2 := Lib.hid (Below.step HB.out (hb2.alloc hb2.size (.cells #[.int .i64 0, .int .i64 0] 27)))
              have hw2 := hb2.size
              clear hb2
              go_wp2_with fail
              refine (pop_any q S' true N [] _ HQ2.out (by have := HNK.out; omega)).mono ?_
              rintro e w3 ⟨rfl, hq3, hk3⟩
              unfold hdV
              have hv3 : VarI w3 w2.heap.size (0, 0) := (VarI.made w2 (0, 0) 27).keep hk3 (fun e => by have := HLT.out _ e; omega)
              have HQ3 : Hid (QR w3 q S' true N []) := Lib.hid hq3
              have HB3 := Lib.hid (HB2.out.trans (hk3.below HS.out HB2.out.size))
              clear hq3 hk3
              obtain ⟨v0, v1, v2, v3⟩ := hv3
              simp only at v0 v1
              have hw23 : w2.heap.size < w3.heap.size := World.block_lt_of_cell? _ _ v0
              have HQ4 : Hid (QR _ q S' true N (stS (kI true) [])) := Lib.hid (HQ3.out.below ((Below.refl _ _).alloc (Nat.le_refl _) (.cells #[.int .i64 0, .int .i64 0] 27)))
              have HB4 := Lib.hid (HB3.out.alloc HB3.out.size (.cells #[.int .i64 0, .int .i64 0] 27))
              have HNJ4 : Hid (N ≤ k + 1 ∧ 0 ≤ k + 1) := Lib.hid ⟨by have := HNK.out; omega, by omega⟩
              have HR4 : Hid (ItsR (w3.alloc (.cells #[.int .i64 0, .int .i64 0] 27)) none []) := Lib.hid (ItsR.nil _ _)
              have HBS4 : Hid (∀ a, (none : Option Addr) = some a → 0 < 0 → ¬ S' a.block) := Lib.hid (fun a ha => by cases ha)
              have HD4 : Hid (0 ≤ 0) := Lib.hid (Nat.le_refl _)
              go_wp2_with fail
              refine (len_any q S' true N 0 _ _ HQ4.out (by rw [stS_length]; exact HL.out)).mono ?_
              rintro e w' ⟨rfl, rfl⟩
              go_wp2_with fail
              go_roundw
              case rel => exact ⟨k + 1, N, 0, [], S', none, 0, by omega, by go_num, rfl, HL, HD4, HNJ4, HR4, HQ4, HB4, HS, HBS4⟩
              case measure => simp only [intOf]; omega
            · have hst := stS_first true L (by rw [HL.out]; omega)
              rw [HL.out] at hst
              obtain ⟨j2, hj2⟩ : ∃ j2, j2 + 1 = j := ⟨j - 1, by omega⟩
              have hfl := fI_lt true L j (by omega)
              obtain ⟨f, hf⟩ : ∃ f, fI true L j = f := ⟨_, rfl⟩
              obtain ⟨x, hx⟩ : ∃ x, L.getD f (0, 0) = x := ⟨_, rfl⟩
              rw [hf, hx] at hst
              rw [hf] at hfl
              have hne := run_neqI x.1 x.2
              have HPP := Lib.hid (refPop_k true L j j2 d f x B wr hj2 hf hx HL.out (by have := HJN.out; omega) HD.out HR.out)
              have HQE : Hid (QR wr q S' true N (x :: stS (kI true) (L.eraseIdx f))) := Lib.hid (by rw [← hst]; exact HQ.out)
              have HST := Lib.hid hst
              have HLT := Lib.hid HQ.out.lt
              have HL2 : Hid ((L.eraseIdx f).length = j2) := Lib.hid (by rw [List.length_eraseIdx, if_pos (by rw [HL.out]; exact hfl), HL.out]; omega)
              have HJ2 := Lib.hid hj2
              clear hst hfl hf hx hj2
              go_wp2_with fail
              refine HPP.out.mono ?_
              rintro e w2 ⟨B2, d2, rfl, hd2, hr2, hb2, hbk2⟩
              have HQ2 := Lib.hid ((HQE.out.below hb2).below ((Below.refl _ _).alloc (Nat.le_refl _) (.cells #[.int .i64 x.1, .int .i64 x.2] 27)))
              have HB2 := Lib.hid (Below.step HB.out (hb2.alloc hb2.size (.cells #[.int .i64 x.1, .int .i64 x.2] 27)))
              have hw2 := hb2.size
              have HR2 : Hid (ItsR (w2.alloc (.cells #[.int .i64 x.1, .int .i64 x.2] 27)) B2 (L.eraseIdx f)) := Lib.hid (hr2.below ((Below.refl _ _).alloc (Nat.le_refl _) _))
              have HRB2 : Hid (ItsR (w2.alloc (.cells #[.int .i64 x.1, .int .i64 x.2] 27)) B L) := Lib.hid ((HR.out.below hb2).below ((Below.refl _ _).alloc (Nat.le_refl _) _))
              have HD2 := Lib.hid hd2
              have HBS2 : Hid (∀ a, B2 = some a → ¬ S' a.block) := Lib.hid (fun a ha e => by have := hbk2 a ha; have := HLT.out _ e; omega)
              clear hb2 hr2 hbk2 hd2 HPP
              go_wp2_with fail
              refine (pop_any q S' true N (x :: stS (kI true) (L.eraseIdx f)) _ HQ2.out (by have := HNK.out; omega)).mono ?_
              rintro e w3 ⟨rfl, hq3, hk3⟩
              unfold hdV
              have hv3 : VarI w3 w2.heap.size x := (VarI.made w2 x 27).keep hk3 (fun e => by have := HLT.out _ e; omega)
              have HQ3 : Hid (QR w3 q S' true N (stS (kI true) (L.eraseIdx f))) := Lib.hid hq3
              have HB3 := Lib.hid (HB2.out.trans (hk3.below HS.out HB2.out.size))
              have HR3 := Lib.hid (HR2.out.keep hk3 HBS2.out)
              clear hq3 hk3
              obtain ⟨v0, v1, v2, v3⟩ := hv3
              have hw23 : w2.heap.size < w3.heap.size := World.block_lt_of_cell? _ _ v0
              have HQ4 := Lib.hid (HQ3.out.below ((Below.refl _ _).alloc (Nat.le_refl _) (.cells #[.int .i64 x.1, .int .i64 x.2] 27)))
              have HB4 := Lib.hid (HB3.out.alloc HB3.out.size (.cells #[.int .i64 x.1, .int .i64 x.2] 27))
              have HR4 := Lib.hid (HR3.out.below ((Below.refl _ _).alloc (Nat.le_refl _) (.cells #[.int .i64 x.1, .int .i64 x.2] 27)))
              have HNJ4 : Hid (N ≤ k + 1 ∧ j2 ≤ k + 1) := Lib.hid ⟨by have := HNK.out; omega, by have := HJN.out; have := HJ2.out; omega⟩
              have HBS4 : Hid (∀ a, B2 = some a → 0 < j2 → ¬ S' a.block) := Lib.hid (fun a ha _ => HBS2.out a ha)
              go_wp2_with fail
              refine (len_any q S' true N j2 _ _ HQ4.out (by rw [stS_length]; exact HL2.out)).mono ?_
              rintro e w' ⟨rfl, rfl⟩
              go_wp2_with fail
              go_roundw
              case rel => exact ⟨k + 1, N, j2, L.eraseIdx f, S', B2, d2, by omega, by go_num, rfl, HL2, HD2, HNJ4, HR4, HQ4, HB4, HS, HBS4⟩
              case measure => simp only [intOf]; omega
          · have hk1b : (kd == 1) = false := beq_eq_false_iff_ne.2 hk1
            clear hwk c1'
            by_cases hj0 : j = 0
            · obtain rfl : L = [] := List.eq_nil_of_length_eq_zero (by rw [HL.out]; exact hj0)
              have hj00 : j = 0 := hj0
              subst hj00
              have hne := run_neqI 0 0
              have HQE : Hid (QR wr q S' true N []) := HQ
              have HLT := Lib.hid HQ.out.lt
              go_wp2_with fail
              refine (refPop_nil true d B wr).mono ?_
              rintro e w2 ⟨rfl, hb2⟩
              have HQ2 := Lib.hid ((HQE.out.below hb2).below ((Below.refl _ _).alloc (Nat.le_refl _) (.cells #[.int .i64 0, .int .i64 0] 27)))
              have HB2 := Lib.hid (Below.step HB.out (hb2.alloc hb2.size (.cells #[.int .i64 0, .int .i64 0] 27)))
              have hw2 := hb2.size
              clear hb2
              go_wp2_with fail
              refine (peek_any q S' true N [] _ HQ2.out (by have := HNK.out; omega)).mono ?_
              rintro e w3 ⟨rfl, hb3⟩
              unfold hdV
              have hv3 : VarI w3 w2.heap.size (0, 0) := (VarI.made w2 (0, 0) 27).below hb3
              have HQ3 := Lib.hid (HQ2.out.below hb3)
              have HB3 := Lib.hid (Below.step HB2.out hb3)
              clear hb3
              obtain ⟨v0, v1, v2, v3⟩ := hv3
              simp only at v0 v1
              have hw23 : w2.heap.size < w3.heap.size := World.block_lt_of_cell? _ _ v0
              have HQ4 : Hid (QR _ q S' true N (stS (kI true) [])) := Lib.hid (HQ3.out.below ((Below.refl _ _).alloc (Nat.le_refl _) (.cells #[.int .i64 0, .int .i64 0] 27)))
              have HB4 := Lib.hid (HB3.out.alloc HB3.out.size (.cells #[.int .i64 0, .int .i64 0] 27))
              have HNJ4 : Hid (N ≤ k + 1 ∧ 0 ≤ k + 1) := Lib.hid ⟨by have := HNK.out; omega, by omega⟩
              have HR4 : Hid (ItsR (w3.alloc (.cells #[.int .i64 0, .int .i64 0] 27)) B []) := Lib.hid (ItsR.nil _ _)
              go_wp2_with fail
              refine (len_any q S' true N 0 _ _ HQ4.out (by rw [stS_length]; exact HL.out)).mono ?_
              rintro e w' ⟨rfl, rfl⟩
              go_wp2_with fail
              go_roundw
              case rel => exact ⟨k + 1, N, 0, [], S', B, d, by omega, by go_num, rfl, HL, HD, HNJ4, HR4, HQ4, HB4, HS, HBS⟩
              case measure => simp only [intOf]; omega
            · have hst := stS_first true L (by rw [HL.out]; omega)
              rw [HL.out] at hst
              obtain ⟨j2, hj2⟩ : ∃ j2, j2 + 1 = j := ⟨j - 1, by omega⟩
              have hfl := fI_lt true L j (by omega)
              obtain ⟨f, hf⟩ : ∃ f, fI true L j = f := ⟨_, rfl⟩
              obtain ⟨x, hx⟩ : ∃ x, L.getD f (0, 0) = x := ⟨_, rfl⟩
              rw [hf, hx] at hst
              rw [hf] at hfl
              have hne := run_neqI x.1 x.2
              have HPP := Lib.hid (refPop_k true L j j2 d f x B wr hj2 hf hx HL.out (by have := HJN.out; omega) HD.out HR.out)
              have HQE : Hid (QR wr q S' true N (x :: stS (kI true) (L.eraseIdx f))) := Lib.hid (by rw [← hst]; exact HQ.out)
              have HST := Lib.hid hst
              have HLT := Lib.hid HQ.out.lt
              have HL2 : Hid ((L.eraseIdx f).length = j2) := Lib.hid (by rw [List.length_eraseIdx, if_pos (by rw [HL.out]; exact hfl), HL.out]; omega)
              have HJ2 := Lib.hid hj2
              clear hst hfl hf hx hj2
              go_wp2_with fail
              refine HPP.out.mono ?_
              rintro e w2 ⟨B2, d2, rfl, hd2, hr2, hb2, hbk2⟩
              have HQ2 := Lib.hid ((HQE.out.below hb2).below ((Below.refl _ _).alloc (Nat.le_refl _) (.cells #[.int .i64 x.1, .int .i64 x.2] 27)))
              have HB2 := Lib.hid (Below.step HB.out (hb2.alloc hb2.size (.cells #[.int .i64 x.1, .int .i64 x.2] 27)))
              have hw2 := hb2.size
              have HR2 : Hid (ItsR (w2.alloc (.cells #[.int .i64 x.1, .int .i64 x.2] 27)) B2 (L.eraseIdx f)) := Lib.hid (hr2.below ((Below.refl _ _).alloc (Nat.le_refl _) _))
              have HRB2 : Hid (ItsR (w2.alloc (.cells #[.int .i64 x.1, .int .i64 x.2] 27)) B L) := Lib.hid ((HR.out.below hb2).below ((Below.refl _ _).alloc (Nat.le_refl _) _))
              have HD2 := Lib.hid hd2
              have HBS2 : Hid (∀ a, B2 = some a → ¬ S' a.block) := Lib.hid (fun a ha e => by have := hbk2 a ha; have := HLT.out _ e; omega)
              clear hb2 hr2 hbk2 hd2 HPP
              go_wp2_with fail
              refine (peek_any q S' true N (x :: stS (kI true) (L.eraseIdx f)) _ HQ2.out (by have := HNK.out; omega)).mono ?_
              rintro e w3 ⟨rfl, hb3⟩
              unfold hdV
              have hv3 : VarI w3 w2.heap.size x := (VarI.made w2 x 27).below hb3
              have HQ3 : Hid (QR w3 q S' true N (stS (kI true) L)) := Lib.hid (by rw [HST.out]; exact HQ2.out.below hb3)
              have HB3 := Lib.hid (Below.step HB2.out hb3)
              have HR3 := Lib.hid (HRB2.out.below hb3)
              clear hb3
              obtain ⟨v0, v1, v2, v3⟩ := hv3
              have hw23 : w2.heap.size < w3.heap.size := World.block_lt_of_cell? _ _ v0
              have HQ4 := Lib.hid (HQ3.out.below ((Below.refl _ _).alloc (Nat.le_refl _) (.cells #[.int .i64 x.1, .int .i64 x.2] 27)))
              have HB4 := Lib.hid (HB3.out.alloc HB3.out.size (.cells #[.int .i64 x.1, .int .i64 x.2] 27))
              have HR4 := Lib.hid (HR3.out.below ((Below.refl _ _).alloc (Nat.le_refl _) (.cells #[.int .i64 x.1, .int .i64 x.2] 27)))
              have HNJ4 : Hid (N ≤ k + 1 ∧ j ≤ k + 1) := Lib.hid ⟨by have := HNK.out; omega, by have := HJN.out; omega⟩
              go_wp2_with fail
              refine (len_any q S' true N j _ _ HQ4.out (by rw [stS_length]; exact HL.out)).mono ?_
              rintro e w' ⟨rfl, rfl⟩
              go_wp2_with fail
              go_roundw
              case rel => exact ⟨k + 1, N, j, L, S', B, d, by omega, by go_num, rfl, HL, HD, HNJ4, HR4, HQ4, HB4, HS, HBS⟩
              case measure => simp only [intOf]; omega
      · obtain rfl : k = n := by omega
        have hnlt : ¬ (k : Int) < (k : Int) := by omega
        have HLV : Hid ((stS (kI true) L).length = j) := Lib.hid (by rw [stS_length, HL.out])
        have hj200 : j ≤ 200 := HJN.out.2
        go_wp2_with fail
        refine (drainAll_any q S' true N _ j wr HQ.out (by have := HNK.out; omega) HLV.out).mono ?_
        rintro e w2 ⟨B2, d2, rfl, hr2, hq2, hk2, hbk2⟩
        have HR2 := Lib.hid hr2
        have HRL2 : Hid (ItsR w2 B L) := Lib.hid (fun h9 => (HR.out.keep hk2 (fun a ha => HBS.out a ha (by rw [← HL.out]; exact h9))) h9)
        have HB2 := Lib.hid (HB.out.trans (hk2.below HS.out HB.out.size))
        clear hr2 hq2 hk2 hbk2
        go_wp2_with fail
        refine (refAll_any true L j d B w2 HL.out (by have := HJN.out; omega) HD.out HRL2.out).mono ?_
        rintro e w3 ⟨B3, d3, rfl, hd3, hr3, hb3, _⟩
        have HR3 := Lib.hid hr3
        have HRX3 := Lib.hid (HR2.out.below hb3)
        have HB3 := Lib.hid (Below.step HB2.out hb3)
        clear hr3 hb3
        go_wp2_with fail
        refine (same_any _ _ rfl B2 B3 j d2 d3 _ HLV.out (by have := HJN.out; omega) HRX3.out HR3.out).mono ?_
        rintro e w4 ⟨rfl, hb4⟩
        have HB4 := Lib.hid (Below.step HB3.out hb4)
        clear hb4
        go_wp2_with fail
        refine (awake_any _).mono ?_
        rintro e w5 ⟨rfl, hb5⟩
        have HB5 := Lib.hid (Below.step HB4.out hb5)
        clear hb5
        go_wp2_with fail
        go_ret
        exact ⟨rfl, HB5.out⟩

set_option maxRecDepth 100000 in
theorem lifted (os : Os) (started : os.Started) (H : Type) (enc : TypeId × Value → H) (F : Stop.Interp) :
    ReturnsInHanded {} Try.checked os 4 .any ((OpenSpec.ofChange Rows.pqueueRunsSpec).preRow enc Try.prog Try.f4 Rows.pqueueRunsRow.domain false Rows.pqueueRunsRow.laid) (((OpenSpec.ofChange Rows.pqueueRunsSpec).at F).post enc Try.prog Try.f4 false true false false) := by
  refine returnsInHanded_of_row (C := Try.checked) (s := OpenSpec.ofChange Rows.pqueueRunsSpec) own started (by kernel_rfl) Try.func4
    (ChangeSpec.witness_shaped (enc := enc) (C := Try.checked) (os := os) (X := fun w _ => laidMetH Try.prog Rows.pqueueRunsRow.laid w) false (World.laidAll Try.prog os Rows.pqueueRunsRow.laid) #[.slice none 0 0, .bool false] 8 (World.laidAll_os _ _ _)
      (World.shaped_of_ZipB (by kernel_rfl) (by kernel_rfl)) (by kernel_rfl) (by kernel_rfl) (by kernel_rfl)
      (by rw [MakeChecks.laidMetH_plain _ _ _ (by kernel_rfl)]; exact laidMet_laidAll _ (by kernel_rfl) (by kernel_rfl))) ?_
  intro W base args ds gs before hval0 hW _ _ hsz0 hL hsh _
  have hval : ∀ (j : Nat) t v, Try.f4.params[j]? = some t → args[j]? = some v → Value.okWide Try.prog W .any base t v := hval0
  have hW' := hW
  obtain ⟨p, q, hA0, hV, rfl, hfz, hnd⟩ := hW
  have hA : DataW.TrodAll enc Try.prog W 0 (fun _ => true) true Try.f4.params.toList args.toList ds p := hA0
  rw [Try.params4] at hA hval
  obtain ⟨v0, vs0, d0, ds0, p0, q0, hargs, rfl, rfl, h0, r0⟩ := trodAll_cons hA
  obtain ⟨v1, vs1, d1, ds1, p1, q1, rfl, rfl, rfl, h1, r1⟩ := trodAll_cons r0
  obtain ⟨rfl, rfl, rfl⟩ := trodAll_nil r1
  obtain rfl : args = #[v0, v1] := by cases args; simp_all
  obtain ⟨rfl, rfl⟩ := trodVars_none hV
  obtain ⟨A0, l0, c0, rfl, hi0, hw0, hl0⟩ := ops_open (hval 0 35 v0 rfl rfl) h0
  obtain ⟨a1, rfl, rfl, rfl⟩ := open_bool Try.underlying4 (hval 1 4 v1 rfl rfl) h1
  clear hA0 hval0
  simp only [List.append_nil] at hW'
  have hlt0 : ∀ x ∈ p0, x.block < W.heap.size := fun x hx => by simpa using hW'.lt x (by simp [hx])
  have hargs0 : ∀ (W' : World), Below W.heap.size W W' → DataW.Trod enc Try.prog W' 0 (fun b => decide (b < W.heap.size)) true 35 (.slice A0 l0.length c0) d0 p0 := fun W' hn => Below.trod laidOut (by kernel_rfl) (of_decide_eq_true (by kernel_rfl)) h0 hn hlt0
  refine (walk W A0 l0 c0 hi0 hw0 hl0 a1).mono fun e W' ⟨he, hb⟩ => ?_
  subst he
  exact ⟨_, rfl, _, _, _, [], p0 ++ ([]), [], hW', trodAll_mk1 (shut_bool Try.underlying4 _), (trodAll_cons_mk (hargs0 W' hb) (trodAll_cons_mk (shut_bool Try.underlying4 a1) trodAll_mk0)), rfl, hb.frame _, fun h => by cases h⟩

theorem said : Rows.PqueueRunsSaid :=
  OpenClaim.holds_of_cond 4 Try.f4 rfl rfl rfl rfl rfl rfl rfl ⟨rfl, rfl, rfl, rfl, rfl⟩ rfl rfl rfl rfl rfl (by kernel_rfl) Try.func4 (by kernel_rfl)
    (of_decide_eq_true (by kernel_rfl)) (by unfold Func.isWrapper; first | (rw [if_pos (by decide +kernel)]; kernel_rfl) | (rw [if_neg (by decide +kernel)]; exact ⟨rfl, rfl⟩))
    (fun os started H enc _ F => by rw [OpenClaim.pre_eq_preRow]; exact lifted os started H enc F)
#print axioms said
end Go.Proofs.Ytkbfpkejogdieaa.pqueueRuns
