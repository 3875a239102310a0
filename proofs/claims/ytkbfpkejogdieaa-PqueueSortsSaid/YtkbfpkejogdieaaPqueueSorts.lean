/-
  P7.1, P7.2: PqueueSorts: for every list of at most 300 integers (else the chapter's example alone), the items with these keys leave in the order of their keys, equal ones in the sequence in which they were pushed, and each once; and the chapter's second example holds. Conditions: none but the row's own.
-/
import Derived.Test.YtkbfpkejogdieaaPqT
import Derived.Lib.QuietBelow
namespace Go.Proofs.Ytkbfpkejogdieaa.pqueueSorts
open Go.ChangeShapes Go.WideShapes Go.ChangeAt Go.RowKit
set_option linter.unusedVariables false
attribute [local irreducible] wpQuiet

set_option maxRecDepth 100000 in
set_option maxHeartbeats 8000000 in
theorem walk (w : World) (A0 : Option Addr) (l0 : List Int) (c0 : Nat) (hi0 : IntR w A0 l0) (hw0 : WideI l0) (hc0 : l0.length ≤ c0) (hl0 : l0.length ≤ 9223372036854775807) :
    Calls Try.prog 3 #[.slice A0 l0.length c0] w fun e w' => e = .returned (.bool true) ∧ Below w.heap.size w w' := by
  obtain ⟨n, hn⟩ : ∃ n, l0.length = n := ⟨_, rfl⟩
  rw [hn] at hc0 hl0 ⊢
  by_cases hb : 300 < n
  · have hbz : (300 : Int) < (n : Int) := by omega
    clear hi0 hw0 hn
    go_enter Try.func3, Try.ntmps3
    go_wp2_with fail
    refine (awake_any _).mono ?_
    rintro e w9 ⟨rfl, hb9⟩
    go_wp2_with fail
    go_ret
    exact ⟨rfl, hb9⟩
  have hbz : ¬ (300 : Int) < (n : Int) := by omega
  have HN := Lib.hid hn
  have HI := Lib.hid hi0
  have HSRT := Lib.hid (srt_of l0 n hn)
  clear hi0 hw0 hn
  go_enter Try.func3, Try.ntmps3
  go_wp2_with fail
  refine (new_up _).mono ?_
  rintro e w1 ⟨q, Sq, rfl, hq1, hs1, hb1⟩
  have HQ1 := Lib.hid hq1
  have HS1 := Lib.hid hs1
  clear hq1 hs1
  go_wp2_with fail
  refine (fill0_any q Sq false l0 n c0 A0 w1 HQ1.out (by omega) HN.out (HI.out.below hb1) (arg_apart (w1 := w1) HN.out HI.out HS1.out)).mono ?_
  rintro e w2 ⟨B, d, S2, rfl, _, _, hq2, hk2, hs2, _⟩
  have hB2 : Below w.heap.size w w2 := hb1.trans (hk2.below HS1.out hb1.size)
  have HQ2 := Lib.hid hq2
  have HS2 : Hid (∀ k, S2 k → w.heap.size ≤ k) := Lib.hid (fun k e => by
    have := hb1.size
    rcases hs2 k e with h | h
    · exact HS1.out k h
    · omega)
  clear hq2 hk2 hs2 hb1 HQ1 HS1
  generalize stS (kI false) (itF 0 l0) = V at HQ2 HSRT
  go_wp2_with fail
  refine (len_any q S2 false n n V w2 HQ2.out HSRT.out.len).mono ?_
  rintro e w' ⟨rfl, rfl⟩
  go_wp2_with fail
  refine (drainAll_any q S2 false n V n w2 HQ2.out (by omega) HSRT.out.len).mono ?_
  rintro e w3 ⟨B3, d3, rfl, hr3, hq3, hk3, hbk3⟩
  have hB3 : Below w.heap.size w w3 := hB2.trans (hk3.below HS2.out hB2.size)
  have HQ3 := Lib.hid hq3
  have HR3 := Lib.hid hr3
  have hmk := make_bools n (by omega) w3
  have HB3 := Lib.hid hB3
  clear hr3 hq3 hk3 hbk3 hB2 HQ2
  go_wp2_with fail
  clear hmk
  obtain ⟨w4, h4⟩ : ∃ w4, w3.alloc (.cells (madeCells #[.bool false] n) 4) = w4 := ⟨_, rfl⟩
  obtain ⟨g, hg⟩ : ∃ g, w3.heap.size = g := ⟨_, rfl⟩
  have HG : Hid (w.heap.size ≤ g ∧ g < w4.heap.size ∧ ¬ S2 g) := Lib.hid ⟨by rw [← hg]; exact hB3.size, by rw [← h4, ← hg]; simp, fun e => by have := HQ3.out.lt _ e; omega⟩
  have HROW : Hid (BRow w4 g n (seenB V 0)) := Lib.hid (by rw [← h4, ← hg]; exact BRow.made w3 n _ (fun j => seenB_zero V j))
  have HB4 : Hid (Below w.heap.size w w4) := Lib.hid (by rw [← h4]; exact hB3.alloc hB3.size _)
  have HQ4 : Hid (QR w4 q S2 false n []) := Lib.hid (by rw [← h4]; exact HQ3.out.below ((Below.refl _ _).alloc (Nat.le_refl _) _))
  have HR4 : Hid (ItsR w4 B3 V) := Lib.hid (by rw [← h4]; exact HR3.out.below ((Below.refl _ _).alloc (Nat.le_refl _) _))
  have HBG : Hid (∀ a, B3 = some a → 0 < n → a.block ≠ g) := Lib.hid (fun a ha h9 => by
    obtain ⟨b, o, e, hlt, _⟩ := HR3.out (by rw [HSRT.out.len]; exact h9)
    rw [ha] at e; cases e
    simp only; omega)
  rw [h4, hg]
  clear h4 hg hB3 HB3 HQ3 HR3
  go_loopw [6] (fun vi wr => ∃ k : Nat, k ≤ n ∧ vi = .int .i64 (k : Int) ∧ Hid (BRow wr g n (seenB V k)) ∧ Hid (Keep (fun x => x = g) w4 wr)) (fun vi _ => n - (intOf vi).toNat)
  case atStart => exact ⟨0, by omega, rfl, HROW, Lib.hid (Keep.refl _ _)⟩
  case round =>
    obtain ⟨k, hk, rfl, HBR, HK⟩ := hrel
    by_cases hlt : k < n
    · have hltz : (k : Int) < (n : Int) := by omega
      obtain ⟨t, htn, htv⟩ := HSRT.out.all k hlt
      have hnew := seenB_new HSRT.out k t hlt (by rw [htv])
      have hsuc := seenB_succ HSRT.out k t
      have hord := HSRT.out.ord k
      obtain ⟨b, o, rfl, hbl, hc⟩ := HR4.out.keep HK.out (fun a ha => HBG.out a ha (by omega)) (by rw [HSRT.out.len]; omega)
      obtain ⟨c0', c1'⟩ := hc k (by rw [HSRT.out.len]; omega)
      have hcp := hc (k - 1) (by rw [HSRT.out.len]; omega)
      rw [htv] at c0' c1' hord
      simp only at c0' c1'
      obtain ⟨kb, ko, rfl, hkl, hkc⟩ := HI.out (by rw [HN.out]; omega)
      have hk0 := hkc t (by rw [HN.out]; exact htn)
      rw [← HB4.out.cell (p := ⟨kb, ko + t, none⟩) hkl] at hk0
      have hkg : kb < w4.heap.size := Nat.lt_of_lt_of_le hkl HB4.out.size
      rw [← HK.out.cell (p := ⟨kb, ko + t, none⟩) hkg (fun e => by have := HG.out.1; simp only at e; omega)] at hk0
      obtain ⟨y, hy⟩ : ∃ y, l0.getD t 0 = y := ⟨_, rfl⟩
      rw [hy] at c0' hk0 hord
      have s0 := HBR.out.cell htn
      have g0 := HBR.out.frozen t
      rw [hnew] at s0
      have hgw : g < wr.heap.size := HBR.out.lt
      have hbw : b < wr.heap.size := hbl
      have hkw : kb < wr.heap.size := Nat.lt_of_lt_of_le hkg HK.out.size
      have hbg : ¬ b = g := HBG.out _ rfl (by omega)
      have f1 : decide ((t : Int) < 0) = false := decide_eq_false (by omega)
      have f2 : decide ((n : Int) ≤ (t : Int)) = false := decide_eq_false (by omega)
      have f2n : decide (n ≤ t) = false := decide_eq_false (by omega)
      have htz : (t : Int) < (n : Int) := by omega
      have f4 : (y == y) = true := beq_self_eq_true y
      have hset : BRow (wr.setCell ⟨g, t, none⟩ (.bool true)) g n (seenB V (k + 1)) := HBR.out.set true htn (fun s => seenB_succ HSRT.out k t s hlt (by rw [htv]))
      have HSET := Lib.hid hset
      have HORD := Lib.hid hord
      have HCP := Lib.hid hcp
      clear hset hord hcp hc hkc hnew hsuc hy htv
      go_wp2_with fail
      try dsimp only [List.append]
      go_big_quiet (fail)
      go_wp2_with fail
      obtain ⟨w5, h5⟩ : ∃ w5, (wr.drewN nq).setCell ⟨g, t, none⟩ (.bool true) = w5 := ⟨_, rfl⟩
      rw [h5]
      have k5 : Keep (fun x => x = g) wr w5 := by rw [← h5]; exact ((Keep.refl (fun x => x = g) wr).drewN nq).set _ _ rfl
      have HSET5 : Hid (BRow w5 g n (seenB V (k + 1))) := Lib.hid (by rw [← h5]; exact HSET.out.drewN nq)
      have HK5 : Hid (Keep (fun x => x = g) w4 w5) := Lib.hid (HK.out.step k5)
      rw [← k5.cell (p := ⟨b, o + k * 2, none⟩) hbw hbg] at c0'
      rw [← k5.cell (p := ⟨b, o + k * 2 + 1, none⟩) hbw hbg] at c1'
      clear HSET s0 g0 hk0 f1 f2 f2n f4 HBR HK
      by_cases h0 : k = 0
      · subst h0
        clear HCP HORD h5 k5
        have d0 : decide ((0 : Int) < 0) = false := rfl
        have d00 : decide ((0 : Nat) < 0) = false := rfl
        have d0c : decide (((0 : Nat) : Int) < 0) = false := rfl
        have d0d : decide ((0 : Int) < ((0 : Nat) : Int)) = false := rfl
        go_wp2_with fail
        try dsimp only [List.append]
        go_big_quiet (fail)
        go_wp2_with fail
        go_roundw
        case rel => exact ⟨0 + 1, by omega, by go_num, Lib.hid (HSET5.out.drewN nq), Lib.hid (HK5.out.drewN nq)⟩
        case measure => simp only [intOf]; omega
      · obtain ⟨e0', e1'⟩ := HCP.out
        rw [← k5.cell (p := ⟨b, o + (k - 1) * 2, none⟩) hbw hbg] at e0'
        rw [← k5.cell (p := ⟨b, o + (k - 1) * 2 + 1, none⟩) hbw hbg] at e1'
        obtain ⟨s, hsn, hsv⟩ := HSRT.out.all (k - 1) (by omega)
        have hord := HORD.out (by omega) hlt
        rw [hsv] at e0' e1' hord
        simp only at e0' e1'
        obtain ⟨p, hp⟩ : ∃ p, l0.getD s 0 = p := ⟨_, rfl⟩
        rw [hp] at e0' hord
        obtain ⟨k1, rfl⟩ : ∃ k1, k = k1 + 1 := ⟨k - 1, by omega⟩
        rw [show k1 + 1 - 1 = k1 by omega] at e0' e1'
        have d0 : decide ((0 : Int) < (k1 : Int) + 1) = true := decide_eq_true (by omega)
        have d0n : decide (0 < k1 + 1) = true := decide_eq_true (by omega)
        have hz1 : (k1 : Int) < (n : Int) := by omega
        have hz2 : (k1 : Int) + 1 < (n : Int) := by omega
        have hw1 : IntKind.i64.wrap ((k1 : Int) + 1 - 1) = (k1 : Int) := by rw [IntKind.wrap_i64]; omega
        have hw2 : ((k1 : Int) + 1 - 1) = (k1 : Int) := by omega
        clear HCP HORD h5 k5 hsv hp h0
        have hord2 : p < y ∨ (p = y ∧ (s : Int) < (t : Int)) := hord
        clear hord
        rcases hord2 with hpy | ⟨rfl, hst⟩
        · have q1 : decide (y < p) = false := decide_eq_false (by omega)
          have q2 : (p == y) = false := beq_eq_false_iff_ne.2 (by omega)
          go_wp2_with fail
          try dsimp only [List.append]
          go_big_quiet (fail)
          go_wp2_with fail
          go_roundw
          case rel => exact ⟨k1 + 1 + 1, by omega, by go_num, Lib.hid (HSET5.out.drewN nq), Lib.hid (HK5.out.drewN nq)⟩
          case measure => simp only [intOf]; omega
        · have q1 : decide (p < p) = false := decide_eq_false (by omega)
          have q2 : (p == p) = true := beq_self_eq_true p
          have q3 : decide ((t : Int) ≤ (s : Int)) = false := decide_eq_false (by omega)
          have q3n : decide (t ≤ s) = false := decide_eq_false (by omega)
          go_wp2_with fail
          try dsimp only [List.append]
          go_big_quiet (fail)
          go_wp2_with fail
          go_roundw
          case rel => exact ⟨k1 + 1 + 1, by omega, by go_num, Lib.hid (HSET5.out.drewN nq), Lib.hid (HK5.out.drewN nq)⟩
          case measure => simp only [intOf]; omega
    · obtain rfl : k = n := by omega
      have hnlt : ¬ (k : Int) < (k : Int) := by omega
      have HQE := Lib.hid (HQ4.out.keep HK.out (fun x e e2 => by subst e2; exact HG.out.2.2 e))
      have HBE : Hid (Below w.heap.size w wr) := Lib.hid (HB4.out.trans (HK.out.below (fun x e => by subst e; exact HG.out.1) HB4.out.size))
      go_wp2_with fail
      refine (len_any q S2 false k 0 [] wr HQE.out rfl).mono ?_
      rintro e w' ⟨rfl, rfl⟩
      go_wp2_with fail
      refine (awake_any _).mono ?_
      rintro e w9 ⟨rfl, hb9⟩
      have HB9 := Lib.hid (Below.step HBE.out hb9)
      clear hb9
      go_wp2_with fail
      go_ret
      exact ⟨rfl, HB9.out⟩

set_option maxRecDepth 100000 in
theorem lifted (os : Os) (started : os.Started) (H : Type) (enc : TypeId × Value → H) (F : Stop.Interp) :
    ReturnsInHanded {} Try.checked os 3 .any ((OpenSpec.ofChange Rows.pqueueSortsSpec).preRow enc Try.prog Try.f3 Rows.pqueueSortsRow.domain false Rows.pqueueSortsRow.laid) (((OpenSpec.ofChange Rows.pqueueSortsSpec).at F).post enc Try.prog Try.f3 false true false false) := by
  refine returnsInHanded_of_row (C := Try.checked) (s := OpenSpec.ofChange Rows.pqueueSortsSpec) own started (by kernel_rfl) Try.func3
    (ChangeSpec.witness_shaped (enc := enc) (C := Try.checked) (os := os) (X := fun w _ => laidMetH Try.prog Rows.pqueueSortsRow.laid w) false (World.laidAll Try.prog os Rows.pqueueSortsRow.laid) #[.slice none 0 0] 8 (World.laidAll_os _ _ _)
      (World.shaped_of_ZipB (by kernel_rfl) (by kernel_rfl)) (by kernel_rfl) (by kernel_rfl) (by kernel_rfl)
      (by rw [MakeChecks.laidMetH_plain _ _ _ (by kernel_rfl)]; exact laidMet_laidAll _ (by kernel_rfl) (by kernel_rfl))) ?_
  intro W base args ds gs before hval0 hW _ _ hsz0 hL hsh _
  have hval : ∀ (j : Nat) t v, Try.f3.params[j]? = some t → args[j]? = some v → Value.okWide Try.prog W .any base t v := hval0
  have hW' := hW
  obtain ⟨p, q, hA0, hV, rfl, hfz, hnd⟩ := hW
  have hA : DataW.TrodAll enc Try.prog W 0 (fun _ => true) true Try.f3.params.toList args.toList ds p := hA0
  rw [Try.params3] at hA hval
  obtain ⟨v0, vs0, d0, ds0, p0, q0, hargs, rfl, rfl, h0, r0⟩ := trodAll_cons hA
  obtain ⟨rfl, rfl, rfl⟩ := trodAll_nil r0
  obtain rfl : args = #[v0] := by cases args; simp_all
  obtain ⟨rfl, rfl⟩ := trodVars_none hV
  obtain ⟨A0, l0, c0, rfl, hi0, hw0, hc0, hl0⟩ := ints_open (hval 0 22 v0 rfl rfl) h0
  clear hA0 hval0
  simp only [List.append_nil] at hW'
  have hlt0 : ∀ x ∈ p0, x.block < W.heap.size := fun x hx => by simpa using hW'.lt x (by simp [hx])
  have hargs0 : ∀ (W' : World), Below W.heap.size W W' → DataW.Trod enc Try.prog W' 0 (fun b => decide (b < W.heap.size)) true 22 (.slice A0 l0.length c0) d0 p0 := fun W' hn => Below.trod laidOut (by kernel_rfl) (of_decide_eq_true (by kernel_rfl)) h0 hn hlt0
  refine (walk W A0 l0 c0 hi0 hw0 hc0 hl0).mono fun e W' ⟨he, hb⟩ => ?_
  subst he
  exact ⟨_, rfl, _, _, _, [], p0 ++ ([]), [], hW', trodAll_mk1 (shut_bool Try.underlying4 _), (trodAll_cons_mk (hargs0 W' hb) trodAll_mk0), rfl, hb.frame _, fun h => by cases h⟩

theorem said : Rows.PqueueSortsSaid :=
  OpenClaim.holds_of_cond 3 Try.f3 rfl rfl rfl rfl rfl rfl rfl ⟨rfl, rfl, rfl, rfl, rfl⟩ rfl rfl rfl rfl rfl (by kernel_rfl) Try.func3 (by kernel_rfl)
    (of_decide_eq_true (by kernel_rfl)) (by unfold Func.isWrapper; first | (rw [if_pos (by decide +kernel)]; kernel_rfl) | (rw [if_neg (by decide +kernel)]; exact ⟨rfl, rfl⟩))
    (fun os started H enc _ F => by rw [OpenClaim.pre_eq_preRow]; exact lifted os started H enc F)
#print axioms said
end Go.Proofs.Ytkbfpkejogdieaa.pqueueSorts
