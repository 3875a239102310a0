/-
  P6.2, P6.3: MacTags: for every key and two lists of at most 100 numbers: tags depend on the key and on the numbers alone, and different lists have different encodings; the tied card. Conditions: the row's own (the variable start of package mac holds what the program's text lays when the call begins).
-/
import Derived.Test.YthalnnhkeaanhaaDoorMacR
import Derived.Deep.RegionLaw
import Derived.Lib.QuietBelow
namespace Go.Proofs.YthalnnhkeaanhaaDoor.macTags
open Go.ChangeShapes Go.WideShapes Go.ChangeAt Go.RowKit Go.Maps
set_option linter.unusedVariables false
set_option linter.unusedSimpArgs false

theorem str_ne {s t : ByteArray} (h : s ≠ t) : (s.toList == t.toList) = false := by
  rw [beq_eq_false_iff_ne]
  intro e
  rw [ByteArray.toList_eq, ByteArray.toList_eq] at e
  exact h (ByteArray.ext (Array.toList_inj.1 e))
theorem drew_alloc_below {W : World} {o : Obj} : Below W.heap.size W (W.alloc o) := (Below.refl _ _).alloc (Nat.le_refl _) _

attribute [local irreducible] Calls
set_option maxRecDepth 100000 in
set_option maxHeartbeats 16000000 in
/-- Two lists of at most 100 numbers. -/
theorem walk_main (w : World) (f : Facts w) (a0 b0 : Nat) (ha0 : a0 < 18446744073709551616) (hb0 : b0 < 18446744073709551616) (A1 A2 : Option Addr) (l1 l2 : List Int) (n1 n2 c1 c2 : Nat) (hn1 : l1.length = n1) (hn2 : l2.length = n2) (hl1 : n1 ≤ 100) (hl2 : n2 ≤ 100) (hw1 : WideI l1) (hw2 : WideI l2) (h1 : IntR w A1 l1) (h2 : IntR w A2 l2) :
    Calls Tryd.prog 6 #[.agg #[.int .u64 (a0 : Int), .int .u64 (b0 : Int)], .slice A1 n1 c1, .slice A2 n2 c2] w fun e w' => e = .returned (.bool true) ∧ Below w.heap.size w w' := by
  have HB0 : Hid (Below w.heap.size w (w.alloc (.cells #[.int .u64 (a0 : Int), .int .u64 (b0 : Int)] 24))) := Lib.hid ((Below.refl _ _).alloc (Nat.le_refl _) _)
  have HF := Lib.hid f
  have HK : Hid (KeyR (w.alloc (.cells #[.int .u64 (a0 : Int), .int .u64 (b0 : Int)] 24)) w.heap.size a0 b0) := Lib.hid (heap_alloc_new w _)
  have hz1 : ¬ (100 : Int) < (n1 : Int) := by omega
  have hz2 : ¬ (100 : Int) < (n2 : Int) := by omega
  have HN1 := Lib.hid hn1
  have HN2 := Lib.hid hn2
  have HW1 := Lib.hid hw1
  have HW2 := Lib.hid hw2
  have H1 := Lib.hid h1
  have H2 := Lib.hid h2
  have HL1 := Lib.hid hl1
  have HL2 := Lib.hid hl2
  -- what the two comparisons answer
  obtain ⟨r1, r2, HR1, HR2, HRS, HTT⟩ : ∃ r1 r2 : Bool, Hid (((⟨(encL l1).toArray⟩ : ByteArray).toList == (⟨(encL l2).toArray⟩ : ByteArray).toList) = r1) ∧
      Hid (∀ w', Below w.heap.size w w' → Calls Tryd.prog 17 #[.slice A1 n1 c1, .slice A2 n2 c2] w' fun e w'' => e = .returned (.bool r2) ∧ Below w'.heap.size w' w'') ∧ Hid ((r1 == r2) = true) ∧ Hid (r2 = true → tagS a0 b0 l1 = tagS a0 b0 l2) := by
    by_cases he : l1 = l2
    · subst he
      obtain rfl : n2 = n1 := by omega
      exact ⟨true, true, Lib.hid (beq_self_eq_true _), Lib.hid (fun w' hb => ints_same A1 n2 c1 A2 c2 l1 w' hn1 (by omega) (h1.below hb) (h2.below hb)), Lib.hid rfl, Lib.hid (fun _ => rfl)⟩
    · refine ⟨false, false, Lib.hid (str_ne (fun e => he (encL_inj hw1 hw2 (by omega) (by omega) ?_))), Lib.hid (fun w' hb => ints_other A1 n1 c1 A2 n2 c2 l1 l2 w' hn1 hn2 (by omega) (by omega) (h1.below hb) (h2.below hb) he), Lib.hid rfl, Lib.hid (fun h => by cases h)⟩
      have := congrArg (fun b : ByteArray => b.data.toList) e
      simpa using this
  clear f hn1 hn2 hw1 hw2 h1 h2
  have HPUT : Hid (∀ (l : List Int) n w' A c, l.length = n → n ≤ 100 → WideI l → Below w.heap.size w w' → IntR w A l → Calls Tryd.prog 16 #[.slice none 0 0, .slice A n c] w' fun e w'' => ∃ A' c', e = .returned (.slice A' (encL l).length c') ∧ (encL l).length ≤ c' ∧ Hid (BytR w'' A' (encL l)) ∧ Below w.heap.size w w'' ∧ Below w'.heap.size w' w'') := Lib.hid (fun l n w' A c hn hl hw hb h =>
    (putInts_own none [] 0 0 A l n c w' rfl (by decide) (Nat.le_refl _) (VsR.nil _ _) hn (by omega) hw (h.below hb)).mono fun e w'' ⟨v', he, hO, hb2⟩ => by
      obtain ⟨A', c', hv, hc, hr⟩ := hO.out.form
      exact ⟨A', c', by rw [he, hv]; rfl, hc, Lib.hid hr, Below.step hb hb2, hb2⟩)
  have HP1 := Lib.hid (fun w' hb => HPUT.out l1 n1 w' A1 c1 HN1.out HL1.out HW1.out hb H1.out)
  have HP2 := Lib.hid (fun w' hb => HPUT.out l2 n2 w' A2 c2 HN2.out HL2.out HW2.out hb H2.out)
  have HEL1 := Lib.hid (encL_len HW1.out (by rw [HN1.out]; omega))
  obtain ⟨N1, hNN1⟩ : ∃ N, (encL l1).length = N := ⟨_, rfl⟩
  obtain ⟨N2, hNN2⟩ : ∃ N, (encL l2).length = N := ⟨_, rfl⟩
  rw [hNN1] at HP1 HEL1
  rw [hNN2] at HP2
  have HNN1 := Lib.hid hNN1
  have HNN2 := Lib.hid hNN2
  clear hNN1 hNN2 HPUT
  go_enter Tryd.func6, Tryd.ntmps6
  go_wp2_with fail
  generalize w.alloc (.cells #[.int .u64 (a0 : Int), .int .u64 (b0 : Int)] 24) = W0 at HB0 HK ⊢
  have hg0 : w.heap.size < W0.heap.size := World.block_lt_of_cell? _ _ HK.out.c0
  refine (HP1.out W0 HB0.out).mono ?_
  rintro e w1 ⟨Aa, ca, rfl, hca, hRa, hb1, hl1'⟩
  have HK1 := Lib.hid (HK.out.below hl1' hg0)
  have hg1 := Nat.lt_of_lt_of_le hg0 hl1'.size
  clear HK hl1' hg0 HB0
  go_wp2_with fail
  refine (HP2.out w1 hb1).mono ?_
  rintro e w2 ⟨Ab, cb, rfl, hcb, hRb, hb2, hl2'⟩
  have HRa := Lib.hid (hRa.out.below hl2')
  have HK2 := Lib.hid (HK1.out.below hl2' hg1)
  have hg2 := Nat.lt_of_lt_of_le hg1 hl2'.size
  clear HK1 hl2' hg1 hRa hb1 HP1 HP2
  go_wp2_with fail
  generalize w2 = W at HRa hRb HK2 hg2 hb2 ⊢
  have hBR := Below.refl W.heap.size W
  obtain ⟨Sa, hSa⟩ : ∃ s : ByteArray, (⟨(encL l1).toArray⟩ : ByteArray) = s := ⟨_, rfl⟩
  obtain ⟨Sb, hSb⟩ : ∃ s : ByteArray, (⟨(encL l2).toArray⟩ : ByteArray) = s := ⟨_, rfl⟩
  obtain ⟨Sr, hSr⟩ : ∃ s : ByteArray, (⟨(encL l1).toArray⟩ : ByteArray) = s := ⟨_, rfl⟩
  have ea : (Sa.toList == Sb.toList) = r1 := by rw [← hSa, ← hSb]; exact HR1.out
  have er : (Sa.toList == Sr.toList) = true := by rw [← hSa, ← hSr]; exact beq_self_eq_true _
  have hrr := HRS.out
  have rA : ∀ w', Below W.heap.size W w' → (convert 25 9 (.slice Aa N1 ca)).run Tryd.prog w' = .ok (.string Sa) w' := fun w' hb => by rw [← hSa]; exact run_string_of w' Aa (encL l1) N1 ca HNN1.out (HRa.out.below hb)
  have rB : ∀ w', Below W.heap.size W w' → (convert 25 9 (.slice Ab N2 cb)).run Tryd.prog w' = .ok (.string Sb) w' := fun w' hb => by rw [← hSb]; exact run_string_of w' Ab (encL l2) N2 cb HNN2.out (hRb.out.below hb)
  have HI := Lib.hid (fun w' (hb : Below W.heap.size W w') => (HR2.out w' (Below.step hb2 hb)).mono fun e w'' ⟨he, hb2⟩ => And.intro he (Below.step hb hb2))
  have HPR : Hid (∀ w', Below W.heap.size W w' → Calls Tryd.prog 18 #[.slice none 0 0, .slice A1 n1 c1] w' fun e w'' => ∃ A' c', e = .returned (.slice A' N1 c') ∧ Below W.heap.size W w'' ∧ (convert 25 9 (.slice A' N1 c')).run Tryd.prog w'' = .ok (.string Sr) w'') := Lib.hid (fun w' hb =>
    (refPutInts_own none [] 0 0 A1 l1 n1 c1 w' rfl (by decide) (VsR.nil _ _) HN1.out (by have := HL1.out; omega) HW1.out (H1.out.below (Below.step hb2 hb))).mono fun e w'' ⟨v', he, hO, hb2⟩ => by
      obtain ⟨A', c', hv, hc, hr⟩ := hO.out.form
      refine ⟨A', c', by rw [he, hv, ← HNN1.out]; rfl, Below.step hb hb2, ?_⟩
      rw [← hSr]
      exact run_string_of w'' A' (encL l1) N1 c' HNN1.out hr)
  have HB2 := Lib.hid hb2
  clear hSa hSb hSr hb2 HR1
  have ra := rA W.drew hBR.drew
  have rb := rB W.drew hBR.drew
  have RA := Lib.hid rA
  have RB := Lib.hid rB
  clear rA rB
  apply wp_cut2 (J := fun w' => Below W.heap.size W w')
  case h1 =>
    go_region_law (first | (go_simp; go_at_call 17; refine (HI.out _ (by first | exact hb3 | exact hb3.alloc hb3.size _ | exact hBR.drew | exact hBR | fail)).mono ?_; rintro e w3 ⟨rfl, hb3⟩; have ra := RA.out w3 hb3; have rb := RB.out w3 hb3) | (go_simp; go_at_call 18; refine (HPR.out _ (by first | exact hb3 | exact hb3.alloc hb3.size _ | exact hBR.drew | exact hBR | fail)).mono ?_; rintro e w3 ⟨Ar, cr, rfl, hb3, rR⟩; have ra := RA.out w3 hb3; have rb := RB.out w3 hb3) | fail)
    all_goals simp only [Act.put, List.setIfInBounds_toArray, List.set_cons_zero, List.set_cons_succ, List.getElem_toArray, List.getElem_cons_zero, List.getElem_cons_succ]
    all_goals exact ⟨Ar, cr, rfl, hb3⟩
  intro Ar cr w4 hb4
  have HB4 := Lib.hid (Below.step HB2.out hb4)
  have hRa4 := Lib.hid (HRa.out.below hb4)
  have HK4 := Lib.hid (HK2.out.below hb4 hg2)
  have hg4 := Nat.lt_of_lt_of_le hg2 hb4.size
  clear hb4 HRa hRb HK2 hg2 HB2 HI HPR RA RB ra rb hBR ea er hrr
  go_wp2_with fail
  have HT1 := Lib.hid (fun w' (hb : Below w.heap.size w w') => tag_any a0 b0 A1 l1 n1 c1 w' (HF.out.step hb) ha0 hb0 HN1.out (by have := HL1.out; omega) HW1.out (H1.out.below hb))
  have HT2 := Lib.hid (fun w' (hb : Below w.heap.size w w') => tag_any a0 b0 A2 l2 n2 c2 w' (HF.out.step hb) ha0 hb0 HN2.out (by have := HL2.out; omega) HW2.out (H2.out.below hb))
  have HT3 := Lib.hid (fun w' A c (hb : Below w.heap.size w w') (h : IntR w' A l1) => tag_any a0 b0 A l1 n1 c w' (HF.out.step hb) ha0 hb0 HN1.out (by have := HL1.out; omega) HW1.out h)
  have HSM := Lib.hid (fun w' (hb : Below w.heap.size w w') h => sum_any a0 b0 Aa (encL l1) N1 ca w' (HF.out.step hb) ha0 hb0 HNN1.out (by have := HEL1.out; omega) hca h)
  have HSE : Hid (sumS a0 b0 (encL l1) = tagS a0 b0 l1) := Lib.hid rfl
  rw [HSE.out] at HSM
  obtain ⟨T1, hT1⟩ : ∃ t, tagS a0 b0 l1 = t := ⟨_, rfl⟩
  obtain ⟨T2, hT2⟩ : ∃ t, tagS a0 b0 l2 = t := ⟨_, rfl⟩
  obtain ⟨T3, hT3⟩ : ∃ t, tagS a0 b0 l1 = t := ⟨_, rfl⟩
  have e13 : ((T1 : Int) == (T3 : Int)) = true := by rw [← hT1, ← hT3]; exact beq_self_eq_true _
  have e31 : ((T3 : Int) == (T1 : Int)) = true := by rw [← hT1, ← hT3]; exact beq_self_eq_true _
  rw [hT1] at HT1
  rw [hT2] at HT2
  rw [hT3] at HT3 HSM
  rw [hT1, hT2] at HTT
  clear hT1 hT2 hT3 HSE
  have j0 := cell_regrown HK4.out.c0
  have j1 := cell_regrown HK4.out.c1
  have G1 := Lib.hid (fun d os => HT1.out (Sort.grow (redrawn w4 d) os) (Below.step HB4.out (below_regrown w4 d os)))
  have G2 := Lib.hid (fun d os => HT2.out (Sort.grow (redrawn w4 d) os) (Below.step HB4.out (below_regrown w4 d os)))
  refine wp_region_quiet_below (by kernel_rfl) (by kernel_rfl) ?_
  repeat (quiet_step ((first | (go_at_call 12; exact Calls.regrown_of (G1.out _ _)) | (go_at_call 12; exact Calls.regrown_of (G2.out _ _)))))
  refine wpQuiet_nil ?_
  intro w5 hw'
  obtain ⟨⟨dq, osq⟩, hw''⟩ := hw'
  have hb5 : Below w4.heap.size w4 w5 := by rw [hw'']; exact below_regrown w4 dq osq
  have HB5 := Lib.hid (Below.step HB4.out hb5)
  have hRa5 := Lib.hid (hRa4.out.below hb5)
  have HK5 := Lib.hid (HK4.out.below hb5 hg4)
  have hg5 := Nat.lt_of_lt_of_le hg4 hb5.size
  clear hw'' hb5 hRa4 HK4 hg4 HB4 j0 j1 G1 G2 HT1 HT2
  go_wp2_with fail
  refine (HR2.out w5 HB5.out).mono ?_
  rintro e w6 ⟨rfl, hb6⟩
  have HB6 := Lib.hid (Below.step HB5.out hb6)
  have hRa6 := Lib.hid (hRa5.out.below hb6)
  have HK6 := Lib.hid (HK5.out.below hb6 hg5)
  have hg6 := Nat.lt_of_lt_of_le hg5 hb6.size
  clear hb6 hRa5 HK5 hg5 HB5 HR2
  cases r2 with
  | false =>
    go_wp2_with fail
    have hgW := hg6
    have HKK := Lib.hid (fun w' (hb : Below w6.heap.size w6 w') => And.intro (HK6.out.below hb hgW).c0 (HK6.out.below hb hgW).c1)
    have GS := Lib.hid (fun w' (hb : Below w6.heap.size w6 w') => (HSM.out w' (Below.step HB6.out hb) (hRa6.out.below hb)).mono fun e w'' ⟨he, hb2⟩ => And.intro he (Below.step hb hb2))
    have GT := Lib.hid (fun w' A c (hb : Below w6.heap.size w6 w') (h : IntR w' A l1) => (HT3.out w' A c (Below.step HB6.out hb) h).mono fun e w'' ⟨he, hb2⟩ => And.intro he (Below.step hb hb2))
    have GA := Lib.hid (fun w' (hb : Below w6.heap.size w6 w') => (awake_any w' (HF.out.step (Below.step HB6.out hb))).mono fun e w'' ⟨he, hb2⟩ => And.intro he (Below.step hb hb2))
    have HFORM : Hid (∀ w' v', OwnI w' w6.heap.size v' ([] ++ l1) → ∃ A9 c9, v' = .slice A9 n1 c9 ∧ IntR w' A9 l1) := Lib.hid (fun w' v' h => by
      obtain ⟨A9, c9, hv, _, hr⟩ := h.form
      exact ⟨A9, c9, by rw [hv, ← HN1.out]; rfl, hr⟩)
    have QL : Hid (([] : List Int).length + n1 ≤ 100000) := Lib.hid (by have := HL1.out; simp; omega)
    have HIR := Lib.hid (fun w' (hb : Below w6.heap.size w6 w') => H1.out.below (Below.step HB6.out hb))
    have hBR := Below.refl w6.heap.size w6
    clear hgW
    go_region_held3 (fun w' => w'.cell? ⟨w.heap.size, 0, none⟩ = some (.int .u64 (a0 : Int)) ∧ w'.cell? ⟨w.heap.size, 1, none⟩ = some (.int .u64 (b0 : Int)))
      (first | exact HKK.out _ (by first | exact hb3 | exact hb3.alloc hb3.size _ | exact hBR.drew | exact hBR | fail) | go_keep)
      (first
        | (go_at_call 10; refine (GS.out _ (by first | exact hb3 | exact hb3.alloc hb3.size _ | exact hBR.drew | exact hBR | fail)).mono ?_; rintro e w3 ⟨rfl, hb3⟩; obtain ⟨k0, k1⟩ := HKK.out w3 hb3)
        | (go_at_call 12; refine (GT.out _ _ _ (by first | exact hb3 | exact hb3.alloc hb3.size _ | exact hBR.drew | exact hBR | fail) hR9).mono ?_; rintro e w3 ⟨rfl, hb3⟩; obtain ⟨k0, k1⟩ := HKK.out w3 hb3)
        | (go_at_call 9; refine (GA.out _ (by first | exact hb3 | exact hb3.alloc hb3.size _ | exact hBR.drew | exact hBR | fail)).mono ?_; rintro e w3 ⟨rfl, hb3⟩; obtain ⟨k0, k1⟩ := HKK.out w3 hb3)
        | (refine step_append_ints rfl (.tmp 62) (.tmp 63) rfl w6.heap.size _ [] l1 rfl (OwnI.empty w3 hb3.size) A1 n1 c1 HN1.out rfl (HIR.out _ (hb3.alloc hb3.size _)) QL.out (hb3.alloc hb3.size _).size ?_; intro v9 w9 hO9 hb9; obtain ⟨A9, c9, hv9, hR9⟩ := HFORM.out _ _ hO9.out; subst hv9; have hb3 := (hb3.alloc hb3.size _).trans hb9; obtain ⟨k0, k1⟩ := HKK.out w9 hb3)
        | fail)
    all_goals
      go_wp2_with fail
      go_ret
      exact ⟨rfl, Below.step HB6.out hb3⟩
  | true =>
    have e12 : ((T1 : Int) == (T2 : Int)) = true := by rw [HTT.out rfl]; exact beq_self_eq_true _
    go_wp2_with fail
    have hgW := hg6
    have HKK := Lib.hid (fun w' (hb : Below w6.heap.size w6 w') => And.intro (HK6.out.below hb hgW).c0 (HK6.out.below hb hgW).c1)
    have GS := Lib.hid (fun w' (hb : Below w6.heap.size w6 w') => (HSM.out w' (Below.step HB6.out hb) (hRa6.out.below hb)).mono fun e w'' ⟨he, hb2⟩ => And.intro he (Below.step hb hb2))
    have GT := Lib.hid (fun w' A c (hb : Below w6.heap.size w6 w') (h : IntR w' A l1) => (HT3.out w' A c (Below.step HB6.out hb) h).mono fun e w'' ⟨he, hb2⟩ => And.intro he (Below.step hb hb2))
    have GA := Lib.hid (fun w' (hb : Below w6.heap.size w6 w') => (awake_any w' (HF.out.step (Below.step HB6.out hb))).mono fun e w'' ⟨he, hb2⟩ => And.intro he (Below.step hb hb2))
    have HFORM : Hid (∀ w' v', OwnI w' w6.heap.size v' ([] ++ l1) → ∃ A9 c9, v' = .slice A9 n1 c9 ∧ IntR w' A9 l1) := Lib.hid (fun w' v' h => by
      obtain ⟨A9, c9, hv, _, hr⟩ := h.form
      exact ⟨A9, c9, by rw [hv, ← HN1.out]; rfl, hr⟩)
    have QL : Hid (([] : List Int).length + n1 ≤ 100000) := Lib.hid (by have := HL1.out; simp; omega)
    have HIR := Lib.hid (fun w' (hb : Below w6.heap.size w6 w') => H1.out.below (Below.step HB6.out hb))
    have hBR := Below.refl w6.heap.size w6
    clear hgW
    go_region_held3 (fun w' => w'.cell? ⟨w.heap.size, 0, none⟩ = some (.int .u64 (a0 : Int)) ∧ w'.cell? ⟨w.heap.size, 1, none⟩ = some (.int .u64 (b0 : Int)))
      (first | exact HKK.out _ (by first | exact hb3 | exact hb3.alloc hb3.size _ | exact hBR.drew | exact hBR | fail) | go_keep)
      (first
        | (go_at_call 10; refine (GS.out _ (by first | exact hb3 | exact hb3.alloc hb3.size _ | exact hBR.drew | exact hBR | fail)).mono ?_; rintro e w3 ⟨rfl, hb3⟩; obtain ⟨k0, k1⟩ := HKK.out w3 hb3)
        | (go_at_call 12; refine (GT.out _ _ _ (by first | exact hb3 | exact hb3.alloc hb3.size _ | exact hBR.drew | exact hBR | fail) hR9).mono ?_; rintro e w3 ⟨rfl, hb3⟩; obtain ⟨k0, k1⟩ := HKK.out w3 hb3)
        | (go_at_call 9; refine (GA.out _ (by first | exact hb3 | exact hb3.alloc hb3.size _ | exact hBR.drew | exact hBR | fail)).mono ?_; rintro e w3 ⟨rfl, hb3⟩; obtain ⟨k0, k1⟩ := HKK.out w3 hb3)
        | (refine step_append_ints rfl (.tmp 62) (.tmp 63) rfl w6.heap.size _ [] l1 rfl (OwnI.empty w3 hb3.size) A1 n1 c1 HN1.out rfl (HIR.out _ (hb3.alloc hb3.size _)) QL.out (hb3.alloc hb3.size _).size ?_; intro v9 w9 hO9 hb9; obtain ⟨A9, c9, hv9, hR9⟩ := HFORM.out _ _ hO9.out; subst hv9; have hb3 := (hb3.alloc hb3.size _).trans hb9; obtain ⟨k0, k1⟩ := HKK.out w9 hb3)
        | fail)
    all_goals
      go_wp2_with fail
      go_ret
      exact ⟨rfl, Below.step HB6.out hb3⟩

set_option maxRecDepth 100000 in
set_option maxHeartbeats 4000000 in
theorem walk (w : World) (f : Facts w) (a0 b0 : Nat) (ha0 : a0 < 18446744073709551616) (hb0 : b0 < 18446744073709551616) (A1 : Option Addr) (l1 : List Int) (c1 : Nat) (hi1 : IntR w A1 l1) (hw1 : WideI l1) (hc1 : l1.length ≤ c1) (hl1 : l1.length ≤ 9223372036854775807) (A2 : Option Addr) (l2 : List Int) (c2 : Nat) (hi2 : IntR w A2 l2) (hw2 : WideI l2) (hc2 : l2.length ≤ c2) (hl2 : l2.length ≤ 9223372036854775807) :
    Calls Tryd.prog 6 #[.agg #[.int .u64 (a0 : Int), .int .u64 (b0 : Int)], .slice A1 l1.length c1, .slice A2 l2.length c2] w fun e w' => e = .returned (.bool true) ∧ Below w.heap.size w w' := by
  obtain ⟨n1, hn1⟩ : ∃ n, l1.length = n := ⟨_, rfl⟩
  obtain ⟨n2, hn2⟩ : ∃ n, l2.length = n := ⟨_, rfl⟩
  rw [hn1, hn2]
  by_cases h1 : n1 ≤ 100
  · by_cases h2 : n2 ≤ 100
    · exact walk_main w f a0 b0 ha0 hb0 A1 A2 l1 l2 n1 n2 c1 c2 hn1 hn2 h1 h2 hw1 hw2 hi1 hi2
    · have hz1 : ¬ (100 : Int) < (n1 : Int) := by omega
      have hz2 : (100 : Int) < (n2 : Int) := by omega
      have HB0 : Hid (Below w.heap.size w (w.alloc (.cells #[.int .u64 (a0 : Int), .int .u64 (b0 : Int)] 24))) := Lib.hid ((Below.refl _ _).alloc (Nat.le_refl _) _)
      have HF := Lib.hid (f.step HB0.out)
      clear f hn1 hn2 hi1 hi2
      go_enter Tryd.func6, Tryd.ntmps6
      go_wp2_with fail
      refine (awake_any _ HF.out).mono ?_
      rintro e w2 ⟨rfl, hB2⟩
      go_wp2_with fail
      go_ret
      exact ⟨rfl, Below.step HB0.out hB2⟩
  · have hz1 : (100 : Int) < (n1 : Int) := by omega
    have HB0 : Hid (Below w.heap.size w (w.alloc (.cells #[.int .u64 (a0 : Int), .int .u64 (b0 : Int)] 24))) := Lib.hid ((Below.refl _ _).alloc (Nat.le_refl _) _)
    have HF := Lib.hid (f.step HB0.out)
    clear f hn1 hn2 hi1 hi2
    go_enter Tryd.func6, Tryd.ntmps6
    go_wp2_with fail
    refine (awake_any _ HF.out).mono ?_
    rintro e w2 ⟨rfl, hB2⟩
    go_wp2_with fail
    go_ret
    exact ⟨rfl, Below.step HB0.out hB2⟩

set_option maxRecDepth 100000 in
theorem lifted (os : Os) (started : os.Started) (H : Type) (enc : TypeId × Value → H) (F : Stop.Interp) :
    ReturnsInHanded {} Tryd.checked os 6 .any ((OpenSpec.ofChange Rows.macTagsSpec).preRow enc Tryd.prog Tryd.f6 Rows.macTagsRow.domain false Rows.macTagsRow.laid) (((OpenSpec.ofChange Rows.macTagsSpec).at F).post enc Tryd.prog Tryd.f6 false true false false) := by
  refine returnsInHanded_of_row (C := Tryd.checked) (s := OpenSpec.ofChange Rows.macTagsSpec) own started (by kernel_rfl) Tryd.func6
    (ChangeSpec.witness_shaped (enc := enc) (C := Tryd.checked) (os := os) (X := fun w _ => laidMetH Tryd.prog Rows.macTagsRow.laid w) false (World.laidAll Tryd.prog os Rows.macTagsRow.laid) #[.agg #[.int .u64 0, .int .u64 0], .slice none 0 0, .slice none 0 0] 8 (World.laidAll_os _ _ _)
      (World.shaped_of_ZipB (by kernel_rfl) (by kernel_rfl)) (by kernel_rfl) (by kernel_rfl) (by kernel_rfl)
      (by rw [MakeChecks.laidMetH_plain _ _ _ (by kernel_rfl)]; exact laidMet_laidAll _ (by kernel_rfl) (by kernel_rfl))) ?_
  intro W base args ds gs before hval0 hW _ _ hsz0 hL hsh _
  have hval : ∀ (j : Nat) t v, Tryd.f6.params[j]? = some t → args[j]? = some v → Value.okWide Tryd.prog W .any base t v := hval0
  have hW' := hW
  obtain ⟨p, q, hA0, hV, rfl, hfz, hnd⟩ := hW
  have hA : DataW.TrodAll enc Tryd.prog W 0 (fun _ => true) true Tryd.f6.params.toList args.toList ds p := hA0
  rw [Tryd.params6] at hA hval
  obtain ⟨v0, vs0, d0, ds0, p0, q0, hargs, rfl, rfl, h0, r0⟩ := trodAll_cons hA
  obtain ⟨v1, vs1, d1, ds1, p1, q1, rfl, rfl, rfl, h1, r1⟩ := trodAll_cons r0
  obtain ⟨v2, vs2, d2, ds2, p2, q2, rfl, rfl, rfl, h2, r2⟩ := trodAll_cons r1
  obtain ⟨rfl, rfl, rfl⟩ := trodAll_nil r2
  obtain rfl : args = #[v0, v1, v2] := by cases args; simp_all
  obtain ⟨rfl, rfl⟩ := trodVars_none hV
  obtain ⟨a0, b0, rfl, ha0, hb0⟩ := key_open (hval 0 24 v0 rfl rfl) h0
  obtain ⟨A1, l1, c1, rfl, hi1, hw1, hc1, hl1⟩ := ints_open (hval 1 29 v1 rfl rfl) h1
  obtain ⟨A2, l2, c2, rfl, hi2, hw2, hc2, hl2⟩ := ints_open (hval 2 29 v2 rfl rfl) h2
  clear hA0 hval0
  simp only [List.append_nil] at hW'
  have hlt0 : ∀ x ∈ p0, x.block < W.heap.size := fun x hx => by simpa using hW'.lt x (by simp [hx])
  have hargs0 : ∀ (W' : World), Below W.heap.size W W' → DataW.Trod enc Tryd.prog W' 0 (fun b => decide (b < W.heap.size)) true 24 (.agg #[.int .u64 (a0 : Int), .int .u64 (b0 : Int)]) d0 p0 := fun W' hn => Below.trod laidOut (by kernel_rfl) (of_decide_eq_true (by kernel_rfl)) h0 hn hlt0
  have hlt1 : ∀ x ∈ p1, x.block < W.heap.size := fun x hx => by simpa using hW'.lt x (by simp [hx])
  have hargs1 : ∀ (W' : World), Below W.heap.size W W' → DataW.Trod enc Tryd.prog W' 0 (fun b => decide (b < W.heap.size)) true 29 (.slice A1 l1.length c1) d1 p1 := fun W' hn => Below.trod laidOut (by kernel_rfl) (of_decide_eq_true (by kernel_rfl)) h1 hn hlt1
  have hlt2 : ∀ x ∈ p2, x.block < W.heap.size := fun x hx => by simpa using hW'.lt x (by simp [hx])
  have hargs2 : ∀ (W' : World), Below W.heap.size W W' → DataW.Trod enc Tryd.prog W' 0 (fun b => decide (b < W.heap.size)) true 29 (.slice A2 l2.length c2) d2 p2 := fun W' hn => Below.trod laidOut (by kernel_rfl) (of_decide_eq_true (by kernel_rfl)) h2 hn hlt2
  refine (walk W (facts_of W hL hsh) a0 b0 ha0 hb0 A1 l1 c1 hi1 hw1 hc1 hl1 A2 l2 c2 hi2 hw2 hc2 hl2).mono fun e W' ⟨he, hb⟩ => ?_
  subst he
  exact ⟨_, rfl, _, _, _, [], p0 ++ (p1 ++ (p2 ++ ([]))), [], hW', trodAll_mk1 (shut_bool Tryd.underlying4 _), (trodAll_cons_mk (hargs0 W' hb) (trodAll_cons_mk (hargs1 W' hb) (trodAll_cons_mk (hargs2 W' hb) trodAll_mk0))), rfl, hb.frame _, fun h => by cases h⟩

theorem said : Rows.MacTagsSaid :=
  OpenClaim.holds_of_cond 6 Tryd.f6 rfl rfl rfl rfl rfl rfl rfl ⟨rfl, rfl, rfl, rfl, rfl⟩ rfl rfl rfl rfl rfl (by kernel_rfl) Tryd.func6 (by kernel_rfl)
    (of_decide_eq_true (by kernel_rfl)) (by unfold Func.isWrapper; first | (rw [if_pos (by decide +kernel)]; kernel_rfl) | (rw [if_neg (by decide +kernel)]; exact ⟨rfl, rfl⟩))
    (fun os started H enc _ F => by rw [OpenClaim.pre_eq_preRow]; exact lifted os started H enc F)

theorem plain (f : FuncId) (fn : Func) (hf : Tryd.pinned.checked.prog.funcNamed "bikeshare/bikesharelaw06.MacTags" = some f) (hfn : Tryd.pinned.checked.prog.funcs[f]? = some fn) :
    false = Tryd.pinned.checked.prog.looks [] ∧ ∀ (j : Nat) t, fn.params[j]? = some t → Tryd.pinned.checked.prog.wantsStandIn t = false := by
  obtain rfl : f = 6 := Option.some.inj ((show Tryd.prog.funcNamed "bikeshare/bikesharelaw06.MacTags" = some 6 by kernel_rfl).symm.trans hf) |>.symm
  obtain rfl : fn = Tryd.f6 := (Option.some.inj (Tryd.func6.symm.trans hfn)).symm
  refine ⟨by kernel_rfl, fun j t ht => ?_⟩
  rw [Tryd.params6] at ht
  have hm : t ∈ [24, 29, 29] := by simpa using Array.mem_of_getElem? ht
  have hall : ([24, 29, 29].all fun u => !Tryd.prog.wantsStandIn u) = true := by kernel_rfl
  exact (show Tryd.prog.wantsStandIn t = false by simpa using List.all_eq_true.1 hall t hm)

/-- The card. -/
theorem card : Rows.MacTagsCardSaid :=
  Claim7.holds_tied_plain_at .later [] _ _ _ _ said (fun _ h => by cases h) (by kernel_rfl) (fun _ h => by cases h) macTags_row_tie rfl ⟨rfl, rfl⟩ (by kernel_rfl) rfl plain (by kernel_rfl)
#print axioms card
end Go.Proofs.YthalnnhkeaanhaaDoor.macTags
