/-
  P3.2, P3.4: IdentAdds: for every list of at most 60 strings of at most 100 bytes, every such string and every integer (else the chapter's examples alone), Add, Find, Name and Len return what is specified after any additions; and the chapter's examples hold. Conditions: none but the row's own.
-/
import Derived.Test.YtagpkijgednmnaaIdtP
namespace Go.Proofs.Ytagpkijgednmnaa.identAdds
open Go.ChangeShapes Go.WideShapes Go.ChangeAt Go.RowKit Go.Maps
set_option linter.unusedVariables false

set_option maxRecDepth 100000 in
set_option maxHeartbeats 4000000 in
theorem walk (w : World) (A0 : Option Addr) (l0 : List ByteArray) (c0 : Nat) (hi0 : StR w A0 l0) (hw0 : WideS l0) (hl0 : l0.length ≤ 9223372036854775807) (s1 : ByteArray) (hs1 : s1.size ≤ 9223372036854775807) (a2 : Int) (lo2 : -9223372036854775808 ≤ a2) (hi2 : a2 ≤ 9223372036854775807) :
    Calls Try.prog 5 #[.slice A0 l0.length c0, .string s1, .int .i64 a2] w fun e w' => e = .returned (.bool true) ∧ Below w.heap.size w w' := by
  have HF := Lib.hid (few_any l0 A0 c0 w hl0 hw0 hi0)
  by_cases hf : fewB l0 = true
  rotate_left
  · have hf : fewB l0 = false := by simpa using hf
    rw [hf] at HF
    obtain ⟨n, hn⟩ : ∃ n, l0.length = n := ⟨_, rfl⟩
    rw [hn] at HF ⊢
    clear hn hi0 hw0 hl0
    go_enter Try.func5, Try.ntmps5
    go_wp2_with fail
    refine HF.out.mono ?_
    rintro e w1 ⟨rfl, rfl⟩
    go_wp2_with fail
    refine (awake_any _).mono ?_
    rintro e w9 ⟨rfl, hb9⟩
    go_wp2_with fail
    go_ret
    exact ⟨rfl, hb9⟩
  by_cases hb : 100 < s1.size
  · have hbz : (100 : Int) < (s1.size : Int) := by omega
    rw [hf] at HF
    obtain ⟨n, hn⟩ : ∃ n, l0.length = n := ⟨_, rfl⟩
    rw [hn] at HF ⊢
    clear hn hi0 hw0 hl0
    go_enter Try.func5, Try.ntmps5
    go_wp2_with fail
    refine HF.out.mono ?_
    rintro e w1 ⟨rfl, rfl⟩
    go_wp2_with fail
    refine (awake_any _).mono ?_
    rintro e w9 ⟨rfl, hb9⟩
    go_wp2_with fail
    go_ret
    exact ⟨rfl, hb9⟩
  have hbz : ¬ (100 : Int) < (s1.size : Int) := by omega
  have hlen := (of_decide_eq_true hf : _ ∧ l0.length ≤ 60).2
  rw [hf] at HF
  have HNEW := Lib.hid (fun w => new_any [] none 0 w (by decide) (fun k hk => absurd hk (Nat.not_lt_zero k)) (StR.nil w none))
  have HH := Lib.hid hi0
  have HW := Lib.hid hw0
  obtain ⟨n, hn⟩ : ∃ n, l0.length = n := ⟨_, rfl⟩
  rw [hn] at HF hlen ⊢
  have HL := Lib.hid hn
  clear hn hi0 hw0 hl0 hf hb
  go_enter Try.func5, Try.ntmps5
  go_wp2_with fail
  refine HF.out.mono ?_
  rintro e w1 ⟨rfl, rfl⟩
  go_wp2_with fail
  refine (HNEW.out _).mono ?_
  rintro e w2 ⟨hB2, ⟨_, b, S, rfl, hT, hS⟩ | ⟨hne, _⟩⟩
  rotate_left
  · exact absurd rfl hne
  have HT0 := Lib.hid hT
  have HS0 := Lib.hid hS
  clear hT hS HNEW HF
  go_wp2_with fail
  go_loopw [9, 10] (fun v i wr => ∃ (k : Nat) (S : Nat → Prop) (N : List ByteArray), k ≤ n ∧ i = .int .i64 (k : Int) ∧ Hid (Tab wr b S N) ∧ Hid (∀ x, S x → w.heap.size ≤ x) ∧ Hid (OwnS wr 0 v N) ∧ Hid (∀ g, v.ownBlock = some g → ¬ S g) ∧ Hid (N.length ≤ k) ∧ Below w.heap.size w wr) (fun _ i _ => n - (intOf i).toNat)
  case atStart => exact ⟨0, S, [], Nat.zero_le _, rfl, HT0, HS0, Lib.hid (OwnS.nil _ _), Lib.hid (fun g e => by cases e), Lib.hid (Nat.le_refl _), hB2⟩
  case round =>
    clear HT0 HS0 hB2
    obtain ⟨k, S, N, hk, rfl, hT, hS, hO, hOS, hNk, hB⟩ := hrel
    by_cases hlt : k < n
    · have hkl : k < l0.length := by rw [HL.out]; exact hlt
      obtain ⟨bb, oo, rfl, hbl, hc⟩ := (HH.out) (by omega)
      have c0 := hc k hkl
      have c0r : wr.cell? ⟨bb, oo + k, none⟩ = some (.string (l0.getD k ByteArray.empty)) := by rw [hB.cell (p := ⟨bb, oo + k, none⟩) hbl]; exact c0
      have hx := HW.out k hkl
      obtain ⟨s, hs⟩ : ∃ s, l0.getD k ByteArray.empty = s := ⟨_, rfl⟩
      rw [hs] at hx c0 c0r
      clear hs hkl hc
      have hltz : (k : Int) < (n : Int) := by omega
      obtain ⟨A1, cap1, hv1, hr1, ho1⟩ := hO.out.form
      have hN5 : N.length ≤ 512 := hT.out.1.2.1
      by_cases he : addE N s = 0
      · have HA := Lib.hid (add_ok b S N s wr hT.out hx he)
        have HE := Lib.hid he
        obtain ⟨m, hm⟩ : ∃ m, N.length = m := ⟨_, rfl⟩
        have HM := Lib.hid hm
        have HN5 := Lib.hid hN5
        have HV := Lib.hid hv1
        rw [hm] at HA hv1
        have HX := Lib.hid hx
        have HO1 := Lib.hid ho1
        have HR1 := Lib.hid hr1
        subst hv1
        clear he hm hr1 ho1 hN5 hx
        go_wp2_with fail
        refine HA.out.mono ?_
        rintro e w2 ⟨rfl, S2, hT2, hK2, hS2⟩
        have HT2 := Lib.hid hT2
        have HS2 : Hid (∀ x, S2 x → w.heap.size ≤ x) := Lib.hid (fun x hx => by rcases hS2 x hx with h | h; exact hS.out x h; exact Nat.le_trans hB.size h)
        have hB2 : Below w.heap.size w w2 := hB.trans (hK2.below hS.out hB.size)
        have HR2 : Hid (StR w2 A1 N) := Lib.hid (HR1.out.keep hK2 (fun a ha => hOS.out _ (HO1.out a ha)))
        have HAD := Lib.hid (refAdd_ok N s A1 cap1 w2 HN5.out HR2.out HX.out HE.out)
        rw [HM.out] at HAD
        have c2 : w2.cell? ⟨bb, oo + k, none⟩ = some (.string s) := by rw [hB2.cell (p := ⟨bb, oo + k, none⟩) hbl]; exact c0
        clear hT2 hK2 hS2 HA hT hO hOS HR1 HO1 c0r HR2
        go_wp2_with fail
        refine HAD.out.mono ?_
        rintro e w3 ⟨v3, rfl, hO3, hB3⟩
        have HT3 := Lib.hid (HT2.out.below hB3)
        have HO3 := Lib.hid hO3
        have HOS3 : Hid (∀ g, v3.ownBlock = some g → ¬ S2 g) := Lib.hid (fun g hg h2 => by
          have a1 := HT2.out.lt g h2
          have a2 := (World.ownsRow.lt hO3 g hg).1
          omega)
        have hB4 : Below w.heap.size w w3 := hB2.trans (hB3.mono hB2.size)
        have c3 : w3.cell? ⟨bb, oo + k, none⟩ = some (.string s) := by rw [hB4.cell (p := ⟨bb, oo + k, none⟩) hbl]; exact c0
        obtain ⟨A3, cap3, hv3, hr3, _⟩ := hO3.form
        have HSAME := Lib.hid (fun (t : ByteArray) (i : Int) (ht : t.size ≤ 9223372036854775807) => same_any b S2 (N ++ [s]) A3 cap3 t i w3 HT3.out hr3 ht)
        obtain ⟨m3, hm3⟩ : ∃ m3, (N ++ [s]).length = m3 := ⟨_, rfl⟩
        rw [hm3] at hv3 HSAME
        have hNk3 : Hid ((N ++ [s]).length ≤ k + 1) := Lib.hid (by rw [List.length_append]; have := hNk.out; simp; omega)
        subst hv3
        clear hO3 hr3 hm3 HT2 hB2 hB3 HAD c2
        go_wp2_with fail
        refine (HSAME.out _ _ hs1).mono ?_
        rintro e w4 ⟨rfl, rfl⟩
        go_wp2_with fail
        refine (HSAME.out _ _ HX.out).mono ?_
        rintro e w4 ⟨rfl, rfl⟩
        go_wp2_with fail
        go_roundw
        case rel => exact ⟨k + 1, S2, N ++ [s], by omega, by go_num, HT3, HS2, Lib.hid (HO3.out.rebase (fun g _ => Nat.zero_le g)), HOS3, hNk3, hB4⟩
        case measure => simp only [intOf]; omega
      · have HA := Lib.hid (add_err b S N s wr hT.out hx he)
        have HAD := Lib.hid (refAdd_err N s A1 cap1 wr hN5 hr1 hx he)
        have HR1 := Lib.hid hr1
        obtain ⟨m, hm⟩ : ∃ m, N.length = m := ⟨_, rfl⟩
        obtain ⟨E, hE⟩ : ∃ E, addE N s = E := ⟨_, rfl⟩
        rw [hE] at HA HAD he
        rw [hm] at HAD hv1
        have HM := Lib.hid hm
        have hz : ¬ (E : Int) = 0 := by omega
        have HX := Lib.hid hx
        subst hv1
        clear he hE hm hr1 ho1 hN5 hx
        go_wp2_with fail
        refine HA.out.mono ?_
        rintro e w2 ⟨rfl, rfl⟩
        go_wp2_with fail
        refine HAD.out.mono ?_
        rintro e w3 ⟨rfl, hB3⟩
        have HT3 := Lib.hid (hT.out.below hB3)
        have HR3 := Lib.hid (HR1.out.below hB3)
        have HO3 : Hid (OwnS w3 0 (.slice A1 m cap1) N) := Lib.hid (hO.out.keep (S := fun k => wr.heap.size ≤ k) ⟨hB3.os, hB3.tape, hB3.output, hB3.size, fun k hk _ => hB3.block k hk⟩ (fun g hg h => by
          have := (World.ownsRow.lt hO.out g hg).2
          omega))
        have HSAME := Lib.hid (fun (t : ByteArray) (i : Int) (ht : t.size ≤ 9223372036854775807) => same_any b S N A1 cap1 t i w3 HT3.out HR3.out ht)
        rw [HM.out] at HSAME
        have hB4 : Below w.heap.size w w3 := hB.trans (hB3.mono hB.size)
        have c3 : w3.cell? ⟨bb, oo + k, none⟩ = some (.string s) := by rw [hB4.cell (p := ⟨bb, oo + k, none⟩) hbl]; exact c0
        have hNk3 : Hid (N.length ≤ k + 1) := Lib.hid (Nat.le_succ_of_le hNk.out)
        clear hT hO HR1 HA HAD hB3 c0r
        go_wp2_with fail
        refine (HSAME.out _ _ hs1).mono ?_
        rintro e w4 ⟨rfl, rfl⟩
        go_wp2_with fail
        refine (HSAME.out _ _ HX.out).mono ?_
        rintro e w4 ⟨rfl, rfl⟩
        go_wp2_with fail
        go_roundw
        case rel => exact ⟨k + 1, S, N, by omega, by go_num, HT3, hS, HO3, hOS, hNk3, hB4⟩
        case measure => simp only [intOf]; omega
    · have hnlt : ¬ (k : Int) < (n : Int) := by omega
      clear hT hO hOS hS
      go_wp2_with fail
      refine (awake_any _).mono ?_
      rintro e w9 ⟨rfl, hb9⟩
      go_wp2_with fail
      go_ret
      exact ⟨rfl, hB.trans (hb9.mono hB.size)⟩

set_option maxRecDepth 100000 in
theorem lifted (os : Os) (started : os.Started) (H : Type) (enc : TypeId × Value → H) (F : Stop.Interp) :
    ReturnsInHanded {} Try.checked os 5 .any ((OpenSpec.ofChange Rows.identAddsSpec).preRow enc Try.prog Try.f5 Rows.identAddsRow.domain false Rows.identAddsRow.laid) (((OpenSpec.ofChange Rows.identAddsSpec).at F).post enc Try.prog Try.f5 false true false false) := by
  refine returnsInHanded_of_row (C := Try.checked) (s := OpenSpec.ofChange Rows.identAddsSpec) own started (by kernel_rfl) Try.func5
    (ChangeSpec.witness_shaped (enc := enc) (C := Try.checked) (os := os) (X := fun w _ => laidMetH Try.prog Rows.identAddsRow.laid w) false (World.laidAll Try.prog os Rows.identAddsRow.laid) #[.slice none 0 0, .string ⟨#[]⟩, .int .i64 0] 8 (World.laidAll_os _ _ _)
      (World.shaped_of_ZipB (by kernel_rfl) (by kernel_rfl)) (by kernel_rfl) (by kernel_rfl) (by kernel_rfl)
      (by rw [MakeChecks.laidMetH_plain _ _ _ (by kernel_rfl)]; exact laidMet_laidAll _ (by kernel_rfl) (by kernel_rfl))) ?_
  intro W base args ds gs before hval0 hW _ _ _ hL hsh _
  have hval : ∀ (j : Nat) t v, Try.f5.params[j]? = some t → args[j]? = some v → Value.okWide Try.prog W .any base t v := hval0
  have hW' := hW
  obtain ⟨p, q, hA0, hV, rfl, hfz, hnd⟩ := hW
  have hA : DataW.TrodAll enc Try.prog W 0 (fun _ => true) true Try.f5.params.toList args.toList ds p := hA0
  rw [Try.params5] at hA hval
  obtain ⟨v0, vs0, d0, ds0, p0, q0, hargs, rfl, rfl, h0, r0⟩ := trodAll_cons hA
  obtain ⟨v1, vs1, d1, ds1, p1, q1, rfl, rfl, rfl, h1, r1⟩ := trodAll_cons r0
  obtain ⟨v2, vs2, d2, ds2, p2, q2, rfl, rfl, rfl, h2, r2⟩ := trodAll_cons r1
  obtain ⟨rfl, rfl, rfl⟩ := trodAll_nil r2
  obtain rfl : args = #[v0, v1, v2] := by cases args; simp_all
  obtain ⟨rfl, rfl⟩ := trodVars_none hV
  obtain ⟨A0, l0, c0, rfl, hi0, hw0, hl0⟩ := strs_open (hval 0 24 v0 rfl rfl) h0
  obtain ⟨s1, rfl, rfl, rfl, ws1⟩ := Go.ChangeMaps.open_string Try.underlying9 (hval 1 9 v1 rfl rfl) h1
  obtain ⟨a2, rfl, rfl, rfl, w2⟩ := open_int Try.underlying3 (hval 2 3 v2 rfl rfl) h2
  have bd2 := i64_bd w2
  clear hA0 hval0
  simp only [List.append_nil] at hW'
  have hlt0 : ∀ x ∈ p0, x.block < W.heap.size := fun x hx => by simpa using hW'.lt x (by simp [hx])
  have hargs0 : ∀ (W' : World), Below W.heap.size W W' → DataW.Trod enc Try.prog W' 0 (fun b => decide (b < W.heap.size)) true 24 (.slice A0 l0.length c0) d0 p0 := fun W' hn => Below.trod laidOut (by kernel_rfl) (of_decide_eq_true (by kernel_rfl)) h0 hn hlt0
  refine (walk W A0 l0 c0 hi0 hw0 hl0 s1 ws1 a2 bd2.1 bd2.2).mono fun e W' ⟨he, hb⟩ => ?_
  subst he
  exact ⟨_, rfl, _, _, _, [], p0 ++ ([]), [], hW', trodAll_mk1 (shut_bool Try.underlying4 _), (trodAll_cons_mk (hargs0 W' hb) (trodAll_cons_mk (Go.ChangeMaps.shut_string Try.underlying9 ws1) (trodAll_cons_mk (shut_int Try.underlying3 w2) trodAll_mk0))), rfl, hb.frame _, fun h => by cases h⟩

theorem said : Rows.IdentAddsSaid :=
  OpenClaim.holds_of_cond 5 Try.f5 rfl rfl rfl rfl rfl rfl rfl ⟨rfl, rfl, rfl, rfl, rfl⟩ rfl rfl rfl rfl rfl (by kernel_rfl) Try.func5 (by kernel_rfl)
    (of_decide_eq_true (by kernel_rfl)) (by unfold Func.isWrapper; first | (rw [if_pos (by decide +kernel)]; kernel_rfl) | (rw [if_neg (by decide +kernel)]; exact ⟨rfl, rfl⟩))
    (fun os started H enc _ F => by rw [OpenClaim.pre_eq_preRow]; exact lifted os started H enc F)
#print axioms said
end Go.Proofs.Ytagpkijgednmnaa.identAdds
