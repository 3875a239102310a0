/-
  P3.2: IdentFull: for every string of at most 100 bytes (else the chapter's examples alone), a table takes 512 identifiers and no further one, but still says of those that it has, and of strings that are none, what is wrong with them; and the chapter's examples hold. Conditions: none but the row's own.
-/
import Derived.Test.YtagpkijgednmnaaIdtP
namespace Go.Proofs.Ytagpkijgednmnaa.identFull
open Go.ChangeShapes Go.WideShapes Go.ChangeAt Go.RowKit Go.Maps
set_option linter.unusedVariables false

/-- What the law wants of Add, behind j comparisons. -/
def wn (s : ByteArray) (j : Nat) : Nat := if s ∈ longs j then 6 else if Vd s = true then 8 else 5
theorem wn_pos (s : ByteArray) (j : Nat) : wn s j ≠ 0 := by unfold wn; split <;> (try split) <;> omega
theorem wn_zero (s : ByteArray) : wn s 0 = if Vd s = true then 8 else 5 := by unfold wn; rw [if_neg (by simp [longs])]
theorem wn_hit {s : ByteArray} (j : Nat) (h : s = longB j) : wn s (j + 1) = 6 := by unfold wn; rw [if_pos (by rw [longs_succ, h]; simp)]
theorem wn_miss {s : ByteArray} (j : Nat) (h : s ≠ longB j) : wn s (j + 1) = wn s j := by
  unfold wn
  have : s ∈ longs (j + 1) ↔ s ∈ longs j := by rw [longs_succ]; simp [h]
  by_cases hm : s ∈ longs j
  · rw [if_pos hm, if_pos (this.2 hm)]
  · rw [if_neg hm, if_neg (fun e => hm (this.1 e))]
theorem wn_end (s : ByteArray) : addE (longs 512) s = wn s 512 := by
  unfold wn
  by_cases hm : s ∈ longs 512
  · obtain ⟨j, hj, rfl⟩ := longs_mem.1 hm
    rw [if_pos hm, addE_twice (longB_ok j hj) hm]
  · rw [if_neg hm]
    by_cases hv : Vd s = true
    · rw [if_pos hv, addE_full hv hm (longs_length 512)]
    · rw [if_neg hv, addE_name (by simpa using hv)]
set_option maxRecDepth 100000 in
set_option maxHeartbeats 4000000 in
theorem walk (w : World) (s0 : ByteArray) (hs0 : s0.size ≤ 9223372036854775807) :
    Calls Try.prog 8 #[.string s0] w fun e w' => e = .returned (.bool true) ∧ Below w.heap.size w w' := by
  by_cases hb : 100 < s0.size
  · have hbz : (100 : Int) < (s0.size : Int) := by omega
    go_enter Try.func8, Try.ntmps8
    go_wp2_with fail
    refine (awake_any _).mono ?_
    rintro e w9 ⟨rfl, hb9⟩
    go_wp2_with fail
    go_ret
    exact ⟨rfl, hb9⟩
  have hbz : ¬ (100 : Int) < (s0.size : Int) := by omega
  have HNEW := Lib.hid (fun w => new_any [] none 0 w (by decide) (fun k hk => absurd hk (Nat.not_lt_zero k)) (StR.nil w none))
  have HV := Lib.hid (fun w => refValid_any s0 w hs0)
  have HS := Lib.hid hs0
  go_enter Try.func8, Try.ntmps8
  go_wp2_with fail
  refine (HNEW.out _).mono ?_
  rintro e w2 ⟨hB2, ⟨_, b, S, rfl, hT, hS⟩ | ⟨hne, _⟩⟩
  rotate_left
  · exact absurd rfl hne
  have HT0 := Lib.hid hT
  have HS0 := Lib.hid hS
  clear hT hS HNEW
  go_wp2_with fail
  go_loopw [5] (fun i wr => ∃ (k : Nat) (S : Nat → Prop), k ≤ 512 ∧ i = .int .i64 (k : Int) ∧ Hid (Tab wr b S (longs k)) ∧ Hid (∀ x, S x → w.heap.size ≤ x) ∧ Below w.heap.size w wr) (fun i _ => 512 - (intOf i).toNat)
  case atStart => exact ⟨0, S, Nat.zero_le _, rfl, HT0, HS0, hB2⟩
  case round =>
    clear HT0 HS0 hB2
    obtain ⟨k, S, hk, rfl, hT, hS, hB⟩ := hrel
    by_cases hlt : k < 512
    · have hltz : (k : Int) < 512 := by omega
      have HA := Lib.hid (fun w1 (h : Tab w1 b S (longs k)) => add_ok b S (longs k) (longB k) w1 h (by rw [longB_size]; omega) (longs_add k hlt))
      rw [longs_length, ← longs_succ] at HA
      go_wp2_with fail
      refine (long_any k _ hlt).mono ?_
      rintro e w1 ⟨rfl, hB1⟩
      have HT1 := Lib.hid (hT.out.below hB1)
      have hB1' : Below w.heap.size w w1 := hB.trans (hB1.mono hB.size)
      have hsz1 := hB1.size
      clear hT hB1
      go_wp2_with fail
      refine (HA.out _ HT1.out).mono ?_
      rintro e w2 ⟨rfl, S2, hT2, hK2, hS2⟩
      have HT2 := Lib.hid hT2
      have HS2 : Hid (∀ x, S2 x → w.heap.size ≤ x) := Lib.hid (fun x hx => by rcases hS2 x hx with h | h; exact hS.out x h; exact Nat.le_trans hB1'.size h)
      have hB2 : Below w.heap.size w w2 := hB1'.trans (hK2.below hS.out hB1'.size)
      clear hT2 hK2 hS2 hS HA HT1
      go_wp2_with fail
      go_roundw
      case rel => exact ⟨k + 1, S2, by omega, by go_num, HT2, HS2, hB2⟩
      case measure => simp only [intOf]; omega
    · have hnlt : ¬ (k : Int) < 512 := by omega
      obtain rfl : k = 512 := by omega
      have HW9 := Lib.hid (wn_end s0)
      have HA := Lib.hid (add_err b S (longs 512) s0 wr hT.out HS.out (by rw [HW9.out]; exact wn_pos s0 512))
      have HA2 := Lib.hid (fun w1 (h : Tab w1 b S (longs 512)) => add_err b S (longs 512) (longB 511) w1 h (by rw [longB_size]; omega) (by rw [addE_twice (longB_ok 511 (by omega)) (longs_plc 511 (by omega)).1]; decide))
      rw [addE_twice (longB_ok 511 (by omega)) (longs_plc 511 (by omega)).1] at HA2
      have HF2 := Lib.hid (fun w1 (h : Tab w1 b S (longs 512)) => find_in b S (longs 512) (longB 300) w1 h (by rw [longB_size]; omega) (longs_plc 300 (by omega)).1)
      rw [(longs_plc 300 (by omega)).2] at HF2
      have HL2 := Lib.hid (fun w1 (h : Tab w1 b S (longs 512)) => len_any b S (longs 512) w1 h)
      rw [longs_length] at HL2
      have HW0 := Lib.hid (wn_zero s0)
      have HHIT := Lib.hid (wn_hit (s := s0))
      have HMISS := Lib.hid (wn_miss (s := s0))
      rw [HW9.out] at HA
      obtain ⟨E, hE⟩ : ∃ E, wn s0 512 = E := ⟨_, rfl⟩
      rw [hE] at HA
      have HE := Lib.hid hE
      clear hE HW9 hS
      go_wp2_with fail
      refine HA.out.mono ?_
      rintro e w1 ⟨rfl, rfl⟩
      go_wp2_with fail
      refine (long_any 511 _ (by omega)).mono ?_
      rintro e w1 ⟨rfl, hB1⟩
      have HT1 := Lib.hid (hT.out.below hB1)
      have hB1' : Below w.heap.size w w1 := hB.trans (hB1.mono hB.size)
      clear hT hB1 HA
      go_wp2_with fail
      refine (HA2.out _ HT1.out).mono ?_
      rintro e w2 ⟨rfl, rfl⟩
      go_wp2_with fail
      refine (long_any 300 _ (by omega)).mono ?_
      rintro e w2 ⟨rfl, hB2⟩
      have HT2 := Lib.hid (HT1.out.below hB2)
      have hB2' : Below w.heap.size w w2 := hB1'.trans (hB2.mono hB1'.size)
      clear HT1 hB2 HA2
      go_wp2_with fail
      refine (HF2.out _ HT2.out).mono ?_
      rintro e w3 ⟨rfl, rfl⟩
      clear HF2
      go_wp2_with fail
      refine (HV.out _).mono ?_
      rintro e w3 ⟨rfl, hB3⟩
      have HT3 := Lib.hid (HT2.out.below hB3)
      have hB3' : Below w.heap.size w w3 := hB2'.trans (hB3.mono hB2'.size)
      clear HT2 hB3 HV hB2' hB1' hB
      cases hvd : Vd s0
      all_goals
        rw [hvd] at HW0
        clear hvd
        have hw0 := HW0.out
        go_wp2_with fail
        go_loopw [14, 15] (fun v i wr => ∃ (j : Nat), j ≤ 512 ∧ i = .int .i64 (j : Int) ∧ v = .int .i64 (wn s0 j : Int) ∧ Hid (Tab wr b S (longs 512)) ∧ Below w.heap.size w wr) (fun _ i _ => 512 - (intOf i).toNat)
        case atStart => exact ⟨0, Nat.zero_le _, rfl, val_int' (by rw [hw0]; rfl), HT3, hB3'⟩
        case round =>
          clear HT3 hB3' hw0 HW0
          obtain ⟨j, hj, rfl, rfl, hT, hB⟩ := hrel
          by_cases hlt : j < 512
          · have hltz : (j : Int) < 512 := by omega
            go_wp2_with fail
            refine (long_any j _ hlt).mono ?_
            rintro e w4 ⟨rfl, hB4⟩
            have HT4 := Lib.hid (hT.out.below hB4)
            have hB4' : Below w.heap.size w w4 := hB.trans (hB4.mono hB.size)
            clear hT hB4
            by_cases heq : s0 = longB j
            · have HX := Lib.hid (HHIT.out j heq)
              have hb1 : (s0.toList == (longB j).toList) = true := by rw [← heq]; exact beq_self_eq_true _
              clear heq
              go_wp2_with fail
              go_roundw
              case rel => exact ⟨j + 1, by omega, by go_num, val_int' (by rw [HX.out]; rfl), HT4, hB4'⟩
              case measure => simp only [intOf]; omega
            · have HX := Lib.hid (HMISS.out j heq)
              have hb1 := str_ne heq
              go_wp2_with fail
              go_roundw
              case rel => exact ⟨j + 1, by omega, by go_num, val_int' (by rw [HX.out]), HT4, hB4'⟩
              case measure => simp only [intOf]; omega
          · have hnlt : ¬ (j : Int) < 512 := by omega
            obtain rfl : j = 512 := by omega
            have hE := HE.out
            go_wp2_with fail
            refine (HL2.out _ hT.out).mono ?_
            rintro e w4 ⟨rfl, rfl⟩
            go_wp2_with fail
            refine (awake_any _).mono ?_
            rintro e w9 ⟨rfl, hb9⟩
            go_wp2_with fail
            go_ret
            exact ⟨rfl, hB.trans (hb9.mono hB.size)⟩

set_option maxRecDepth 100000 in
theorem lifted (os : Os) (started : os.Started) (H : Type) (enc : TypeId × Value → H) (F : Stop.Interp) :
    ReturnsInHanded {} Try.checked os 8 .any ((OpenSpec.ofChange Rows.identFullSpec).preRow enc Try.prog Try.f8 Rows.identFullRow.domain false Rows.identFullRow.laid) (((OpenSpec.ofChange Rows.identFullSpec).at F).post enc Try.prog Try.f8 false true false false) := by
  refine returnsInHanded_of_row (C := Try.checked) (s := OpenSpec.ofChange Rows.identFullSpec) own started (by kernel_rfl) Try.func8
    (ChangeSpec.witness_shaped (enc := enc) (C := Try.checked) (os := os) (X := fun w _ => laidMetH Try.prog Rows.identFullRow.laid w) false (World.laidAll Try.prog os Rows.identFullRow.laid) #[.string ⟨#[]⟩] 8 (World.laidAll_os _ _ _)
      (World.shaped_of_ZipB (by kernel_rfl) (by kernel_rfl)) (by kernel_rfl) (by kernel_rfl) (by kernel_rfl)
      (by rw [MakeChecks.laidMetH_plain _ _ _ (by kernel_rfl)]; exact laidMet_laidAll _ (by kernel_rfl) (by kernel_rfl))) ?_
  intro W base args ds gs before hval0 hW _ _ _ hL hsh _
  have hval : ∀ (j : Nat) t v, Try.f8.params[j]? = some t → args[j]? = some v → Value.okWide Try.prog W .any base t v := hval0
  have hW' := hW
  obtain ⟨p, q, hA0, hV, rfl, hfz, hnd⟩ := hW
  have hA : DataW.TrodAll enc Try.prog W 0 (fun _ => true) true Try.f8.params.toList args.toList ds p := hA0
  rw [Try.params8] at hA hval
  obtain ⟨v0, vs0, d0, ds0, p0, q0, hargs, rfl, rfl, h0, r0⟩ := trodAll_cons hA
  obtain ⟨rfl, rfl, rfl⟩ := trodAll_nil r0
  obtain rfl : args = #[v0] := by cases args; simp_all
  obtain ⟨rfl, rfl⟩ := trodVars_none hV
  obtain ⟨s0, rfl, rfl, rfl, ws0⟩ := Go.ChangeMaps.open_string Try.underlying9 (hval 0 9 v0 rfl rfl) h0
  clear hA0 hval0
  simp only [List.append_nil] at hW'
  refine (walk W s0 ws0).mono fun e W' ⟨he, hb⟩ => ?_
  subst he
  exact ⟨_, rfl, _, _, _, [], [], [], hW', trodAll_mk1 (shut_bool Try.underlying4 _), (trodAll_cons_mk (Go.ChangeMaps.shut_string Try.underlying9 ws0) trodAll_mk0), rfl, hb.frame _, fun h => by cases h⟩

theorem said : Rows.IdentFullSaid :=
  OpenClaim.holds_of_cond 8 Try.f8 rfl rfl rfl rfl rfl rfl rfl ⟨rfl, rfl, rfl, rfl, rfl⟩ rfl rfl rfl rfl rfl (by kernel_rfl) Try.func8 (by kernel_rfl)
    (of_decide_eq_true (by kernel_rfl)) (by unfold Func.isWrapper; first | (rw [if_pos (by decide +kernel)]; kernel_rfl) | (rw [if_neg (by decide +kernel)]; exact ⟨rfl, rfl⟩))
    (fun os started H enc _ F => by rw [OpenClaim.pre_eq_preRow]; exact lifted os started H enc F)
#print axioms said
end Go.Proofs.Ytagpkijgednmnaa.identFull
