/-
  P3.3: IdentTable: for every list of at most 60 strings of at most 100 bytes (else the chapter's examples alone), every identifier of a table is found at its number, and every number has the identifier that is found there; and the chapter's examples hold. Conditions: none but the row's own.
-/
import Derived.Test.YtagpkijgednmnaaIdtP
namespace Go.Proofs.Ytagpkijgednmnaa.identTable
open Go.ChangeShapes Go.WideShapes Go.ChangeAt Go.RowKit Go.Maps
set_option linter.unusedVariables false

set_option maxRecDepth 100000 in
set_option maxHeartbeats 4000000 in
theorem walk (w : World) (A0 : Option Addr) (l0 : List ByteArray) (c0 : Nat) (hi0 : StR w A0 l0) (hw0 : WideS l0) (hl0 : l0.length ≤ 9223372036854775807) :
    Calls Try.prog 6 #[.slice A0 l0.length c0] w fun e w' => e = .returned (.bool true) ∧ Below w.heap.size w w' := by
  have HF := Lib.hid (few_any l0 A0 c0 w hl0 hw0 hi0)
  by_cases hf : fewB l0 = true
  rotate_left
  · have hf : fewB l0 = false := by simpa using hf
    rw [hf] at HF
    obtain ⟨n, hn⟩ : ∃ n, l0.length = n := ⟨_, rfl⟩
    rw [hn] at HF ⊢
    clear hn hi0 hw0 hl0
    go_enter Try.func6, Try.ntmps6
    go_wp2_with fail
    refine HF.out.mono ?_
    rintro e w1 ⟨rfl, rfl⟩
    go_wp2_with fail
    refine (awake_any _).mono ?_
    rintro e w9 ⟨rfl, hb9⟩
    go_wp2_with fail
    go_ret
    exact ⟨rfl, hb9⟩
  have hlen := (of_decide_eq_true hf : _ ∧ l0.length ≤ 60).2
  rw [hf] at HF
  have HNEW := Lib.hid (fun w => new_any [] none 0 w (by decide) (fun k hk => absurd hk (Nat.not_lt_zero k)) (StR.nil w none))
  have HH := Lib.hid hi0
  have HW := Lib.hid hw0
  obtain ⟨n, hn⟩ : ∃ n, l0.length = n := ⟨_, rfl⟩
  rw [hn] at HF hlen ⊢
  have HL := Lib.hid hn
  clear hn hi0 hw0 hl0 hf
  go_enter Try.func6, Try.ntmps6
  go_wp2_with fail
  refine HF.out.mono ?_
  rintro e w1 ⟨rfl, rfl⟩
  go_wp2_with fail
  refine (HNEW.out _).mono ?_
  rintro e w2 ⟨hB2, ⟨_, b, S, rfl, hT, hS⟩ | ⟨hne, _⟩⟩
  rotate_left
  · exact absurd rfl hne
  have HT0 := Lib.hid hT
  have HS0 := Lib.hid hS
  clear hT hS HNEW HF
  go_wp2_with fail
  go_loopw [5, 6] (fun v i wr => ∃ (k : Nat) (S : Nat → Prop) (N : List ByteArray), k ≤ n ∧ i = .int .i64 (k : Int) ∧ Hid (Tab wr b S N) ∧ Hid (∀ x, S x → w.heap.size ≤ x) ∧ Hid (OwnS wr 0 v N) ∧ Hid (∀ g, v.ownBlock = some g → ¬ S g ∧ w.heap.size ≤ g) ∧ Hid (N.length ≤ k) ∧ Below w.heap.size w wr) (fun _ i _ => n - (intOf i).toNat)
  case atStart => exact ⟨0, S, [], Nat.zero_le _, rfl, HT0, HS0, Lib.hid (OwnS.nil _ _), Lib.hid (fun g e => by cases e), Lib.hid (Nat.le_refl _), hB2⟩
  case round =>
    clear HT0 HS0 hB2
    obtain ⟨k, S, N, hk, rfl, hT, hS, hO, hOS, hNk, hB⟩ := hrel
    by_cases hlt : k < n
    · have hkl : k < l0.length := by rw [HL.out]; exact hlt
      obtain ⟨bb, oo, rfl, hbl, hc⟩ := (HH.out) (by omega)
      have c0 := hc k hkl
      have c0r : wr.cell? ⟨bb, oo + k, none⟩ = some (.string (l0.getD k ByteArray.empty)) := by rw [hB.cell (p := ⟨bb, oo + k, none⟩) hbl]; exact c0
      have hx := HW.out k hkl
      obtain ⟨s, hs⟩ : ∃ s, l0.getD k ByteArray.empty = s := ⟨_, rfl⟩
      rw [hs] at hx c0 c0r
      clear hs hkl hc
      have hltz : (k : Int) < (n : Int) := by omega
      obtain ⟨A1, cap1, hv1, _, _⟩ := hO.out.form
      have hNk2 := hNk.out
      by_cases he : addE N s = 0
      · have HA := Lib.hid (add_ok b S N s wr hT.out hx he)
        obtain ⟨m, hm⟩ : ∃ m, N.length = m := ⟨_, rfl⟩
        have HM := Lib.hid hm
        rw [hm] at HA hv1 hNk2
        subst hv1
        clear he hm hx
        go_wp2_with fail
        refine HA.out.mono ?_
        rintro e w2 ⟨rfl, S2, hT2, hK2, hS2⟩
        have HT2 := Lib.hid hT2
        have HS2 : Hid (∀ x, S2 x → w.heap.size ≤ x) := Lib.hid (fun x hx => by rcases hS2 x hx with h | h; exact hS.out x h; exact Nat.le_trans hB.size h)
        have hB2 : Below w.heap.size w w2 := hB.trans (hK2.below hS.out hB.size)
        have HO2 : Hid (OwnS w2 0 (.slice A1 m cap1) N) := Lib.hid (hO.out.keep hK2 (fun g hg => (hOS.out g hg).1))
        have HOS2 : Hid (∀ g, (Value.slice A1 m cap1).ownBlock = some g → ¬ S2 g ∧ w.heap.size ≤ g) := Lib.hid (fun g hg => ⟨fun h2 => by
          have a1 := (World.ownsRow.lt hO.out g hg).2
          rcases hS2 g h2 with h | h
          · exact (hOS.out g hg).1 h
          · omega, (hOS.out g hg).2⟩)
        have c2 : w2.cell? ⟨bb, oo + k, none⟩ = some (.string s) := by rw [hB2.cell (p := ⟨bb, oo + k, none⟩) hbl]; exact c0
        clear hT2 hK2 hS2 HA hT hO hOS c0r hS
        go_wp2_with (at_builtin; refine wpList_append_str rfl _ _ rfl 0 (.slice A1 m cap1) N rfl (HO2.out.keep ((Keep.refl (fun _ => False) _).alloc _) (fun g _ e => e)) w2.heap.size _ s rfl ?x0 ?x1 ?x2 ?_)
        case x0 => rw [World.cell?_alloc_new]; rfl
        case x1 => rw [HM.out]; omega
        case x2 => exact Nat.zero_le _
        intro v4 w4 hO4 hg4 hat4
        have hK4 : Keep (fun k => (Value.slice A1 m cap1).ownBlock = some k) w2 w4 := (Keep.refl _ _).alloc _ |>.grown hg4.out (fun k e => Or.inl e)
        have HT4 : Hid (Tab w4 b S2 (N ++ [s])) := Lib.hid (HT2.out.keep hK4 (fun g hg e => (HOS2.out g e).1 hg))
        have hB4 : Below w.heap.size w w4 := hB2.trans (hK4.below (fun g e => (HOS2.out g e).2) hB2.size)
        have HOS4 : Hid (∀ g, v4.ownBlock = some g → ¬ S2 g ∧ w.heap.size ≤ g) := Lib.hid (fun g hg => by
          rcases hat4 with h | h
          · rw [hg] at h
            exact HOS2.out g h.symm
          · rw [hg] at h
            injection h with h
            have a2 := hB2.size
            exact ⟨fun h2 => by have a1 := HT2.out.lt g h2; omega, by omega⟩)
        have hNk4 : Hid ((N ++ [s]).length ≤ k + 1) := Lib.hid (by rw [List.length_append, HM.out]; simp; omega)
        clear HT2 HO2 HOS2 hg4 hat4 hK4 hB2 c2
        go_wp2_with fail
        go_roundw
        case rel => exact ⟨k + 1, S2, N ++ [s], by omega, by go_num, HT4, HS2, hO4, HOS4, hNk4, hB4⟩
        case measure => simp only [intOf]; omega
      · have HA := Lib.hid (add_err b S N s wr hT.out hx he)
        obtain ⟨E, hE⟩ : ∃ E, addE N s = E := ⟨_, rfl⟩
        rw [hE] at HA he
        have hz : ¬ (E : Int) = 0 := by omega
        have hNk3 : Hid (N.length ≤ k + 1) := Lib.hid (Nat.le_succ_of_le hNk2)
        clear he hE hx hv1 hNk2
        go_wp2_with fail
        refine HA.out.mono ?_
        rintro e w2 ⟨rfl, rfl⟩
        go_wp2_with fail
        go_roundw
        case rel => exact ⟨k + 1, S, N, by omega, by go_num, hT, hS, hO, hOS, hNk3, hB⟩
        case measure => simp only [intOf]; omega
    · have hnlt : ¬ (k : Int) < (n : Int) := by omega
      have HLN := Lib.hid (len_any b S N wr hT.out)
      have HNAME := Lib.hid (fun j => name_in b S N j wr hT.out)
      have HFIND := Lib.hid (fun s hs hi => find_in b S N s wr hT.out hs hi)
      have HNICE := Lib.hid hT.out.1
      obtain ⟨A1, cap1, hv1, hr1, _⟩ := hO.out.form
      have HR1 := Lib.hid hr1
      have hN5 := hT.out.1.2.1
      obtain ⟨m, hm⟩ : ∃ m, N.length = m := ⟨_, rfl⟩
      have HM := Lib.hid hm
      rw [hm] at HLN HNAME hv1 hN5
      subst hv1
      clear hT hO hOS hS hm hr1 hNk
      go_wp2_with fail
      refine HLN.out.mono ?_
      rintro e w2 ⟨rfl, rfl⟩
      go_wp2_with fail
      go_loop [9] (fun i => ∃ j : Nat, j ≤ m ∧ i = .int .i64 (j : Int)) (fun i => m - (intOf i).toNat)
      case atStart => exact ⟨0, Nat.zero_le _, rfl⟩
      case round =>
        obtain ⟨j, hj, rfl⟩ := hrel
        by_cases hjm : j < m
        · have hjz : (j : Int) < (m : Int) := by omega
          have hjl : j < N.length := by rw [HM.out]; exact hjm
          obtain ⟨b4, o4, rfl, hb4, hc4⟩ := HR1.out (by omega)
          have c4 := hc4 j hjl
          have hmem : N.getD j ByteArray.empty ∈ N := by simp [hjl]
          have HN1 := Lib.hid (HNAME.out j hjm)
          have hv := HNICE.out.2.2 _ hmem
          have hsz := Vd_size hv
          have HF1 := Lib.hid (HFIND.out _ (by omega) hmem)
          rw [plc_get HNICE.out.1 j hjl] at HF1
          have HV1 := Lib.hid (fun w => valid_any (N.getD j ByteArray.empty) w (by omega))
          rw [hv] at HV1
          obtain ⟨t, ht⟩ : ∃ t, N.getD j ByteArray.empty = t := ⟨_, rfl⟩
          rw [ht] at HN1 HF1 HV1 c4
          clear hmem hv hsz ht hjl hc4
          go_wp2_with fail
          refine HN1.out.mono ?_
          rintro e w2 ⟨rfl, rfl⟩
          go_wp2_with fail
          refine HF1.out.mono ?_
          rintro e w2 ⟨rfl, rfl⟩
          go_wp2_with fail
          refine (HV1.out _).mono ?_
          rintro e w2 ⟨rfl, rfl⟩
          go_wp2_with fail
          go_round
          case rel => exact ⟨j + 1, by omega, by go_num⟩
          case measure => simp only [intOf]; omega
        · have hjz : ¬ (j : Int) < (m : Int) := by omega
          go_wp2_with fail
          refine (awake_any _).mono ?_
          rintro e w9 ⟨rfl, hb9⟩
          go_wp2_with fail
          go_ret
          exact ⟨rfl, hB.trans (hb9.mono hB.size)⟩

set_option maxRecDepth 100000 in
theorem lifted (os : Os) (started : os.Started) (H : Type) (enc : TypeId × Value → H) (F : Stop.Interp) :
    ReturnsInHanded {} Try.checked os 6 .any ((OpenSpec.ofChange Rows.identTableSpec).preRow enc Try.prog Try.f6 Rows.identTableRow.domain false Rows.identTableRow.laid) (((OpenSpec.ofChange Rows.identTableSpec).at F).post enc Try.prog Try.f6 false true false false) := by
  refine returnsInHanded_of_row (C := Try.checked) (s := OpenSpec.ofChange Rows.identTableSpec) own started (by kernel_rfl) Try.func6
    (ChangeSpec.witness_shaped (enc := enc) (C := Try.checked) (os := os) (X := fun w _ => laidMetH Try.prog Rows.identTableRow.laid w) false (World.laidAll Try.prog os Rows.identTableRow.laid) #[.slice none 0 0] 8 (World.laidAll_os _ _ _)
      (World.shaped_of_ZipB (by kernel_rfl) (by kernel_rfl)) (by kernel_rfl) (by kernel_rfl) (by kernel_rfl)
      (by rw [MakeChecks.laidMetH_plain _ _ _ (by kernel_rfl)]; exact laidMet_laidAll _ (by kernel_rfl) (by kernel_rfl))) ?_
  intro W base args ds gs before hval0 hW _ _ _ hL hsh _
  have hval : ∀ (j : Nat) t v, Try.f6.params[j]? = some t → args[j]? = some v → Value.okWide Try.prog W .any base t v := hval0
  have hW' := hW
  obtain ⟨p, q, hA0, hV, rfl, hfz, hnd⟩ := hW
  have hA : DataW.TrodAll enc Try.prog W 0 (fun _ => true) true Try.f6.params.toList args.toList ds p := hA0
  rw [Try.params6] at hA hval
  obtain ⟨v0, vs0, d0, ds0, p0, q0, hargs, rfl, rfl, h0, r0⟩ := trodAll_cons hA
  obtain ⟨rfl, rfl, rfl⟩ := trodAll_nil r0
  obtain rfl : args = #[v0] := by cases args; simp_all
  obtain ⟨rfl, rfl⟩ := trodVars_none hV
  obtain ⟨A0, l0, c0, rfl, hi0, hw0, hl0⟩ := strs_open (hval 0 24 v0 rfl rfl) h0
  clear hA0 hval0
  simp only [List.append_nil] at hW'
  have hlt0 : ∀ x ∈ p0, x.block < W.heap.size := fun x hx => by simpa using hW'.lt x (by simp [hx])
  have hargs0 : ∀ (W' : World), Below W.heap.size W W' → DataW.Trod enc Try.prog W' 0 (fun b => decide (b < W.heap.size)) true 24 (.slice A0 l0.length c0) d0 p0 := fun W' hn => Below.trod laidOut (by kernel_rfl) (of_decide_eq_true (by kernel_rfl)) h0 hn hlt0
  refine (walk W A0 l0 c0 hi0 hw0 hl0).mono fun e W' ⟨he, hb⟩ => ?_
  subst he
  exact ⟨_, rfl, _, _, _, [], p0 ++ ([]), [], hW', trodAll_mk1 (shut_bool Try.underlying4 _), (trodAll_cons_mk (hargs0 W' hb) trodAll_mk0), rfl, hb.frame _, fun h => by cases h⟩

theorem said : Rows.IdentTableSaid :=
  OpenClaim.holds_of_cond 6 Try.f6 rfl rfl rfl rfl rfl rfl rfl ⟨rfl, rfl, rfl, rfl, rfl⟩ rfl rfl rfl rfl rfl (by kernel_rfl) Try.func6 (by kernel_rfl)
    (of_decide_eq_true (by kernel_rfl)) (by unfold Func.isWrapper; first | (rw [if_pos (by decide +kernel)]; kernel_rfl) | (rw [if_neg (by decide +kernel)]; exact ⟨rfl, rfl⟩))
    (fun os started H enc _ F => by rw [OpenClaim.pre_eq_preRow]; exact lifted os started H enc F)
#print axioms said
end Go.Proofs.Ytagpkijgednmnaa.identTable
