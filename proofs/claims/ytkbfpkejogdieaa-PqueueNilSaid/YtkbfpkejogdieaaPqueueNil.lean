/-
  P7.4, P7.5: PqueueNil: New(nil) is nil, a nil queue is empty and takes nothing, and for every list of at most 100 integers (else the chapter's example alone) Merge with a nil queue or with the queue itself has no effect; and the chapter's second example holds. Conditions: none but the row's own.
-/
import Derived.Test.YtkbfpkejogdieaaPqQ
namespace Go.Proofs.Ytkbfpkejogdieaa.pqueueNil
open Go.ChangeShapes Go.WideShapes Go.ChangeAt Go.RowKit
set_option linter.unusedVariables false

set_option maxRecDepth 100000 in
set_option maxHeartbeats 4000000 in
theorem walk (w : World) (A0 : Option Addr) (l0 : List Int) (c0 : Nat) (hi0 : IntR w A0 l0) (hw0 : WideI l0) (hc0 : l0.length ≤ c0) (hl0 : l0.length ≤ 9223372036854775807) :
    Calls Try.prog 8 #[.slice A0 l0.length c0] w fun e w' => e = .returned (.bool true) ∧ Below w.heap.size w w' := by
  obtain ⟨n, hn⟩ : ∃ n, l0.length = n := ⟨_, rfl⟩
  rw [hn] at hc0 hl0 ⊢
  by_cases hb : 100 < n
  · have hbz : (100 : Int) < (n : Int) := by omega
    clear hi0 hw0 hn
    go_enter Try.func8, Try.ntmps8
    go_wp2_with fail
    refine (awake_any _).mono ?_
    rintro e w9 ⟨rfl, hb9⟩
    go_wp2_with fail
    go_ret
    exact ⟨rfl, hb9⟩
  have hbz : ¬ (100 : Int) < (n : Int) := by omega
  have HN := Lib.hid hn
  have HI := Lib.hid hi0
  have hpn := ptrI_neq
  have hne := run_neqI 0 0
  have hgN := run_guardN
  clear hi0 hw0 hn
  go_enter Try.func8, Try.ntmps8
  go_wp2_with fail
  refine (newI_nil _).mono ?_
  rintro e w' ⟨rfl, rfl⟩
  go_wp2_with fail
  refine (push_nil (1, 1) _).mono ?_
  rintro e w1 ⟨rfl, hb1⟩
  go_wp2_with fail
  refine (pop_nil _).mono ?_
  rintro e w2 ⟨rfl, hb2⟩
  unfold hdV
  have hb12 := Below.step hb1 hb2
  clear hb1 hb2
  go_wp2_with fail
  refine (peek_nil _).mono ?_
  rintro e w3 ⟨rfl, hb3⟩
  have hv3 : VarI w3 w2.heap.size (0, 0) := (VarI.made w2 (0, 0) 27).below hb3
  obtain ⟨v0, v1, v2, v3⟩ := hv3
  simp only at v0 v1
  have hw23 : w2.heap.size < w3.heap.size := World.block_lt_of_cell? _ _ v0
  have hb13 : Below w.heap.size w w3 := Below.step (hb12.alloc hb12.size _) hb3
  clear hb12 hb3
  go_wp2_with fail
  refine (len_nil _).mono ?_
  rintro e w' ⟨rfl, rfl⟩
  go_wp2_with fail
  refine (new_up _).mono ?_
  rintro e w4 ⟨q, Sq, rfl, hq4, hs4, hb4⟩
  have hB4 : Below w.heap.size w w4 := Below.step (hb13.alloc hb13.size _) hb4
  have HQ4 := Lib.hid hq4
  have HS4 : Hid (∀ k, Sq k → w.heap.size ≤ k) := Lib.hid (fun k e => by
    have h1 := hs4 k e
    have := hb13.size
    simp at h1; omega)
  clear hq4 hs4 hb4 hb13 v0 v1 v2 v3 hw23
  go_wp2_with fail
  refine (fill0_any q Sq false l0 n c0 A0 w4 HQ4.out (by omega) HN.out (HI.out.below hB4) (arg_apart (w1 := w4) HN.out HI.out HS4.out)).mono ?_
  rintro e w5 ⟨B, d, S5, rfl, hd5, hr5, hq5, hk5, hs5, hbk⟩
  have hB5 : Below w.heap.size w w5 := hB4.trans (hk5.below HS4.out hB4.size)
  have HQ5 := Lib.hid hq5
  have HR5 := Lib.hid hr5
  have HBK := Lib.hid hbk
  have HS5 : Hid (∀ k, S5 k → w.heap.size ≤ k) := Lib.hid (fun k e => by
    have := hB4.size
    rcases hs5 k e with h | h
    · exact HS4.out k h
    · omega)
  have HL5 : Hid ((itF 0 l0).length = n) := Lib.hid (by rw [itF_length, HN.out])
  clear hq5 hr5 hk5 hs5 hbk hB4 HQ4 HS4 HI HN
  generalize itF 0 l0 = l at HQ5 HR5 HL5
  have HLV : Hid ((stS (kI false) l).length = n) := Lib.hid (by rw [stS_length, HL5.out])
  go_wp2_with fail
  refine (merge_nilp q _).mono ?_
  rintro e w6 ⟨rfl, hb6⟩
  have hB6 := Below.step hB5 hb6
  have HB56 := Lib.hid hb6
  clear hb6
  go_wp2_with fail
  refine (merge_nilq _ _).mono ?_
  rintro e w7 ⟨rfl, hb7⟩
  have hB7 := Below.step hB6 hb7
  have HB57 := Lib.hid (Below.step HB56.out hb7)
  clear hb7
  go_wp2_with fail
  refine (merge_same q _).mono ?_
  rintro e w8 ⟨rfl, hb8⟩
  have hB8 := Below.step hB7 hb8
  have HB58 := Lib.hid (Below.step HB57.out hb8)
  clear hb8 HB57 HB56 hB7 hB6 hB5
  go_wp2_with fail
  refine (len_nil _).mono ?_
  rintro e w' ⟨rfl, rfl⟩
  go_wp2_with fail
  refine (len_any q S5 false n n _ w8 (HQ5.out.below HB58.out) HLV.out).mono ?_
  rintro e w' ⟨rfl, rfl⟩
  go_wp2_with fail
  refine (drainAll_any q S5 false n _ n w8 (HQ5.out.below HB58.out) (by omega) HLV.out).mono ?_
  rintro e w9 ⟨B9, d9, rfl, hr9, hq9, hk9, hbk9⟩
  have HR9 := Lib.hid hr9
  have HB9 : Hid (Below w.heap.size w w9) := Lib.hid (hB8.trans (hk9.below HS5.out hB8.size))
  have HI9 : Hid (ItsR w9 B l) := Lib.hid ((HR5.out.below HB58.out).keep hk9 (fun a ha => (HBK.out a ha).2))
  clear hr9 hq9 hk9 hbk9 hB8
  go_wp2_with fail
  refine (refAll_any false l n d B w9 HL5.out (by omega) hd5 HI9.out).mono ?_
  rintro e w10 ⟨B10, d10, rfl, hd10, hr10, hb10, _⟩
  have HR10 := Lib.hid hr10
  have HB10 := Lib.hid (Below.step HB9.out hb10)
  have HR9' := Lib.hid (HR9.out.below hb10)
  clear hr10 hb10 HR9 HB9 HI9
  go_wp2_with fail
  refine (same_any _ _ rfl B9 B10 n d9 d10 _ HLV.out (by omega) HR9'.out HR10.out).mono ?_
  rintro e w11 ⟨rfl, hb11⟩
  have HB11 := Lib.hid (Below.step HB10.out hb11)
  clear hb11
  go_wp2_with fail
  refine (awake_any _).mono ?_
  rintro e w12 ⟨rfl, hb12⟩
  have HB12 := Lib.hid (Below.step HB11.out hb12)
  clear hb12
  go_wp2_with fail
  go_ret
  exact ⟨rfl, HB12.out⟩

set_option maxRecDepth 100000 in
theorem lifted (os : Os) (started : os.Started) (H : Type) (enc : TypeId × Value → H) (F : Stop.Interp) :
    ReturnsInHanded {} Try.checked os 8 .any ((OpenSpec.ofChange Rows.pqueueNilSpec).preRow enc Try.prog Try.f8 Rows.pqueueNilRow.domain false Rows.pqueueNilRow.laid) (((OpenSpec.ofChange Rows.pqueueNilSpec).at F).post enc Try.prog Try.f8 false true false false) := by
  refine returnsInHanded_of_row (C := Try.checked) (s := OpenSpec.ofChange Rows.pqueueNilSpec) own started (by kernel_rfl) Try.func8
    (ChangeSpec.witness_shaped (enc := enc) (C := Try.checked) (os := os) (X := fun w _ => laidMetH Try.prog Rows.pqueueNilRow.laid w) false (World.laidAll Try.prog os Rows.pqueueNilRow.laid) #[.slice none 0 0] 8 (World.laidAll_os _ _ _)
      (World.shaped_of_ZipB (by kernel_rfl) (by kernel_rfl)) (by kernel_rfl) (by kernel_rfl) (by kernel_rfl)
      (by rw [MakeChecks.laidMetH_plain _ _ _ (by kernel_rfl)]; exact laidMet_laidAll _ (by kernel_rfl) (by kernel_rfl))) ?_
  intro W base args ds gs before hval0 hW _ _ hsz0 hL hsh _
  have hval : ∀ (j : Nat) t v, Try.f8.params[j]? = some t → args[j]? = some v → Value.okWide Try.prog W .any base t v := hval0
  have hW' := hW
  obtain ⟨p, q, hA0, hV, rfl, hfz, hnd⟩ := hW
  have hA : DataW.TrodAll enc Try.prog W 0 (fun _ => true) true Try.f8.params.toList args.toList ds p := hA0
  rw [Try.params8] at hA hval
  obtain ⟨v0, vs0, d0, ds0, p0, q0, hargs, rfl, rfl, h0, r0⟩ := trodAll_cons hA
  obtain ⟨rfl, rfl, rfl⟩ := trodAll_nil r0
  obtain rfl : args = #[v0] := by cases args; simp_all
  obtain ⟨rfl, rfl⟩ := trodVars_none hV
  obtain ⟨A0, l0, c0, rfl, hi0, hw0, hc0, hl0⟩ := ints_open (hval 0 22 v0 rfl rfl) h0
  clear hA0 hval0
  simp only [List.append_nil] at hW'
  have hlt0 : ∀ x ∈ p0, x.block < W.heap.size := fun x hx => by simpa using hW'.lt x (by simp [hx])
  have hargs0 : ∀ (W' : World), Below W.heap.size W W' → DataW.Trod enc Try.prog W' 0 (fun b => decide (b < W.heap.size)) true 22 (.slice A0 l0.length c0) d0 p0 := fun W' hn => Below.trod laidOut (by kernel_rfl) (of_decide_eq_true (by kernel_rfl)) h0 hn hlt0
  refine (walk W A0 l0 c0 hi0 hw0 hc0 hl0).mono fun e W' ⟨he, hb⟩ => ?_
  subst he
  exact ⟨_, rfl, _, _, _, [], p0 ++ ([]), [], hW', trodAll_mk1 (shut_bool Try.underlying4 _), (trodAll_cons_mk (hargs0 W' hb) trodAll_mk0), rfl, hb.frame _, fun h => by cases h⟩

theorem said : Rows.PqueueNilSaid :=
  OpenClaim.holds_of_cond 8 Try.f8 rfl rfl rfl rfl rfl rfl rfl ⟨rfl, rfl, rfl, rfl, rfl⟩ rfl rfl rfl rfl rfl (by kernel_rfl) Try.func8 (by kernel_rfl)
    (of_decide_eq_true (by kernel_rfl)) (by unfold Func.isWrapper; first | (rw [if_pos (by decide +kernel)]; kernel_rfl) | (rw [if_neg (by decide +kernel)]; exact ⟨rfl, rfl⟩))
    (fun os started H enc _ F => by rw [OpenClaim.pre_eq_preRow]; exact lifted os started H enc F)
#print axioms said
end Go.Proofs.Ytkbfpkejogdieaa.pqueueNil
