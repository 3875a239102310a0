/-
  P7.3: PqueuePeeks: for every list of at most 100 integers (else the chapter's example alone), Peek changes nothing and returns what Pop returns next, and at the end both return the zero item and false; and the chapter's second example holds. Conditions: none but the row's own.
-/
import Derived.Test.YtkbfpkejogdieaaPqQ
namespace Go.Proofs.Ytkbfpkejogdieaa.pqueuePeeks
open Go.ChangeShapes Go.WideShapes Go.ChangeAt Go.RowKit
set_option linter.unusedVariables false

set_option maxRecDepth 100000 in
set_option maxHeartbeats 4000000 in
theorem walk (w : World) (A0 : Option Addr) (l0 : List Int) (c0 : Nat) (hi0 : IntR w A0 l0) (hw0 : WideI l0) (hc0 : l0.length ≤ c0) (hl0 : l0.length ≤ 9223372036854775807) :
    Calls Try.prog 6 #[.slice A0 l0.length c0] w fun e w' => e = .returned (.bool true) ∧ Below w.heap.size w w' := by
  obtain ⟨n, hn⟩ : ∃ n, l0.length = n := ⟨_, rfl⟩
  rw [hn] at hc0 hl0 ⊢
  by_cases hb : 100 < n
  · have hbz : (100 : Int) < (n : Int) := by omega
    clear hi0 hw0 hn
    go_enter Try.func6, Try.ntmps6
    go_wp2_with fail
    refine (awake_any _).mono ?_
    rintro e w9 ⟨rfl, hb9⟩
    go_wp2_with fail
    go_ret
    exact ⟨rfl, hb9⟩
  have hbz : ¬ (100 : Int) < (n : Int) := by omega
  have HN := Lib.hid hn
  have HI := Lib.hid hi0
  clear hi0 hw0 hn
  go_enter Try.func6, Try.ntmps6
  go_wp2_with fail
  refine (new_down _).mono ?_
  rintro e w1 ⟨q, Sq, rfl, hq1, hs1, hb1⟩
  have HQ1 := Lib.hid hq1
  have HS1 := Lib.hid hs1
  clear hq1 hs1
  go_wp2_with fail
  refine (fill0_any q Sq true l0 n c0 A0 w1 HQ1.out (by omega) HN.out (HI.out.below hb1) (arg_apart (w1 := w1) HN.out HI.out HS1.out)).mono ?_
  rintro e w2 ⟨B, d, S2, rfl, _, _, hq2, hk2, hs2, _⟩
  have hB2 : Below w.heap.size w w2 := hb1.trans (hk2.below HS1.out hb1.size)
  have HQ2 := Lib.hid hq2
  have HS2 : Hid (∀ k, S2 k → w.heap.size ≤ k) := Lib.hid (fun k e => by
    have := hb1.size
    rcases hs2 k e with h | h
    · exact HS1.out k h
    · omega)
  have HL2 : Hid ((stS (kI true) (itF 0 l0)).length = n) := Lib.hid (by rw [stS_length, itF_length, HN.out])
  clear hq2 hk2 hs2 hb1 HQ1 HS1 HI HN
  generalize stS (kI true) (itF 0 l0) = V at HQ2 HL2
  have hgN := run_guardN
  have hgE := run_guardE
  go_wp2_with fail
  go_loopw [4] (fun vi wr => ∃ (k : Nat) (P : List It), k ≤ n ∧ vi = .int .i64 (k : Int) ∧ Hid (k + P.length = n) ∧ Hid (QR wr q S2 true n P) ∧ Below w.heap.size w wr) (fun vi _ => n - (intOf vi).toNat)
  case atStart => exact ⟨0, V, by omega, rfl, Lib.hid (by rw [HL2.out]; omega), HQ2, hB2⟩
  case round =>
    obtain ⟨k, P, hk, rfl, HKP, HQR, hB⟩ := hrel
    cases P with
    | nil =>
      obtain rfl : k = n := by have := HKP.out; simpa using this
      have hnlt : ¬ (k : Int) < (k : Int) := by omega
      have HPK := Lib.hid (peek_any q S2 true k [] wr HQR.out (by omega))
      have heq := run_eqlI 0 0
      clear HKP
      go_wp2_with fail
      refine HPK.out.mono ?_
      rintro e w3 ⟨rfl, hb3⟩
      unfold hdV
      have HQ3 := Lib.hid (HQR.out.below hb3)
      have hB3 := Below.step hB hb3
      clear HPK hb3
      go_wp2_with fail
      refine (pop_any q S2 true k [] _ (HQ3.out.keep (S' := fun _ => False) (Keep.alloc0 _ _) (fun _ _ e => e)) (by omega)).mono ?_
      rintro e w4 ⟨rfl, hq4, hk4⟩
      unfold hdV
      have hv4 : VarI w4 w3.heap.size (0, 0) := (VarI.made w3 (0, 0) 27).keep hk4 (fun e => by have := HQ3.out.lt _ e; omega)
      obtain ⟨v0, v1, v2, v3⟩ := hv4
      simp only at v0 v1
      have hw34 : w3.heap.size < w4.heap.size := World.block_lt_of_cell? _ _ v0
      have HQ4 := Lib.hid hq4
      have hB4 : Below w.heap.size w w4 := (hB3.alloc hB3.size _).trans (hk4.below HS2.out (by have := hB3.size; simp; omega))
      have HL4 := Lib.hid (fun W (hb : Below w4.heap.size w4 W) => len_any q S2 true k 0 [] W (hq4.below hb) rfl)
      clear hq4 hk4
      go_wp2_with fail
      refine (HL4.out _ ?_).mono ?_
      · exact (Below.refl _ _).alloc (Nat.le_refl _) _
      rintro e w5 ⟨rfl, rfl⟩
      go_wp2_with fail
      refine (awake_any _).mono ?_
      rintro e w9 ⟨rfl, hb9⟩
      have HB9 : Hid (Below w.heap.size w w9) := Lib.hid (Below.step (hB4.alloc hB4.size _) hb9)
      clear hb9
      go_wp2_with fail
      go_ret
      exact ⟨rfl, HB9.out⟩
    | cons x P =>
      have hkn : k < n := by have := HKP.out; simp at this; omega
      have hltz : (k : Int) < (n : Int) := by omega
      have HKP2 : Hid (k + 1 + P.length = n) := Lib.hid (by have := HKP.out; simp at this; omega)
      have hne := run_neqI x.1 x.2
      obtain ⟨m, hm⟩ : ∃ m, (x :: P).length = m := ⟨_, rfl⟩
      have hmz : (m : Int) = (n : Int) - (k : Int) := by have := HKP.out; omega
      have HPK := Lib.hid (fun W (hb : Below wr.heap.size wr W) => peek_any q S2 true n (x :: P) W (HQR.out.below hb) (by omega))
      have HLN := Lib.hid (fun W (hb : Below wr.heap.size wr W) => len_any q S2 true n m (x :: P) W (HQR.out.below hb) hm)
      rw [hmz] at HLN
      have HPP := Lib.hid (fun W (hb : Below wr.heap.size wr W) => pop_any q S2 true n (x :: P) W (HQR.out.below hb) (by omega))
      have HLT := Lib.hid HQR.out.lt
      clear hm hmz HKP
      go_wp2_with fail
      refine (HPK.out _ (Below.refl _ _)).mono ?_
      rintro e w3 ⟨rfl, hb3⟩
      unfold hdV
      go_wp2_with fail
      refine (HPK.out _ ?_).mono ?_
      · exact hb3.alloc hb3.size _
      rintro e w4 ⟨rfl, hb4⟩
      unfold hdV
      have hv4 : VarI w4 w3.heap.size x := (VarI.made w3 x 27).below hb4
      obtain ⟨v0, v1, v2, v3⟩ := hv4
      have hb34 : Below wr.heap.size wr w4 := Below.step (hb3.alloc hb3.size _) hb4
      have hw3 := hb3.size
      have hw34 : w3.heap.size < w4.heap.size := World.block_lt_of_cell? _ _ v0
      clear hb3 hb4
      go_wp2_with fail
      refine (HLN.out _ ?_).mono ?_
      · exact hb34.alloc hb34.size _
      rintro e w5 ⟨rfl, rfl⟩
      go_wp2_with fail
      refine (HPP.out _ ?_).mono ?_
      · exact hb34.alloc hb34.size _
      rintro e w6 ⟨rfl, hq6, hk6⟩
      unfold hdV
      have hv6 : VarI w6 w3.heap.size x := ((⟨v0, v1, v2, v3⟩ : VarI w4 w3.heap.size x).below ((Below.refl _ _).alloc (Nat.le_refl _) _)).keep hk6 (fun e => by have := HLT.out _ e; omega)
      have HB6 : Hid (Below w.heap.size w w6) := Lib.hid ((Below.step hB (hb34.alloc hb34.size _)).trans (hk6.below HS2.out (by have := hB.size; simp; omega)))
      have HQ6 : Hid (QR w6 q S2 true n P) := Lib.hid hq6
      clear v0 v1 v2 v3
      obtain ⟨v0, v1, v2, v3⟩ := hv6
      have hw36 : w3.heap.size < w6.heap.size := World.block_lt_of_cell? _ _ v0
      clear hq6 hk6 hb34 HPK HLN HPP
      go_wp2_with fail
      go_roundw
      case rel => exact ⟨k + 1, P, by omega, by go_num, HKP2, Lib.hid (HQ6.out.keep (S' := fun _ => False) (Keep.alloc0 _ _) (fun _ _ e => e)), HB6.out.alloc HB6.out.size _⟩
      case measure => simp only [intOf]; omega

set_option maxRecDepth 100000 in
theorem lifted (os : Os) (started : os.Started) (H : Type) (enc : TypeId × Value → H) (F : Stop.Interp) :
    ReturnsInHanded {} Try.checked os 6 .any ((OpenSpec.ofChange Rows.pqueuePeeksSpec).preRow enc Try.prog Try.f6 Rows.pqueuePeeksRow.domain false Rows.pqueuePeeksRow.laid) (((OpenSpec.ofChange Rows.pqueuePeeksSpec).at F).post enc Try.prog Try.f6 false true false false) := by
  refine returnsInHanded_of_row (C := Try.checked) (s := OpenSpec.ofChange Rows.pqueuePeeksSpec) own started (by kernel_rfl) Try.func6
    (ChangeSpec.witness_shaped (enc := enc) (C := Try.checked) (os := os) (X := fun w _ => laidMetH Try.prog Rows.pqueuePeeksRow.laid w) false (World.laidAll Try.prog os Rows.pqueuePeeksRow.laid) #[.slice none 0 0] 8 (World.laidAll_os _ _ _)
      (World.shaped_of_ZipB (by kernel_rfl) (by kernel_rfl)) (by kernel_rfl) (by kernel_rfl) (by kernel_rfl)
      (by rw [MakeChecks.laidMetH_plain _ _ _ (by kernel_rfl)]; exact laidMet_laidAll _ (by kernel_rfl) (by kernel_rfl))) ?_
  intro W base args ds gs before hval0 hW _ _ hsz0 hL hsh _
  have hval : ∀ (j : Nat) t v, Try.f6.params[j]? = some t → args[j]? = some v → Value.okWide Try.prog W .any base t v := hval0
  have hW' := hW
  obtain ⟨p, q, hA0, hV, rfl, hfz, hnd⟩ := hW
  have hA : DataW.TrodAll enc Try.prog W 0 (fun _ => true) true Try.f6.params.toList args.toList ds p := hA0
  rw [Try.params6] at hA hval
  obtain ⟨v0, vs0, d0, ds0, p0, q0, hargs, rfl, rfl, h0, r0⟩ := trodAll_cons hA
  obtain ⟨rfl, rfl, rfl⟩ := trodAll_nil r0
  obtain rfl : args = #[v0] := by cases args; simp_all
  obtain ⟨rfl, rfl⟩ := trodVars_none hV
  obtain ⟨A0, l0, c0, rfl, hi0, hw0, hc0, hl0⟩ := ints_open (hval 0 22 v0 rfl rfl) h0
  clear hA0 hval0
  simp only [List.append_nil] at hW'
  have hlt0 : ∀ x ∈ p0, x.block < W.heap.size := fun x hx => by simpa using hW'.lt x (by simp [hx])
  have hargs0 : ∀ (W' : World), Below W.heap.size W W' → DataW.Trod enc Try.prog W' 0 (fun b => decide (b < W.heap.size)) true 22 (.slice A0 l0.length c0) d0 p0 := fun W' hn => Below.trod laidOut (by kernel_rfl) (of_decide_eq_true (by kernel_rfl)) h0 hn hlt0
  refine (walk W A0 l0 c0 hi0 hw0 hc0 hl0).mono fun e W' ⟨he, hb⟩ => ?_
  subst he
  exact ⟨_, rfl, _, _, _, [], p0 ++ ([]), [], hW', trodAll_mk1 (shut_bool Try.underlying4 _), (trodAll_cons_mk (hargs0 W' hb) trodAll_mk0), rfl, hb.frame _, fun h => by cases h⟩

theorem said : Rows.PqueuePeeksSaid :=
  OpenClaim.holds_of_cond 6 Try.f6 rfl rfl rfl rfl rfl rfl rfl ⟨rfl, rfl, rfl, rfl, rfl⟩ rfl rfl rfl rfl rfl (by kernel_rfl) Try.func6 (by kernel_rfl)
    (of_decide_eq_true (by kernel_rfl)) (by unfold Func.isWrapper; first | (rw [if_pos (by decide +kernel)]; kernel_rfl) | (rw [if_neg (by decide +kernel)]; exact ⟨rfl, rfl⟩))
    (fun os started H enc _ F => by rw [OpenClaim.pre_eq_preRow]; exact lifted os started H enc F)
#print axioms said
end Go.Proofs.Ytkbfpkejogdieaa.pqueuePeeks
