/-
  P3.2: IdentNews: for every list of at most 60 strings of at most 100 bytes, every such string and every integer (else the chapter's examples alone), New returns the specified table or error; and the chapter's examples hold. Conditions: none but the row's own.
-/
import Derived.Test.YtagpkijgednmnaaIdtP
namespace Go.Proofs.Ytagpkijgednmnaa.identNews
open Go.ChangeShapes Go.WideShapes Go.ChangeAt Go.RowKit Go.Maps
set_option linter.unusedVariables false

set_option maxRecDepth 100000 in
set_option maxHeartbeats 4000000 in
theorem walk (w : World) (A0 : Option Addr) (l0 : List ByteArray) (c0 : Nat) (hi0 : StR w A0 l0) (hw0 : WideS l0) (hl0 : l0.length ≤ 9223372036854775807) (s1 : ByteArray) (hs1 : s1.size ≤ 9223372036854775807) (a2 : Int) (lo2 : -9223372036854775808 ≤ a2) (hi2 : a2 ≤ 9223372036854775807) :
    Calls Try.prog 4 #[.slice A0 l0.length c0, .string s1, .int .i64 a2] w fun e w' => e = .returned (.bool true) ∧ Below w.heap.size w w' := by
  have HF := Lib.hid (few_any l0 A0 c0 w hl0 hw0 hi0)
  by_cases hf : fewB l0 = true
  rotate_left
  · have hf : fewB l0 = false := by simpa using hf
    rw [hf] at HF
    obtain ⟨n, hn⟩ : ∃ n, l0.length = n := ⟨_, rfl⟩
    rw [hn] at HF ⊢
    clear hn hi0 hw0 hl0
    go_enter Try.func4, Try.ntmps4
    go_wp2_with fail
    refine HF.out.mono ?_
    rintro e w1 ⟨rfl, rfl⟩
    go_wp2_with fail
    refine (awake_any _).mono ?_
    rintro e w9 ⟨rfl, hb9⟩
    go_wp2_with fail
    go_ret
    exact ⟨rfl, hb9⟩
  by_cases hb : 100 < s1.size
  · have hbz : (100 : Int) < (s1.size : Int) := by omega
    rw [hf] at HF
    obtain ⟨n, hn⟩ : ∃ n, l0.length = n := ⟨_, rfl⟩
    rw [hn] at HF ⊢
    clear hn hi0 hw0 hl0
    go_enter Try.func4, Try.ntmps4
    go_wp2_with fail
    refine HF.out.mono ?_
    rintro e w1 ⟨rfl, rfl⟩
    go_wp2_with fail
    refine (awake_any _).mono ?_
    rintro e w9 ⟨rfl, hb9⟩
    go_wp2_with fail
    go_ret
    exact ⟨rfl, hb9⟩
  have hbz : ¬ (100 : Int) < (s1.size : Int) := by omega
  have hlen := (of_decide_eq_true hf : _ ∧ l0.length ≤ 60).2
  rw [hf] at HF
  have HN := Lib.hid (new_any l0 A0 c0 w (by omega) hw0 hi0)
  have HR := Lib.hid (fun w1 (hb1 : Below w.heap.size w w1) => refNew_any l0 A0 c0 w1 (by omega) hw0 (hi0.below hb1))
  obtain ⟨n, hn⟩ : ∃ n, l0.length = n := ⟨_, rfl⟩
  have HSAME := Lib.hid (fun (b : Nat) (S : Nat → Prop) (A : Option Addr) (cap : Nat) (w3 : World) (hT : Tab w3 b S l0) (hr : StR w3 A l0) => same_any b S l0 A cap s1 a2 w3 hT hr hs1)
  rw [hn] at HF HN HR HSAME ⊢
  have HL := Lib.hid hn
  clear hn hi0 hw0 hl0 hf hb
  by_cases he : newE [] l0 = 0
  · have HE := Lib.hid he
    clear he
    go_enter Try.func4, Try.ntmps4
    go_wp2_with fail
    refine HF.out.mono ?_
    rintro e w1 ⟨rfl, rfl⟩
    go_wp2_with fail
    refine HN.out.mono ?_
    rintro e w2 ⟨hB2, ⟨_, b, S, rfl, hT, hS⟩ | ⟨hne, _⟩⟩
    rotate_left
    · exact absurd HE.out hne
    have HT := Lib.hid hT
    clear hT hS
    go_wp2_with fail
    refine (HR.out _ hB2).mono ?_
    rintro e w3 ⟨hB3, ⟨_, v, rfl, hO⟩ | ⟨hne, _⟩⟩
    rotate_left
    · exact absurd HE.out hne
    have HT3 := Lib.hid (HT.out.below hB3)
    obtain ⟨A3, cap3, hv3, hr3, _⟩ := hO.form
    rw [HL.out] at hv3
    subst hv3
    have HR3 := Lib.hid hr3
    have hB13 := Below.step hB2 hB3
    clear hO hr3 HT hB2 hB3
    go_wp2_with fail
    refine (HSAME.out b S _ _ _ HT3.out HR3.out).mono ?_
    rintro e w4 ⟨rfl, rfl⟩
    go_wp2_with fail
    refine (awake_any _).mono ?_
    rintro e w9 ⟨rfl, hb9⟩
    go_wp2_with fail
    go_ret
    exact ⟨rfl, Below.step hB13 hb9⟩
  · have HE := Lib.hid he
    obtain ⟨E, hE⟩ : ∃ E, newE [] l0 = E := ⟨_, rfl⟩
    rw [hE] at he
    have HEE := Lib.hid hE
    have hz : ¬ (E : Int) = 0 := by omega
    clear he hE
    go_enter Try.func4, Try.ntmps4
    go_wp2_with fail
    refine HF.out.mono ?_
    rintro e w1 ⟨rfl, rfl⟩
    go_wp2_with fail
    refine HN.out.mono ?_
    rintro e w2 ⟨hB2, ⟨hne, _⟩ | ⟨_, hret⟩⟩
    · exact absurd hne HE.out
    rw [HEE.out] at hret
    subst hret
    go_wp2_with fail
    refine (HR.out _ hB2).mono ?_
    rintro e w3 ⟨hB3, ⟨hne, _⟩ | ⟨_, hret⟩⟩
    · exact absurd hne HE.out
    rw [HEE.out] at hret
    subst hret
    have hB13 := Below.step hB2 hB3
    clear hB2 hB3
    go_wp2_with fail
    refine (awake_any _).mono ?_
    rintro e w9 ⟨rfl, hb9⟩
    go_wp2_with fail
    go_ret
    exact ⟨rfl, Below.step hB13 hb9⟩

set_option maxRecDepth 100000 in
theorem lifted (os : Os) (started : os.Started) (H : Type) (enc : TypeId × Value → H) (F : Stop.Interp) :
    ReturnsInHanded {} Try.checked os 4 .any ((OpenSpec.ofChange Rows.identNewsSpec).preRow enc Try.prog Try.f4 Rows.identNewsRow.domain false Rows.identNewsRow.laid) (((OpenSpec.ofChange Rows.identNewsSpec).at F).post enc Try.prog Try.f4 false true false false) := by
  refine returnsInHanded_of_row (C := Try.checked) (s := OpenSpec.ofChange Rows.identNewsSpec) own started (by kernel_rfl) Try.func4
    (ChangeSpec.witness_shaped (enc := enc) (C := Try.checked) (os := os) (X := fun w _ => laidMetH Try.prog Rows.identNewsRow.laid w) false (World.laidAll Try.prog os Rows.identNewsRow.laid) #[.slice none 0 0, .string ⟨#[]⟩, .int .i64 0] 8 (World.laidAll_os _ _ _)
      (World.shaped_of_ZipB (by kernel_rfl) (by kernel_rfl)) (by kernel_rfl) (by kernel_rfl) (by kernel_rfl)
      (by rw [MakeChecks.laidMetH_plain _ _ _ (by kernel_rfl)]; exact laidMet_laidAll _ (by kernel_rfl) (by kernel_rfl))) ?_
  intro W base args ds gs before hval0 hW _ _ _ hL hsh _
  have hval : ∀ (j : Nat) t v, Try.f4.params[j]? = some t → args[j]? = some v → Value.okWide Try.prog W .any base t v := hval0
  have hW' := hW
  obtain ⟨p, q, hA0, hV, rfl, hfz, hnd⟩ := hW
  have hA : DataW.TrodAll enc Try.prog W 0 (fun _ => true) true Try.f4.params.toList args.toList ds p := hA0
  rw [Try.params4] at hA hval
  obtain ⟨v0, vs0, d0, ds0, p0, q0, hargs, rfl, rfl, h0, r0⟩ := trodAll_cons hA
  obtain ⟨v1, vs1, d1, ds1, p1, q1, rfl, rfl, rfl, h1, r1⟩ := trodAll_cons r0
  obtain ⟨v2, vs2, d2, ds2, p2, q2, rfl, rfl, rfl, h2, r2⟩ := trodAll_cons r1
  obtain ⟨rfl, rfl, rfl⟩ := trodAll_nil r2
  obtain rfl : args = #[v0, v1, v2] := by cases args; simp_all
  obtain ⟨rfl, rfl⟩ := trodVars_none hV
  obtain ⟨A0, l0, c0, rfl, hi0, hw0, hl0⟩ := strs_open (hval 0 24 v0 rfl rfl) h0
  obtain ⟨s1, rfl, rfl, rfl, ws1⟩ := Go.ChangeMaps.open_string Try.underlying9 (hval 1 9 v1 rfl rfl) h1
  obtain ⟨a2, rfl, rfl, rfl, w2⟩ := open_int Try.underlying3 (hval 2 3 v2 rfl rfl) h2
  have bd2 := i64_bd w2
  clear hA0 hval0
  simp only [List.append_nil] at hW'
  have hlt0 : ∀ x ∈ p0, x.block < W.heap.size := fun x hx => by simpa using hW'.lt x (by simp [hx])
  have hargs0 : ∀ (W' : World), Below W.heap.size W W' → DataW.Trod enc Try.prog W' 0 (fun b => decide (b < W.heap.size)) true 24 (.slice A0 l0.length c0) d0 p0 := fun W' hn => Below.trod laidOut (by kernel_rfl) (of_decide_eq_true (by kernel_rfl)) h0 hn hlt0
  refine (walk W A0 l0 c0 hi0 hw0 hl0 s1 ws1 a2 bd2.1 bd2.2).mono fun e W' ⟨he, hb⟩ => ?_
  subst he
  exact ⟨_, rfl, _, _, _, [], p0 ++ ([]), [], hW', trodAll_mk1 (shut_bool Try.underlying4 _), (trodAll_cons_mk (hargs0 W' hb) (trodAll_cons_mk (Go.ChangeMaps.shut_string Try.underlying9 ws1) (trodAll_cons_mk (shut_int Try.underlying3 w2) trodAll_mk0))), rfl, hb.frame _, fun h => by cases h⟩

theorem said : Rows.IdentNewsSaid :=
  OpenClaim.holds_of_cond 4 Try.f4 rfl rfl rfl rfl rfl rfl rfl ⟨rfl, rfl, rfl, rfl, rfl⟩ rfl rfl rfl rfl rfl (by kernel_rfl) Try.func4 (by kernel_rfl)
    (of_decide_eq_true (by kernel_rfl)) (by unfold Func.isWrapper; first | (rw [if_pos (by decide +kernel)]; kernel_rfl) | (rw [if_neg (by decide +kernel)]; exact ⟨rfl, rfl⟩))
    (fun os started H enc _ F => by rw [OpenClaim.pre_eq_preRow]; exact lifted os started H enc F)
#print axioms said
end Go.Proofs.Ytagpkijgednmnaa.identNews
