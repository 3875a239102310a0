/-
  P6.2: MacNumbers: for every key and at most 100 numbers Tag returns what is specified, and the chapter's examples hold; the tied card. Conditions: the row's own (the variable start of package mac holds what the program's text lays when the call begins).
-/
import Derived.Test.YthalnnhkeaanhaaDoorMacW
import Derived.Lib.QuietBelow
namespace Go.Proofs.YthalnnhkeaanhaaDoor.macNumbers
open Go.ChangeShapes Go.WideShapes Go.ChangeAt Go.RowKit
set_option linter.unusedVariables false

set_option maxRecDepth 100000 in
set_option maxHeartbeats 4000000 in
theorem walk (w : World) (f : Facts w) (a0 b0 : Nat) (ha0 : a0 < 18446744073709551616) (hb0 : b0 < 18446744073709551616) (A1 : Option Addr) (l1 : List Int) (c1 : Nat) (hi1 : IntR w A1 l1) (hw1 : WideI l1) (hc1 : l1.length ≤ c1) (hl1 : l1.length ≤ 9223372036854775807) :
    Calls Tryd.prog 4 #[.agg #[.int .u64 (a0 : Int), .int .u64 (b0 : Int)], .slice A1 l1.length c1] w fun e w' => e = .returned (.bool true) ∧ Below w.heap.size w w' := by
  have HB0 : Hid (Below w.heap.size w (w.alloc (.cells #[.int .u64 (a0 : Int), .int .u64 (b0 : Int)] 24))) := Lib.hid ((Below.refl _ _).alloc (Nat.le_refl _) _)
  have HF := Lib.hid (f.step HB0.out)
  have HR := Lib.hid hi1
  clear f hi1
  obtain ⟨n, hn⟩ : ∃ n, l1.length = n := ⟨_, rfl⟩
  rw [hn]
  by_cases h : n ≤ 100
  · have hz : ¬ (100 : Int) < (n : Int) := by omega
    have HK : Hid (KeyR (w.alloc (.cells #[.int .u64 (a0 : Int), .int .u64 (b0 : Int)] 24)) w.heap.size a0 b0) := Lib.hid (heap_alloc_new w _)
    have H1 := Lib.hid (fun w' f h => tag_any a0 b0 A1 l1 n c1 w' f ha0 hb0 hn (by omega) hw1 h)
    have H2 := Lib.hid (fun w' h => refTag_any a0 b0 A1 l1 n c1 w' ha0 hb0 hn (by omega) hw1 h)
    generalize tagS a0 b0 l1 = s at H1 H2
    clear hn
    go_enter Tryd.func4, Tryd.ntmps4
    go_wp2_with fail
    generalize w.alloc (.cells #[.int .u64 (a0 : Int), .int .u64 (b0 : Int)] 24) = W at HB0 HF HK ⊢
    have j0 := cell_regrown HK.out.c0
    have j1 := cell_regrown HK.out.c1
    have G1 : Hid (∀ d os, Calls Tryd.prog 12 _ (Sort.grow (redrawn W d) os) _) := Lib.hid (fun d os => H1.out (Sort.grow (redrawn W d) os) (HF.out.step (below_regrown W d os)) (HR.out.below (Below.step HB0.out (below_regrown W d os))))
    have G2 : Hid (∀ d os, Calls Tryd.prog 13 _ (Sort.grow (redrawn W d) os) _) := Lib.hid (fun d os => H2.out (Sort.grow (redrawn W d) os) (HR.out.below (Below.step HB0.out (below_regrown W d os))))
    have GA : Hid (∀ d os, Calls Tryd.prog 9 _ (Sort.grow (redrawn W d) os) _) := Lib.hid (fun d os => awake_any (Sort.grow (redrawn W d) os) (HF.out.step (below_regrown W d os)))
    clear H1 H2
    refine wp_region_quiet_below (by kernel_rfl) (by kernel_rfl) ?_
    repeat (quiet_step ((first | (go_at_call 12; exact Calls.regrown_of (G1.out _ _)) | (go_at_call 13; exact Calls.regrown_of (G2.out _ _)) | (go_at_call 9; exact Calls.regrown_of (GA.out _ _)))))
    refine wpQuiet_nil ?_
    intro _ hw'
    obtain ⟨⟨dq, osq⟩, hw''⟩ := hw'
    subst hw''
    go_wp2
    go_ret
    exact ⟨rfl, Below.step HB0.out (below_regrown W dq osq)⟩
  · have hz : (100 : Int) < (n : Int) := by omega
    clear hn
    go_enter Tryd.func4, Tryd.ntmps4
    go_wp2_with fail
    refine (awake_any _ HF.out).mono ?_
    rintro e w2 ⟨rfl, hB2⟩
    go_wp2_with fail
    go_ret
    exact ⟨rfl, Below.step HB0.out hB2⟩

set_option maxRecDepth 100000 in
theorem lifted (os : Os) (started : os.Started) (H : Type) (enc : TypeId × Value → H) (F : Stop.Interp) :
    ReturnsInHanded {} Tryd.checked os 4 .any ((OpenSpec.ofChange Rows.macNumbersSpec).preRow enc Tryd.prog Tryd.f4 Rows.macNumbersRow.domain false Rows.macNumbersRow.laid) (((OpenSpec.ofChange Rows.macNumbersSpec).at F).post enc Tryd.prog Tryd.f4 false true false false) := by
  refine returnsInHanded_of_row (C := Tryd.checked) (s := OpenSpec.ofChange Rows.macNumbersSpec) own started (by kernel_rfl) Tryd.func4
    (ChangeSpec.witness_shaped (enc := enc) (C := Tryd.checked) (os := os) (X := fun w _ => laidMetH Tryd.prog Rows.macNumbersRow.laid w) false (World.laidAll Tryd.prog os Rows.macNumbersRow.laid) #[.agg #[.int .u64 0, .int .u64 0], .slice none 0 0] 8 (World.laidAll_os _ _ _)
      (World.shaped_of_ZipB (by kernel_rfl) (by kernel_rfl)) (by kernel_rfl) (by kernel_rfl) (by kernel_rfl)
      (by rw [MakeChecks.laidMetH_plain _ _ _ (by kernel_rfl)]; exact laidMet_laidAll _ (by kernel_rfl) (by kernel_rfl))) ?_
  intro W base args ds gs before hval0 hW _ _ hsz0 hL hsh _
  have hval : ∀ (j : Nat) t v, Tryd.f4.params[j]? = some t → args[j]? = some v → Value.okWide Tryd.prog W .any base t v := hval0
  have hW' := hW
  obtain ⟨p, q, hA0, hV, rfl, hfz, hnd⟩ := hW
  have hA : DataW.TrodAll enc Tryd.prog W 0 (fun _ => true) true Tryd.f4.params.toList args.toList ds p := hA0
  rw [Tryd.params4] at hA hval
  obtain ⟨v0, vs0, d0, ds0, p0, q0, hargs, rfl, rfl, h0, r0⟩ := trodAll_cons hA
  obtain ⟨v1, vs1, d1, ds1, p1, q1, rfl, rfl, rfl, h1, r1⟩ := trodAll_cons r0
  obtain ⟨rfl, rfl, rfl⟩ := trodAll_nil r1
  obtain rfl : args = #[v0, v1] := by cases args; simp_all
  obtain ⟨rfl, rfl⟩ := trodVars_none hV
  obtain ⟨a0, b0, rfl, ha0, hb0⟩ := key_open (hval 0 24 v0 rfl rfl) h0
  obtain ⟨A1, l1, c1, rfl, hi1, hw1, hc1, hl1⟩ := ints_open (hval 1 29 v1 rfl rfl) h1
  clear hA0 hval0
  simp only [List.append_nil] at hW'
  have hlt0 : ∀ x ∈ p0, x.block < W.heap.size := fun x hx => by simpa using hW'.lt x (by simp [hx])
  have hargs0 : ∀ (W' : World), Below W.heap.size W W' → DataW.Trod enc Tryd.prog W' 0 (fun b => decide (b < W.heap.size)) true 24 (.agg #[.int .u64 (a0 : Int), .int .u64 (b0 : Int)]) d0 p0 := fun W' hn => Below.trod laidOut (by kernel_rfl) (of_decide_eq_true (by kernel_rfl)) h0 hn hlt0
  have hlt1 : ∀ x ∈ p1, x.block < W.heap.size := fun x hx => by simpa using hW'.lt x (by simp [hx])
  have hargs1 : ∀ (W' : World), Below W.heap.size W W' → DataW.Trod enc Tryd.prog W' 0 (fun b => decide (b < W.heap.size)) true 29 (.slice A1 l1.length c1) d1 p1 := fun W' hn => Below.trod laidOut (by kernel_rfl) (of_decide_eq_true (by kernel_rfl)) h1 hn hlt1
  refine (walk W (facts_of W hL hsh) a0 b0 ha0 hb0 A1 l1 c1 hi1 hw1 hc1 hl1).mono fun e W' ⟨he, hb⟩ => ?_
  subst he
  exact ⟨_, rfl, _, _, _, [], p0 ++ (p1 ++ ([])), [], hW', trodAll_mk1 (shut_bool Tryd.underlying4 _), (trodAll_cons_mk (hargs0 W' hb) (trodAll_cons_mk (hargs1 W' hb) trodAll_mk0)), rfl, hb.frame _, fun h => by cases h⟩

theorem said : Rows.MacNumbersSaid :=
  OpenClaim.holds_of_cond 4 Tryd.f4 rfl rfl rfl rfl rfl rfl rfl ⟨rfl, rfl, rfl, rfl, rfl⟩ rfl rfl rfl rfl rfl (by kernel_rfl) Tryd.func4 (by kernel_rfl)
    (of_decide_eq_true (by kernel_rfl)) (by unfold Func.isWrapper; first | (rw [if_pos (by decide +kernel)]; kernel_rfl) | (rw [if_neg (by decide +kernel)]; exact ⟨rfl, rfl⟩))
    (fun os started H enc _ F => by rw [OpenClaim.pre_eq_preRow]; exact lifted os started H enc F)

theorem plain (f : FuncId) (fn : Func) (hf : Tryd.pinned.checked.prog.funcNamed "bikeshare/bikesharelaw06.MacNumbers" = some f) (hfn : Tryd.pinned.checked.prog.funcs[f]? = some fn) :
    false = Tryd.pinned.checked.prog.looks [] ∧ ∀ (j : Nat) t, fn.params[j]? = some t → Tryd.pinned.checked.prog.wantsStandIn t = false := by
  obtain rfl : f = 4 := Option.some.inj ((show Tryd.prog.funcNamed "bikeshare/bikesharelaw06.MacNumbers" = some 4 by kernel_rfl).symm.trans hf) |>.symm
  obtain rfl : fn = Tryd.f4 := (Option.some.inj (Tryd.func4.symm.trans hfn)).symm
  refine ⟨by kernel_rfl, fun j t ht => ?_⟩
  rw [Tryd.params4] at ht
  have hm : t ∈ [24, 29] := by simpa using Array.mem_of_getElem? ht
  have hall : ([24, 29].all fun u => !Tryd.prog.wantsStandIn u) = true := by kernel_rfl
  exact (show Tryd.prog.wantsStandIn t = false by simpa using List.all_eq_true.1 hall t hm)

/-- The card. -/
theorem card : Rows.MacNumbersCardSaid :=
  Claim7.holds_tied_plain_at .later [] _ _ _ _ said (fun _ h => by cases h) (by kernel_rfl) (fun _ h => by cases h) macNumbers_row_tie rfl ⟨rfl, rfl⟩ (by kernel_rfl) rfl plain (by kernel_rfl)
#print axioms card
end Go.Proofs.YthalnnhkeaanhaaDoor.macNumbers
