/-
  P6.2: MacDerives: for every key and all numbers Derive returns what is specified, also of a derived key, and the chapter's examples hold; the tied card. Conditions: the row's own (the variable start of package mac holds what the program's text lays when the call begins).
-/
import Derived.Test.YthalnnhkeaanhaaDoorMacE2
import Derived.Lib.QuietBelow
import Derived.IntWalk
import Derived.Laws.StructEq
import Derived.ChangeKeysEq
namespace Go.Proofs.YthalnnhkeaanhaaDoor.macDerives
open Go.ChangeShapes Go.WideShapes Go.ChangeAt Go.RowKit
set_option linter.unusedVariables false

attribute [local irreducible] Calls
set_option maxRecDepth 100000 in
set_option maxHeartbeats 4000000 in
theorem walk (w : World) (f : Facts w) (a0 b0 : Nat) (ha0 : a0 < 18446744073709551616) (hb0 : b0 < 18446744073709551616) (a1 : Int) (lo1 : -9223372036854775808 ≤ a1) (hi1 : a1 ≤ 9223372036854775807) (a2 : Int) (lo2 : -9223372036854775808 ≤ a2) (hi2 : a2 ≤ 9223372036854775807) :
    Calls Tryd.prog 5 #[.agg #[.int .u64 (a0 : Int), .int .u64 (b0 : Int)], .int .i64 a1, .int .i64 a2] w fun e w' => e = .returned (.bool true) ∧ Below w.heap.size w w' := by
  have HB0 : Hid (Below w.heap.size w (w.alloc (.cells #[.int .u64 (a0 : Int), .int .u64 (b0 : Int)] 24))) := Lib.hid ((Below.refl _ _).alloc (Nat.le_refl _) _)
  have HF := Lib.hid (f.step HB0.out)
  have HK : Hid (KeyR (w.alloc (.cells #[.int .u64 (a0 : Int), .int .u64 (b0 : Int)] 24)) w.heap.size a0 b0) := Lib.hid (heap_alloc_new w _)
  have H1 := Lib.hid (fun w' f => derive_any a0 b0 a1 w' f ha0 hb0 lo1 hi1)
  have H2 := Lib.hid (fun w' => refDerive_any a0 b0 a1 w' ha0 hb0 lo1 hi1)
  have ht0 := tagS_lt ha0 hb0 [a1, 0]
  have ht1 := tagS_lt ha0 hb0 [a1, 1]
  generalize tagS a0 b0 [a1, 0] = t0 at H1 H2 ht0
  generalize tagS a0 b0 [a1, 1] = t1 at H1 H2 ht1
  have H3 := Lib.hid (fun w' f => derive_any t0 t1 a2 w' f ht0 ht1 lo2 hi2)
  have H4 := Lib.hid (fun w' => refDerive_any t0 t1 a2 w' ht0 ht1 lo2 hi2)
  generalize tagS t0 t1 [a2, 0] = u0 at H3 H4
  generalize tagS t0 t1 [a2, 1] = u1 at H3 H4
  clear f ht0 ht1
  obtain ⟨kt, hkt⟩ : ∃ kt, Value.agg #[.int .u64 (t0 : Int), .int .u64 (t1 : Int)] = kt := ⟨_, rfl⟩
  obtain ⟨ks, hks⟩ : ∃ ks, Value.agg #[.int .u64 (t0 : Int), .int .u64 (t1 : Int)] = ks := ⟨_, rfl⟩
  obtain ⟨ku, hku⟩ : ∃ ku, Value.agg #[.int .u64 (u0 : Int), .int .u64 (u1 : Int)] = ku := ⟨_, rfl⟩
  obtain ⟨kv, hkv⟩ : ∃ kv, Value.agg #[.int .u64 (u0 : Int), .int .u64 (u1 : Int)] = kv := ⟨_, rfl⟩
  have q1 : ∀ w' : World, (binOp .eql 24 kt ks).run Tryd.prog w' = .ok (.bool true) w' := fun w' => by rw [← hkt, ← hks]; exact run_eqlK w' _ _
  have q2 : ∀ w' : World, (binOp .eql 24 ku kv).run Tryd.prog w' = .ok (.bool true) w' := fun w' => by rw [← hku, ← hkv]; exact run_eqlK w' _ _
  have q3 : ∀ (w' : World) (o1 o2 : Operand), (eqGuard .eql 24 o1 o2 kt ks).run Tryd.prog w' = .ok () w' := fun w' o1 o2 => by rw [← hkt, ← hks]; exact run_guardK w' o1 o2 _ _
  have q4 : ∀ (w' : World) (o1 o2 : Operand), (eqGuard .eql 24 o1 o2 ku kv).run Tryd.prog w' = .ok () w' := fun w' o1 o2 => by rw [← hku, ← hkv]; exact run_guardK w' o1 o2 _ _
  rw [hkt] at H1 H3
  rw [hks] at H2 H4
  rw [hku] at H3
  rw [hkv] at H4
  clear hkt hks hku hkv
  go_enter Tryd.func5, Tryd.ntmps5
  go_wp2_with fail
  generalize w.alloc (.cells #[.int .u64 (a0 : Int), .int .u64 (b0 : Int)] 24) = W at HB0 HF HK ⊢
  have hgW : w.heap.size < W.heap.size := World.block_lt_of_cell? _ _ HK.out.c0
  have HKK := Lib.hid (fun w' (hb : Below W.heap.size W w') => And.intro (HK.out.below hb hgW).c0 (HK.out.below hb hgW).c1)
  have G1 : Hid (∀ w', Below W.heap.size W w' → Calls Tryd.prog 14 _ w' fun e w'' => e = _ ∧ Below W.heap.size W w'') := Lib.hid (fun w' hb => (H1.out w' (HF.out.step hb)).mono fun e w'' ⟨he, hb2⟩ => ⟨he, Below.step hb hb2⟩)
  have G2 : Hid (∀ w', Below W.heap.size W w' → Calls Tryd.prog 15 _ w' fun e w'' => e = _ ∧ Below W.heap.size W w'') := Lib.hid (fun w' hb => (H2.out w').mono fun e w'' ⟨he, hb2⟩ => ⟨he, Below.step hb hb2⟩)
  have G3 : Hid (∀ w', Below W.heap.size W w' → Calls Tryd.prog 14 _ w' fun e w'' => e = _ ∧ Below W.heap.size W w'') := Lib.hid (fun w' hb => (H3.out w' (HF.out.step hb)).mono fun e w'' ⟨he, hb2⟩ => ⟨he, Below.step hb hb2⟩)
  have G4 : Hid (∀ w', Below W.heap.size W w' → Calls Tryd.prog 15 _ w' fun e w'' => e = _ ∧ Below W.heap.size W w'') := Lib.hid (fun w' hb => (H4.out w').mono fun e w'' ⟨he, hb2⟩ => ⟨he, Below.step hb hb2⟩)
  have GA := Lib.hid (fun w' (hb : Below W.heap.size W w') => (awake_any w' (HF.out.step hb)).mono fun e w'' ⟨he, hb2⟩ => And.intro he (Below.step hb hb2))
  clear H1 H2 H3 H4
  have hBR := Below.refl W.heap.size W
  go_region_held3 (fun w' => w'.cell? ⟨w.heap.size, 0, none⟩ = some (.int .u64 (a0 : Int)) ∧ w'.cell? ⟨w.heap.size, 1, none⟩ = some (.int .u64 (b0 : Int)))
    (first | exact HKK.out _ (by first | exact hb3 | exact hBR.drew | exact hBR | fail) | go_keep)
    (first | (go_at_call 14; refine (G1.out _ (by first | exact hb3 | exact hBR.drew | exact hBR | fail)).mono ?_; rintro e w3 ⟨rfl, hb3⟩; obtain ⟨k0, k1⟩ := HKK.out w3 hb3) | (go_at_call 15; refine (G2.out _ (by first | exact hb3 | exact hBR.drew | exact hBR | fail)).mono ?_; rintro e w3 ⟨rfl, hb3⟩; obtain ⟨k0, k1⟩ := HKK.out w3 hb3) | (go_at_call 14; refine (G3.out _ (by first | exact hb3 | exact hBR.drew | exact hBR | fail)).mono ?_; rintro e w3 ⟨rfl, hb3⟩; obtain ⟨k0, k1⟩ := HKK.out w3 hb3) | (go_at_call 15; refine (G4.out _ (by first | exact hb3 | exact hBR.drew | exact hBR | fail)).mono ?_; rintro e w3 ⟨rfl, hb3⟩; obtain ⟨k0, k1⟩ := HKK.out w3 hb3) | (go_at_call 9; refine (GA.out _ (by first | exact hb3 | exact hBR.drew | exact hBR | fail)).mono ?_; rintro e w3 ⟨rfl, hb3⟩; obtain ⟨k0, k1⟩ := HKK.out w3 hb3) | fail)
  all_goals
    go_wp2_with fail
    go_ret
    exact ⟨rfl, Below.step HB0.out hb3⟩

set_option maxRecDepth 100000 in
theorem lifted (os : Os) (started : os.Started) (H : Type) (enc : TypeId × Value → H) (F : Stop.Interp) :
    ReturnsInHanded {} Tryd.checked os 5 .any ((OpenSpec.ofChange Rows.macDerivesSpec).preRow enc Tryd.prog Tryd.f5 Rows.macDerivesRow.domain false Rows.macDerivesRow.laid) (((OpenSpec.ofChange Rows.macDerivesSpec).at F).post enc Tryd.prog Tryd.f5 false true false false) := by
  refine returnsInHanded_of_row (C := Tryd.checked) (s := OpenSpec.ofChange Rows.macDerivesSpec) own started (by kernel_rfl) Tryd.func5
    (ChangeSpec.witness_shaped (enc := enc) (C := Tryd.checked) (os := os) (X := fun w _ => laidMetH Tryd.prog Rows.macDerivesRow.laid w) false (World.laidAll Tryd.prog os Rows.macDerivesRow.laid) #[.agg #[.int .u64 0, .int .u64 0], .int .i64 0, .int .i64 0] 8 (World.laidAll_os _ _ _)
      (World.shaped_of_ZipB (by kernel_rfl) (by kernel_rfl)) (by kernel_rfl) (by kernel_rfl) (by kernel_rfl)
      (by rw [MakeChecks.laidMetH_plain _ _ _ (by kernel_rfl)]; exact laidMet_laidAll _ (by kernel_rfl) (by kernel_rfl))) ?_
  intro W base args ds gs before hval0 hW _ _ hsz0 hL hsh _
  have hval : ∀ (j : Nat) t v, Tryd.f5.params[j]? = some t → args[j]? = some v → Value.okWide Tryd.prog W .any base t v := hval0
  have hW' := hW
  obtain ⟨p, q, hA0, hV, rfl, hfz, hnd⟩ := hW
  have hA : DataW.TrodAll enc Tryd.prog W 0 (fun _ => true) true Tryd.f5.params.toList args.toList ds p := hA0
  rw [Tryd.params5] at hA hval
  obtain ⟨v0, vs0, d0, ds0, p0, q0, hargs, rfl, rfl, h0, r0⟩ := trodAll_cons hA
  obtain ⟨v1, vs1, d1, ds1, p1, q1, rfl, rfl, rfl, h1, r1⟩ := trodAll_cons r0
  obtain ⟨v2, vs2, d2, ds2, p2, q2, rfl, rfl, rfl, h2, r2⟩ := trodAll_cons r1
  obtain ⟨rfl, rfl, rfl⟩ := trodAll_nil r2
  obtain rfl : args = #[v0, v1, v2] := by cases args; simp_all
  obtain ⟨rfl, rfl⟩ := trodVars_none hV
  obtain ⟨a0, b0, rfl, ha0, hb0⟩ := key_open (hval 0 24 v0 rfl rfl) h0
  obtain ⟨a1, rfl, rfl, rfl, w1⟩ := open_int Tryd.underlying3 (hval 1 3 v1 rfl rfl) h1
  have bd1 := i64_bd w1
  obtain ⟨a2, rfl, rfl, rfl, w2⟩ := open_int Tryd.underlying3 (hval 2 3 v2 rfl rfl) h2
  have bd2 := i64_bd w2
  clear hA0 hval0
  simp only [List.append_nil] at hW'
  have hlt0 : ∀ x ∈ p0, x.block < W.heap.size := fun x hx => by simpa using hW'.lt x (by simp [hx])
  have hargs0 : ∀ (W' : World), Below W.heap.size W W' → DataW.Trod enc Tryd.prog W' 0 (fun b => decide (b < W.heap.size)) true 24 (.agg #[.int .u64 (a0 : Int), .int .u64 (b0 : Int)]) d0 p0 := fun W' hn => Below.trod laidOut (by kernel_rfl) (of_decide_eq_true (by kernel_rfl)) h0 hn hlt0
  refine (walk W (facts_of W hL hsh) a0 b0 ha0 hb0 a1 bd1.1 bd1.2 a2 bd2.1 bd2.2).mono fun e W' ⟨he, hb⟩ => ?_
  subst he
  exact ⟨_, rfl, _, _, _, [], p0 ++ ([]), [], hW', trodAll_mk1 (shut_bool Tryd.underlying4 _), (trodAll_cons_mk (hargs0 W' hb) (trodAll_cons_mk (shut_int Tryd.underlying3 w1) (trodAll_cons_mk (shut_int Tryd.underlying3 w2) trodAll_mk0))), rfl, hb.frame _, fun h => by cases h⟩

theorem said : Rows.MacDerivesSaid :=
  OpenClaim.holds_of_cond 5 Tryd.f5 rfl rfl rfl rfl rfl rfl rfl ⟨rfl, rfl, rfl, rfl, rfl⟩ rfl rfl rfl rfl rfl (by kernel_rfl) Tryd.func5 (by kernel_rfl)
    (of_decide_eq_true (by kernel_rfl)) (by unfold Func.isWrapper; first | (rw [if_pos (by decide +kernel)]; kernel_rfl) | (rw [if_neg (by decide +kernel)]; exact ⟨rfl, rfl⟩))
    (fun os started H enc _ F => by rw [OpenClaim.pre_eq_preRow]; exact lifted os started H enc F)

theorem plain (f : FuncId) (fn : Func) (hf : Tryd.pinned.checked.prog.funcNamed "bikeshare/bikesharelaw06.MacDerives" = some f) (hfn : Tryd.pinned.checked.prog.funcs[f]? = some fn) :
    false = Tryd.pinned.checked.prog.looks [] ∧ ∀ (j : Nat) t, fn.params[j]? = some t → Tryd.pinned.checked.prog.wantsStandIn t = false := by
  obtain rfl : f = 5 := Option.some.inj ((show Tryd.prog.funcNamed "bikeshare/bikesharelaw06.MacDerives" = some 5 by kernel_rfl).symm.trans hf) |>.symm
  obtain rfl : fn = Tryd.f5 := (Option.some.inj (Tryd.func5.symm.trans hfn)).symm
  refine ⟨by kernel_rfl, fun j t ht => ?_⟩
  rw [Tryd.params5] at ht
  have hm : t ∈ [24, 3, 3] := by simpa using Array.mem_of_getElem? ht
  have hall : ([24, 3, 3].all fun u => !Tryd.prog.wantsStandIn u) = true := by kernel_rfl
  exact (show Tryd.prog.wantsStandIn t = false by simpa using List.all_eq_true.1 hall t hm)

/-- The card. -/
theorem card : Rows.MacDerivesCardSaid :=
  Claim7.holds_tied_plain_at .later [] _ _ _ _ said (fun _ h => by cases h) (by kernel_rfl) (fun _ h => by cases h) macDerives_row_tie rfl ⟨rfl, rfl⟩ (by kernel_rfl) rfl plain (by kernel_rfl)
#print axioms card
end Go.Proofs.YthalnnhkeaanhaaDoor.macDerives
