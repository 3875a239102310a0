/-
  P6.2: MacKeys: for every key and number a derived key consists of the two tags of its number, and the chapter's examples hold; the tied card. Conditions: the row's own (the variable start of package mac holds what the program's text lays when the call begins).
-/
import Derived.Test.YthalnnhkeaanhaaDoorMacE2
namespace Go.Proofs.YthalnnhkeaanhaaDoor.macKeys
open Go.ChangeShapes Go.WideShapes Go.ChangeAt Go.RowKit
set_option linter.unusedVariables false
set_option linter.unusedSimpArgs false

attribute [local irreducible] Calls
set_option maxRecDepth 100000 in
set_option maxHeartbeats 8000000 in
theorem walk (w : World) (f : Facts w) (a0 b0 : Nat) (ha0 : a0 < 18446744073709551616) (hb0 : b0 < 18446744073709551616) (a1 : Int) (lo1 : -9223372036854775808 ≤ a1) (hi1 : a1 ≤ 9223372036854775807) :
    Calls Tryd.prog 8 #[.agg #[.int .u64 (a0 : Int), .int .u64 (b0 : Int)], .int .i64 a1] w fun e w' => e = .returned (.bool true) ∧ Below w.heap.size w w' := by
  have HB0 : Hid (Below w.heap.size w (w.alloc (.cells #[.int .u64 (a0 : Int), .int .u64 (b0 : Int)] 24))) := Lib.hid ((Below.refl _ _).alloc (Nat.le_refl _) _)
  have HF := Lib.hid (f.step HB0.out)
  have HK : Hid (KeyR (w.alloc (.cells #[.int .u64 (a0 : Int), .int .u64 (b0 : Int)] 24)) w.heap.size a0 b0) := Lib.hid (heap_alloc_new w _)
  have H1 := Lib.hid (fun w' f => derive_any a0 b0 a1 w' f ha0 hb0 lo1 hi1)
  have HT0 := Lib.hid (fun w' b f h0 h1 => tag_any a0 b0 (some ⟨b, 0, none⟩) [a1, 0] 2 2 w' f ha0 hb0 rfl (by decide) (wide_two lo1 hi1 (by decide) (by decide)) (two_ints h0 h1))
  have HT1 := Lib.hid (fun w' b f h0 h1 => tag_any a0 b0 (some ⟨b, 0, none⟩) [a1, 1] 2 2 w' f ha0 hb0 rfl (by decide) (wide_two lo1 hi1 (by decide) (by decide)) (two_ints h0 h1))
  generalize tagS a0 b0 [a1, 0] = t0 at H1 HT0
  generalize tagS a0 b0 [a1, 1] = t1 at H1 HT1
  clear f
  go_enter Tryd.func8, Tryd.ntmps8
  go_wp2_with fail
  generalize w.alloc (.cells #[.int .u64 (a0 : Int), .int .u64 (b0 : Int)] 24) = W0 at HB0 HF HK ⊢
  have hg0 : w.heap.size < W0.heap.size := World.block_lt_of_cell? _ _ HK.out.c0
  refine (H1.out W0 HF.out).mono ?_
  rintro e w1 ⟨rfl, hB1⟩
  have HK1 : Hid (KeyR w1 w.heap.size a0 b0) := Lib.hid (HK.out.below hB1 hg0)
  have HF1 := Lib.hid (HF.out.step hB1)
  have hB2 := Below.step HB0.out hB1
  clear HB0 HF HK hB1 hg0
  go_wp2_with fail
  obtain ⟨g, hg⟩ : ∃ g, w1.heap.size = g := ⟨_, rfl⟩
  have HK2 : Hid (KeyR (w1.alloc (.cells #[.int .u64 (t0 : Int), .int .u64 (t1 : Int)] 24)) g t0 t1) := Lib.hid (by rw [← hg]; exact heap_alloc_new w1 _)
  have hB3 : Below w.heap.size w (w1.alloc (.cells #[.int .u64 (t0 : Int), .int .u64 (t1 : Int)] 24)) := hB2.alloc hB2.size _
  have HKa : Hid (KeyR (w1.alloc (.cells #[.int .u64 (t0 : Int), .int .u64 (t1 : Int)] 24)) w.heap.size a0 b0) := Lib.hid (HK1.out.below ((Below.refl _ _).alloc (Nat.le_refl _) _) (World.block_lt_of_cell? _ _ HK1.out.c0))
  have HF2 : Hid (Facts (w1.alloc (.cells #[.int .u64 (t0 : Int), .int .u64 (t1 : Int)] 24))) := Lib.hid (HF1.out.step ((Below.refl _ _).alloc (Nat.le_refl _) _))
  rw [hg]
  generalize w1.alloc (.cells #[.int .u64 (t0 : Int), .int .u64 (t1 : Int)] 24) = W at HK2 hB3 HKa HF2 ⊢
  clear hg hB2 HK1 HF1
  have hgW : w.heap.size < W.heap.size := World.block_lt_of_cell? _ _ HKa.out.c0
  have hgW2 : g < W.heap.size := World.block_lt_of_cell? _ _ HK2.out.c0
  have HKK := Lib.hid (fun w' (hb : Below W.heap.size W w') => And.intro (HKa.out.below hb hgW).c0 (And.intro (HKa.out.below hb hgW).c1 (And.intro (HK2.out.below hb hgW2).c0 (HK2.out.below hb hgW2).c1)))
  have q1 : ∀ w' : World, (binOp .eql 24 (.agg #[.int .u64 (t0 : Int), .int .u64 (t1 : Int)]) (.agg #[.int .u64 (t0 : Int), .int .u64 (t1 : Int)])).run Tryd.prog w' = .ok (.bool true) w' := fun w' => run_eqlK w' _ _
  have q3 : ∀ (w' : World) (o1 o2 : Operand), (eqGuard .eql 24 o1 o2 (.agg #[.int .u64 (t0 : Int), .int .u64 (t1 : Int)]) (.agg #[.int .u64 (t0 : Int), .int .u64 (t1 : Int)])).run Tryd.prog w' = .ok () w' := fun w' o1 o2 => run_guardK w' o1 o2 _ _
  have HTa := Lib.hid (fun w' b (hb : Below W.heap.size W w') h0 h1 => (HT0.out w' b (HF2.out.step hb) h0 h1).mono fun e w'' ⟨he, hb2⟩ => And.intro he (And.intro (Below.step hb hb2) hb2))
  have HTb := Lib.hid (fun w' b (hb : Below W.heap.size W w') h0 h1 => (HT1.out w' b (HF2.out.step hb) h0 h1).mono fun e w'' ⟨he, hb2⟩ => And.intro he (And.intro (Below.step hb hb2) hb2))
  have HD := Lib.hid (fun w' (hb : Below W.heap.size W w') => (H1.out w' (HF2.out.step hb)).mono fun e w'' ⟨he, hb2⟩ => And.intro he (And.intro (Below.step hb hb2) hb2))
  have GA := Lib.hid (fun w' (hb : Below W.heap.size W w') => (awake_any w' (HF2.out.step hb)).mono fun e w'' ⟨he, hb2⟩ => And.intro he (And.intro (Below.step hb hb2) hb2))
  clear HT0 HT1 H1
  have HT0 := HTa
  have HT1 := HTb
  clear HTa HTb
  obtain ⟨kt, hkt⟩ : ∃ kt, Value.agg #[.int .u64 (t0 : Int), .int .u64 (t1 : Int)] = kt := ⟨_, rfl⟩
  rw [hkt] at HD
  have q1 : ∀ w' : World, (binOp .eql 24 (.agg #[.int .u64 (t0 : Int), .int .u64 (t1 : Int)]) kt).run Tryd.prog w' = .ok (.bool true) w' := fun w' => by rw [← hkt]; exact q1 w'
  have q3 : ∀ (w' : World) (o1 o2 : Operand), (eqGuard .eql 24 o1 o2 (.agg #[.int .u64 (t0 : Int), .int .u64 (t1 : Int)]) kt).run Tryd.prog w' = .ok () w' := fun w' o1 o2 => by rw [← hkt]; exact q3 w' o1 o2
  clear hkt
  have hBR := Below.refl W.heap.size W
  go_region_held3 (fun w' => w'.cell? ⟨w.heap.size, 0, none⟩ = some (.int .u64 (a0 : Int)) ∧ w'.cell? ⟨w.heap.size, 1, none⟩ = some (.int .u64 (b0 : Int)) ∧ w'.cell? ⟨g, 0, none⟩ = some (.int .u64 (t0 : Int)) ∧ w'.cell? ⟨g, 1, none⟩ = some (.int .u64 (t1 : Int)))
    (first | exact HKK.out _ (by first | exact hb3 | exact hb3.alloc hb3.size _ | exact hBR.drew | exact hBR | exact (hBR.alloc (Nat.le_refl _) _).drew | exact hBR.alloc (Nat.le_refl _) _ | fail) | go_keep)
    (first | (go_at_call 12; refine (HT0.out _ _ (by first | exact hb3 | exact hb3.alloc hb3.size _ | exact hBR.drew | exact hBR | exact (hBR.alloc (Nat.le_refl _) _).drew | exact hBR.alloc (Nat.le_refl _) _ | fail) (by first | (go_simp; done) | (rw [hl3.cell (by first | (simp; done) | (simp; omega))]; go_simp; done) | fail) (by first | (go_simp; done) | (rw [hl3.cell (by first | (simp; done) | (simp; omega))]; go_simp; done) | fail)).mono ?_; rintro e w3 ⟨rfl, hb3, hl3⟩; obtain ⟨k0, k1, k2, k3⟩ := HKK.out w3 hb3) | (go_at_call 12; refine (HT1.out _ _ (by first | exact hb3 | exact hb3.alloc hb3.size _ | exact hBR.drew | exact hBR | exact (hBR.alloc (Nat.le_refl _) _).drew | exact hBR.alloc (Nat.le_refl _) _ | fail) (by first | (go_simp; done) | (rw [hl3.cell (by first | (simp; done) | (simp; omega))]; go_simp; done) | fail) (by first | (go_simp; done) | (rw [hl3.cell (by first | (simp; done) | (simp; omega))]; go_simp; done) | fail)).mono ?_; rintro e w3 ⟨rfl, hb3, hl3⟩; obtain ⟨k0, k1, k2, k3⟩ := HKK.out w3 hb3) | (go_at_call 14; refine (HD.out _ (by first | exact hb3 | exact hb3.alloc hb3.size _ | exact hBR.drew | exact hBR | exact (hBR.alloc (Nat.le_refl _) _).drew | exact hBR.alloc (Nat.le_refl _) _ | fail)).mono ?_; rintro e w3 ⟨rfl, hb3, hl3⟩; obtain ⟨k0, k1, k2, k3⟩ := HKK.out w3 hb3) | (go_at_call 9; refine (GA.out _ (by first | exact hb3 | exact hb3.alloc hb3.size _ | exact hBR.drew | exact hBR | exact (hBR.alloc (Nat.le_refl _) _).drew | exact hBR.alloc (Nat.le_refl _) _ | fail)).mono ?_; rintro e w3 ⟨rfl, hb3, hl3⟩; obtain ⟨k0, k1, k2, k3⟩ := HKK.out w3 hb3) | fail)
  all_goals
    go_wp2_with fail
    go_ret
    exact ⟨rfl, Below.step hB3 hb3⟩

set_option maxRecDepth 100000 in
theorem lifted (os : Os) (started : os.Started) (H : Type) (enc : TypeId × Value → H) (F : Stop.Interp) :
    ReturnsInHanded {} Tryd.checked os 8 .any ((OpenSpec.ofChange Rows.macKeysSpec).preRow enc Tryd.prog Tryd.f8 Rows.macKeysRow.domain false Rows.macKeysRow.laid) (((OpenSpec.ofChange Rows.macKeysSpec).at F).post enc Tryd.prog Tryd.f8 false true false false) := by
  refine returnsInHanded_of_row (C := Tryd.checked) (s := OpenSpec.ofChange Rows.macKeysSpec) own started (by kernel_rfl) Tryd.func8
    (ChangeSpec.witness_shaped (enc := enc) (C := Tryd.checked) (os := os) (X := fun w _ => laidMetH Tryd.prog Rows.macKeysRow.laid w) false (World.laidAll Tryd.prog os Rows.macKeysRow.laid) #[.agg #[.int .u64 0, .int .u64 0], .int .i64 0] 8 (World.laidAll_os _ _ _)
      (World.shaped_of_ZipB (by kernel_rfl) (by kernel_rfl)) (by kernel_rfl) (by kernel_rfl) (by kernel_rfl)
      (by rw [MakeChecks.laidMetH_plain _ _ _ (by kernel_rfl)]; exact laidMet_laidAll _ (by kernel_rfl) (by kernel_rfl))) ?_
  intro W base args ds gs before hval0 hW _ _ hsz0 hL hsh _
  have hval : ∀ (j : Nat) t v, Tryd.f8.params[j]? = some t → args[j]? = some v → Value.okWide Tryd.prog W .any base t v := hval0
  have hW' := hW
  obtain ⟨p, q, hA0, hV, rfl, hfz, hnd⟩ := hW
  have hA : DataW.TrodAll enc Tryd.prog W 0 (fun _ => true) true Tryd.f8.params.toList args.toList ds p := hA0
  rw [Tryd.params8] at hA hval
  obtain ⟨v0, vs0, d0, ds0, p0, q0, hargs, rfl, rfl, h0, r0⟩ := trodAll_cons hA
  obtain ⟨v1, vs1, d1, ds1, p1, q1, rfl, rfl, rfl, h1, r1⟩ := trodAll_cons r0
  obtain ⟨rfl, rfl, rfl⟩ := trodAll_nil r1
  obtain rfl : args = #[v0, v1] := by cases args; simp_all
  obtain ⟨rfl, rfl⟩ := trodVars_none hV
  obtain ⟨a0, b0, rfl, ha0, hb0⟩ := key_open (hval 0 24 v0 rfl rfl) h0
  obtain ⟨a1, rfl, rfl, rfl, w1⟩ := open_int Tryd.underlying3 (hval 1 3 v1 rfl rfl) h1
  have bd1 := i64_bd w1
  clear hA0 hval0
  simp only [List.append_nil] at hW'
  have hlt0 : ∀ x ∈ p0, x.block < W.heap.size := fun x hx => by simpa using hW'.lt x (by simp [hx])
  have hargs0 : ∀ (W' : World), Below W.heap.size W W' → DataW.Trod enc Tryd.prog W' 0 (fun b => decide (b < W.heap.size)) true 24 (.agg #[.int .u64 (a0 : Int), .int .u64 (b0 : Int)]) d0 p0 := fun W' hn => Below.trod laidOut (by kernel_rfl) (of_decide_eq_true (by kernel_rfl)) h0 hn hlt0
  refine (walk W (facts_of W hL hsh) a0 b0 ha0 hb0 a1 bd1.1 bd1.2).mono fun e W' ⟨he, hb⟩ => ?_
  subst he
  exact ⟨_, rfl, _, _, _, [], p0 ++ ([]), [], hW', trodAll_mk1 (shut_bool Tryd.underlying4 _), (trodAll_cons_mk (hargs0 W' hb) (trodAll_cons_mk (shut_int Tryd.underlying3 w1) trodAll_mk0)), rfl, hb.frame _, fun h => by cases h⟩

theorem said : Rows.MacKeysSaid :=
  OpenClaim.holds_of_cond 8 Tryd.f8 rfl rfl rfl rfl rfl rfl rfl ⟨rfl, rfl, rfl, rfl, rfl⟩ rfl rfl rfl rfl rfl (by kernel_rfl) Tryd.func8 (by kernel_rfl)
    (of_decide_eq_true (by kernel_rfl)) (by unfold Func.isWrapper; first | (rw [if_pos (by decide +kernel)]; kernel_rfl) | (rw [if_neg (by decide +kernel)]; exact ⟨rfl, rfl⟩))
    (fun os started H enc _ F => by rw [OpenClaim.pre_eq_preRow]; exact lifted os started H enc F)

theorem plain (f : FuncId) (fn : Func) (hf : Tryd.pinned.checked.prog.funcNamed "bikeshare/bikesharelaw06.MacKeys" = some f) (hfn : Tryd.pinned.checked.prog.funcs[f]? = some fn) :
    false = Tryd.pinned.checked.prog.looks [] ∧ ∀ (j : Nat) t, fn.params[j]? = some t → Tryd.pinned.checked.prog.wantsStandIn t = false := by
  obtain rfl : f = 8 := Option.some.inj ((show Tryd.prog.funcNamed "bikeshare/bikesharelaw06.MacKeys" = some 8 by kernel_rfl).symm.trans hf) |>.symm
  obtain rfl : fn = Tryd.f8 := (Option.some.inj (Tryd.func8.symm.trans hfn)).symm
  refine ⟨by kernel_rfl, fun j t ht => ?_⟩
  rw [Tryd.params8] at ht
  have hm : t ∈ [24, 3] := by simpa using Array.mem_of_getElem? ht
  have hall : ([24, 3].all fun u => !Tryd.prog.wantsStandIn u) = true := by kernel_rfl
  exact (show Tryd.prog.wantsStandIn t = false by simpa using List.all_eq_true.1 hall t hm)

/-- The card. -/
theorem card : Rows.MacKeysCardSaid :=
  Claim7.holds_tied_plain_at .later [] _ _ _ _ said (fun _ h => by cases h) (by kernel_rfl) (fun _ h => by cases h) macKeys_row_tie rfl ⟨rfl, rfl⟩ (by kernel_rfl) rfl plain (by kernel_rfl)
#print axioms card
end Go.Proofs.YthalnnhkeaanhaaDoor.macKeys
