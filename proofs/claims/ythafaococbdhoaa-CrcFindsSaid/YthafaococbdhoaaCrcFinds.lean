/-
  P5.3, P5.7: CrcFinds: for every byte string of at most 3000 bytes, if one byte of the content or of the checksum of its frame is changed, Open returns ErrSum and nothing else; and the chapter's examples hold (of a longer one, of no change, or of another place the examples alone). Conditions: none but the row's own.
-/
import Derived.Test.YthafaococbdhoaaCrcQ
import Derived.Test.YthafaococbdhoaaCrcS
namespace Go.Proofs.Ythafaococbdhoaa.crcFinds
open Go.ChangeShapes Go.WideShapes Go.ChangeAt Go.RowKit Go.Maps
set_option linter.unusedVariables false

set_option maxRecDepth 100000 in
set_option maxHeartbeats 4000000 in
theorem walk (w : World) (A0 : Option Addr) (l0 : List UInt8) (c0 : Nat) (hi0 : BytR w A0 l0) (hc0 : l0.length ≤ c0) (hl0 : l0.length ≤ 9223372036854775807) (a1 : Int) (lo1 : -9223372036854775808 ≤ a1) (hi1 : a1 ≤ 9223372036854775807) (a2 : Int) (lo2 : 0 ≤ a2) (hi2 : a2 ≤ 255) :
    Calls Try.prog 8 #[.slice A0 l0.length c0, .int .i64 a1, .int .u8 a2] w fun e w' => e = .returned (.bool true) ∧ Below w.heap.size w w' := by
  obtain ⟨m, hm⟩ : ∃ m, l0.length = m := ⟨_, rfl⟩
  rw [hm] at hc0 hl0 ⊢
  have HS := Lib.hid (fun w r hr => short_any A0 m c0 w r hr)
  by_cases hb : 3000 < m
  · clear hi0 hm
    go_enter Try.func8, Try.ntmps8
    go_wp2_with fail
    refine (HS.out _ false (by simp; omega)).mono ?_
    rintro e w1 ⟨rfl, rfl⟩
    go_wp2_with fail
    refine (awake_any _).mono ?_
    rintro e w9 ⟨rfl, hb9⟩
    go_wp2_with fail
    go_ret
    exact ⟨rfl, hb9⟩
  by_cases hz : a2 = 0
  · subst hz
    clear hi0 hm
    go_enter Try.func8, Try.ntmps8
    go_wp2_with fail
    refine (HS.out _ true (by simp; omega)).mono ?_
    rintro e w1 ⟨rfl, rfl⟩
    go_wp2_with fail
    refine (awake_any _).mono ?_
    rintro e w9 ⟨rfl, hb9⟩
    go_wp2_with fail
    go_ret
    exact ⟨rfl, hb9⟩
  obtain ⟨t, rfl⟩ : ∃ t : UInt8, a2 = (t.toNat : Int) := ⟨UInt8.ofNat a2.toNat, by rw [u8_small (by omega)]; omega⟩
  have ht0 : t.toNat ≠ 0 := by omega
  have hz2 : ((t.toNat : Int) == 0) = false := by rw [beq_eq_false_iff_ne]; exact hz
  obtain ⟨k, hk⟩ : ∃ k, (fr l0).length = k := ⟨_, rfl⟩
  obtain ⟨x, hx⟩ : ∃ x, (enc (l0.length : Int)).length = x := ⟨_, rfl⟩
  have hkx : k ≤ x + (m + 4) ∧ x + (m + 4) ≤ k ∧ 1 ≤ x ∧ x ≤ 10 := by
    have := fr_len l0
    have := enc_ten (n := (l0.length : Int)) (by omega) (by omega)
    have := enc_pos (l0.length : Int)
    omega
  obtain ⟨hk1, hk1b, hx1, hx2⟩ := hkx
  have H1 := Lib.hid (seal_any A0 l0 m c0 w hm (by omega) hi0)
  by_cases hat : a1 < x ∨ (k : Int) ≤ a1
  · have HK := Lib.hid hk
    obtain ⟨K, hK⟩ : ∃ K, fr l0 = K := ⟨_, rfl⟩
    rw [hK] at H1 HK
    have hways : (a1 < (k : Int) - (m : Int) - 4) ∨ (¬ a1 < (k : Int) - (m : Int) - 4 ∧ (k : Int) ≤ a1) := by omega
    have hx3 : ¬ (k : Int) - (m : Int) - 4 < 1 := by omega
    clear hi0 hm hk hx hK hat
    rcases hways with q1 | ⟨q1, q2⟩
    all_goals
      go_enter Try.func8, Try.ntmps8
      go_wp2_with fail
      refine (HS.out _ true (by simp; omega)).mono ?_
      rintro e w1 ⟨rfl, rfl⟩
      go_wp2_with fail
      refine H1.out.mono ?_
      rintro e w1 ⟨v1, rfl, hO, hB1⟩
      obtain ⟨B1, d1, hv, _, _⟩ := hO.out.form
      rw [HK.out] at hv
      subst hv
      clear hO H1
      go_wp2_with fail
      refine (awake_any _).mono ?_
      rintro e w9 ⟨rfl, hb9⟩
      go_wp2_with fail
      go_ret
      exact ⟨rfl, Below.step hB1 hb9⟩
  have hat1 : (x : Int) ≤ a1 := by omega
  have hat2 : a1 < (k : Int) := by omega
  obtain ⟨i, rfl⟩ : ∃ i : Nat, a1 = i := ⟨a1.toNat, by omega⟩
  have hix : x ≤ i := by omega
  have hik : i < k := by omega
  have hop := fr_set (C := l0) (by omega) (i := i) (y := (fr l0).getD i 0 ^^^ t) (by omega) (by omega) (xor_ne ht0)
  have hxor := u8_xor_nat ((fr l0).getD i 0).toNat t.toNat ((fr l0).getD i 0).toNat_lt t.toNat_lt
  rw [← UInt8.toNat_xor] at hxor
  have HK := Lib.hid hk
  obtain ⟨K, hK⟩ : ∃ K, fr l0 = K := ⟨_, rfl⟩
  rw [hK] at H1 HK hop hxor
  obtain ⟨y, hy⟩ : ∃ y, K.getD i 0 = y := ⟨_, rfl⟩
  have HY := Lib.hid hy
  rw [hy] at hop hxor
  obtain ⟨z, hzz⟩ : ∃ z, y ^^^ t = z := ⟨_, rfl⟩
  rw [hzz] at hop hxor
  have HO := Lib.hid (fun B d w1 (hd : k ≤ d) (hr : BytR w1 B (K.set i z)) => open_ret B (K.set i z) k d 0 0 w1 [] 0 13 rfl hop (by rw [List.length_set]; exact HK.out) (by omega) hd hr (by decide) (by decide))
  have q1 : ¬ (i : Int) < (k : Int) - (m : Int) - 4 := by omega
  have q2 : ¬ (k : Int) ≤ (i : Int) := by omega
  have q3 : ¬ (k : Int) - (m : Int) - 4 < 1 := by omega
  clear hi0 hm hk hx hK hop hy hzz hat
  go_enter Try.func8, Try.ntmps8
  go_wp2_with fail
  refine (HS.out _ true (by simp; omega)).mono ?_
  rintro e w1 ⟨rfl, rfl⟩
  go_wp2_with fail
  refine H1.out.mono ?_
  rintro e w1 ⟨v1, rfl, hO1, hB1⟩
  have hown : w1.ownsRow w.heap.size 5 1 v1 k (K.map bc) := by
    have := hO1.out
    unfold OwnB at this
    rwa [HK.out] at this
  obtain ⟨g, d, rfl⟩ := Joins.ownsRow_form hown (by omega)
  have hgb := (World.ownsRow.lt hown g rfl).1
  obtain ⟨hst, _⟩ := World.ownsRow.stored hown i (bc z)
  rw [← List.map_set] at hst
  have hcell := World.ownsRow.cellAt hown i (by omega)
  rw [List.getElem?_map, List.getElem?_eq_getElem (by rw [HK.out]; exact hik)] at hcell
  have hyi : K[i]'(by rw [HK.out]; exact hik) = y := by
    have := HY.out
    simpa [List.getD, show i < K.length by rw [HK.out]; exact hik] using this
  rw [hyi] at hcell
  have hc : w1.cell? ⟨g, i, none⟩ = some (.int .u8 (y.toNat : Int)) := hcell
  have hf := World.ownsRow.frozenAt hown i
  have hd : k ≤ d := by
    obtain ⟨A, cap, e, hcap, _⟩ := ownsRow_vs hown
    injection e with _ _ e
    omega
  have HR : Hid (BytR (w1.setCell ⟨g, i, none⟩ (bc z)) (some ⟨g, 0, none⟩) (K.set i z)) := Lib.hid (by
    obtain ⟨A, cap, e, hcap, hr⟩ := ownsRow_vs hst
    injection e with e _ _
    rw [e]
    exact hr)
  have HB2 := Lib.hid (hB1.setCell (p := ⟨g, i, none⟩) hgb (bc z))
  clear hO1 hown hst hcell hyi hB1 H1
  go_wp2_with fail
  obtain ⟨w2, hw2⟩ : ∃ w2, w1.setCell ⟨g, i, none⟩ (.int .u8 (z.toNat : Int)) = w2 := ⟨_, rfl⟩
  change Hid (BytR (w1.setCell ⟨g, i, none⟩ (.int .u8 (z.toNat : Int))) _ _) at HR
  change Hid (Below w.heap.size w (w1.setCell ⟨g, i, none⟩ (.int .u8 (z.toNat : Int)))) at HB2
  rw [hw2] at HR HB2 ⊢
  clear hw2
  refine (HO.out _ d w2 hd HR.out).mono ?_
  rintro e w3 ⟨B3, d3, rfl, _, hB3⟩
  have hB4 := Below.step HB2.out hB3
  clear hB3 HR HB2 HO
  go_wp2_with fail
  refine (awake_any _).mono ?_
  rintro e w9 ⟨rfl, hb9⟩
  go_wp2_with fail
  go_ret
  exact ⟨rfl, Below.step hB4 hb9⟩

set_option maxRecDepth 100000 in
theorem lifted (os : Os) (started : os.Started) (H : Type) (enc : TypeId × Value → H) (F : Stop.Interp) :
    ReturnsInHanded {} Try.checked os 8 .any ((OpenSpec.ofChange Rows.crcFindsSpec).preRow enc Try.prog Try.f8 Rows.crcFindsRow.domain false Rows.crcFindsRow.laid) (((OpenSpec.ofChange Rows.crcFindsSpec).at F).post enc Try.prog Try.f8 false true false false) := by
  refine returnsInHanded_of_row (C := Try.checked) (s := OpenSpec.ofChange Rows.crcFindsSpec) own started (by kernel_rfl) Try.func8
    (ChangeSpec.witness_shaped (enc := enc) (C := Try.checked) (os := os) (X := fun w _ => laidMetH Try.prog Rows.crcFindsRow.laid w) false (World.laidAll Try.prog os Rows.crcFindsRow.laid) #[.slice none 0 0, .int .i64 0, .int .u8 0] 8 (World.laidAll_os _ _ _)
      (World.shaped_of_ZipB (by kernel_rfl) (by kernel_rfl)) (by kernel_rfl) (by kernel_rfl) (by kernel_rfl)
      (by rw [MakeChecks.laidMetH_plain _ _ _ (by kernel_rfl)]; exact laidMet_laidAll _ (by kernel_rfl) (by kernel_rfl))) ?_
  intro W base args ds gs before hval0 hW _ _ _ hL hsh _
  have hval : ∀ (j : Nat) t v, Try.f8.params[j]? = some t → args[j]? = some v → Value.okWide Try.prog W .any base t v := hval0
  have hW' := hW
  obtain ⟨p, q, hA0, hV, rfl, hfz, hnd⟩ := hW
  have hA : DataW.TrodAll enc Try.prog W 0 (fun _ => true) true Try.f8.params.toList args.toList ds p := hA0
  rw [Try.params8] at hA hval
  obtain ⟨v0, vs0, d0, ds0, p0, q0, hargs, rfl, rfl, h0, r0⟩ := trodAll_cons hA
  obtain ⟨v1, vs1, d1, ds1, p1, q1, rfl, rfl, rfl, h1, r1⟩ := trodAll_cons r0
  obtain ⟨v2, vs2, d2, ds2, p2, q2, rfl, rfl, rfl, h2, r2⟩ := trodAll_cons r1
  obtain ⟨rfl, rfl, rfl⟩ := trodAll_nil r2
  obtain rfl : args = #[v0, v1, v2] := by cases args; simp_all
  obtain ⟨rfl, rfl⟩ := trodVars_none hV
  obtain ⟨A0, l0, c0, rfl, hi0, hc0, hl0⟩ := bytes_open (hval 0 22 v0 rfl rfl) h0
  obtain ⟨a1, rfl, rfl, rfl, w1⟩ := open_int Try.underlying3 (hval 1 3 v1 rfl rfl) h1
  have bd1 := i64_bd w1
  obtain ⟨a2, rfl, rfl, rfl, w2⟩ := open_int Try.underlying5 (hval 2 5 v2 rfl rfl) h2
  have bd2 := u8_bd w2
  clear hA0 hval0
  simp only [List.append_nil] at hW'
  have hlt0 : ∀ x ∈ p0, x.block < W.heap.size := fun x hx => by simpa using hW'.lt x (by simp [hx])
  have hargs0 : ∀ (W' : World), Below W.heap.size W W' → DataW.Trod enc Try.prog W' 0 (fun b => decide (b < W.heap.size)) true 22 (.slice A0 l0.length c0) d0 p0 := fun W' hn => Below.trod laidOut (by kernel_rfl) (of_decide_eq_true (by kernel_rfl)) h0 hn hlt0
  refine (walk W A0 l0 c0 hi0 hc0 hl0 a1 bd1.1 bd1.2 a2 bd2.1 bd2.2).mono fun e W' ⟨he, hb⟩ => ?_
  subst he
  exact ⟨_, rfl, _, _, _, [], p0 ++ ([]), [], hW', trodAll_mk1 (shut_bool Try.underlying4 _), (trodAll_cons_mk (hargs0 W' hb) (trodAll_cons_mk (shut_int Try.underlying3 w1) (trodAll_cons_mk (shut_int Try.underlying5 w2) trodAll_mk0))), rfl, hb.frame _, fun h => by cases h⟩

theorem said : Rows.CrcFindsSaid :=
  OpenClaim.holds_of_cond 8 Try.f8 rfl rfl rfl rfl rfl rfl rfl ⟨rfl, rfl, rfl, rfl, rfl⟩ rfl rfl rfl rfl rfl (by kernel_rfl) Try.func8 (by kernel_rfl)
    (of_decide_eq_true (by kernel_rfl)) (by unfold Func.isWrapper; first | (rw [if_pos (by decide +kernel)]; kernel_rfl) | (rw [if_neg (by decide +kernel)]; exact ⟨rfl, rfl⟩))
    (fun os started H enc _ F => by rw [OpenClaim.pre_eq_preRow]; exact lifted os started H enc F)
#print axioms said
end Go.Proofs.Ythafaococbdhoaa.crcFinds
