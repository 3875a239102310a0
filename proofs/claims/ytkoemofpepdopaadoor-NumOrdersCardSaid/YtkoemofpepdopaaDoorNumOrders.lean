/-
  P1.1: NumOrders: without the reference: for all integers and every list of integers (at most 1000 of them: the law's own bound), Add and Mul do not depend on the order of their arguments, nor Sum on the order of its elements, and a sum grows by what is added; and the chapter's examples hold; the tied card. Conditions: the row's own (Go's own tables and error values hold what the program's text lays when the call begins).
-/
import Derived.Test.YtkoemofpepdopaaDoorNumP
import Derived.Test.YtkoemofpepdopaaDoorCards
import Derived.Test.YtkoemofpepdopaaDoorTie
namespace Go.Proofs.YtkoemofpepdopaaDoor.numOrders
open Go.ChangeShapes Go.WideShapes Go.ChangeAt Go.RowKit
set_option linter.unusedVariables false

theorem addS_comm (a b : Int) : addS b a = addS a b := by
  unfold addS
  rw [Int.add_comm b a, Bool.and_comm]
theorem mulS_comm (a b : Int) : mulS b a = mulS a b := by
  unfold mulS
  rw [Int.mul_comm b a, Bool.and_comm]
theorem sumS_reverse (l : List Int) : sumS l.reverse = sumS l := by
  unfold sumS allValid
  rw [List.all_reverse, List.sum_reverse]
theorem sumS_more (l : List Int) (a t : Int) (h : sumS l = (t, 0)) : sumS (l.reverse ++ [a]) = addS t a := by
  unfold sumS at h
  cases hv : allValid l
  · rw [hv] at h
    simp at h
  · rw [hv] at h
    simp only [if_true] at h
    cases hs : validB l.sum
    · rw [hs] at h
      simp at h
    · rw [hs] at h
      simp only [if_true, Prod.mk.injEq, and_true] at h
      subst h
      unfold sumS addS
      have e1 : allValid (l.reverse ++ [a]) = validB a := by
        unfold allValid at *
        rw [List.all_append, List.all_reverse, hv]
        simp
      rw [e1, hs, List.sum_append, List.sum_reverse]
      simp
theorem sumS_bad0 (l : List Int) (h : (sumS l).2 ≠ 0) : (sumS l).1 = 0 := by
  unfold sumS at *
  split
  · split
    · rename_i h1 h2
      rw [if_pos h1, if_pos h2] at h
      exact absurd rfl h
    · rfl
  · rfl

theorem own_block {w : World} {base : Nat} {e : TypeId} {size : Nat} {v : Value} {n : Nat} {xs : List Value} (h : w.ownsRow base e size v n xs) : ∀ k, v.ownBlock = some k → base ≤ k := fun k hk => by
  rcases h.2 with ⟨rfl, _⟩ | ⟨g, cap, cur, rfl, hb, _⟩
  · cases hk
  · cases hk
    exact hb
/-- What a call has gathered by append, as a list. -/
theorem ints_owned {w : World} {base : Nat} {e : TypeId} {v : Value} {l : List Int} (h : w.ownsRow base e 1 v l.length (l.map (Value.int .i64))) (hl : l.length ≤ 4096) : IntsAt w v l := by
  obtain ⟨_, h⟩ := h
  rcases h with ⟨rfl, h0⟩ | ⟨g, cap, cur, rfl, hb, hg, hn, hm, hs, ht⟩
  · exact Or.inl ⟨List.eq_nil_of_length_eq_zero h0, Or.inl rfl⟩
  · by_cases h0 : l.length = 0
    · exact Or.inl ⟨List.eq_nil_of_length_eq_zero h0, Or.inr ⟨_, cap, by rw [h0]⟩⟩
    · refine Or.inr ⟨g, 0, cap, rfl, by omega, by omega, fun k hk => ?_⟩
      rw [Nat.zero_add]
      have h1 : w.cell? ⟨g, k, none⟩ = cur[k]? := by simp [World.cell?, hg]
      have h2 := congrArg (·[k]?) ht
      simp only [List.getElem?_take, List.getElem?_map] at h2
      rw [if_pos (by omega), Array.getElem?_toList] at h2
      rw [h1, h2]
      simp [hk]

set_option maxRecDepth 100000 in
set_option maxHeartbeats 4000000 in
theorem walk_long (w : World) (f : Facts w) (v0 : Value) (l0 : List Int) (hw0 : Wide l0) (hi0 : IntsAt w v0 l0) (a1 : Int) (lo1 : -9223372036854775808 ≤ a1) (hi1 : a1 ≤ 9223372036854775807) (a2 : Int) (lo2 : -9223372036854775808 ≤ a2) (hi2 : a2 ≤ 9223372036854775807) (hb : 1000 < l0.length) :
    Calls Tryd.prog 5 #[v0, .int .i64 a1, .int .i64 a2] w fun e w' => e = .returned (.bool true) ∧ Below w.heap.size w w' := by
  have F := Lib.hid f
  obtain ⟨a, cap, rfl⟩ := hi0.len
  have hbz : (1000 : Int) < (l0.length : Int) := by omega
  clear f hb hi0 hw0
  go_enter Tryd.func5, Tryd.ntmps5
  go_wp2_with (go_at_call 17; refine (awake_any _ F.out).mono ?_; rintro e w' ⟨rfl, hb⟩)
  go_ret
  exact ⟨rfl, hb⟩

set_option maxRecDepth 100000 in
set_option maxHeartbeats 4000000 in
theorem walk_main (w : World) (f : Facts w) (v0 : Value) (l0 : List Int) (hw0 : Wide l0) (hi0 : IntsAt w v0 l0) (a1 : Int) (lo1 : -9223372036854775808 ≤ a1) (hi1 : a1 ≤ 9223372036854775807) (a2 : Int) (lo2 : -9223372036854775808 ≤ a2) (hi2 : a2 ≤ 9223372036854775807) (hb : l0.length ≤ 1000) (a : Option Addr) (cap : Nat) (hv0 : v0 = .slice a l0.length cap) (hc : ∀ k, k < l0.length → ∃ b o, a = some ⟨b, o, none⟩ ∧ w.cell? ⟨b, o + k, none⟩ = some (.int .i64 (l0.getD k 0))) :
    Calls Tryd.prog 5 #[v0, .int .i64 a1, .int .i64 a2] w fun e w' => e = .returned (.bool true) ∧ Below w.heap.size w w' := by
  subst hv0
  obtain ⟨ii, hii, hz0, hz1, hz2⟩ := info_parts info_int
  have hbz : ¬ (1000 : Int) < (l0.length : Int) := by omega
  have hA := fun w => add_any a1 a2 w lo1 hi1 lo2 hi2
  have hA' := fun w => add_any a2 a1 w lo2 hi2 lo1 hi1
  have hM := fun w => mul_any a1 a2 w lo1 hi1 lo2 hi2
  have hM' := fun w => mul_any a2 a1 w lo2 hi2 lo1 hi1
  rw [addS_comm] at hA'
  rw [mulS_comm] at hM'
  obtain ⟨x1, hx1⟩ : ∃ x, (addS a1 a2).1 = x := ⟨_, rfl⟩
  obtain ⟨x2, hx2⟩ : ∃ x, (addS a1 a2).2 = x := ⟨_, rfl⟩
  obtain ⟨x3, hx3⟩ : ∃ x, (mulS a1 a2).1 = x := ⟨_, rfl⟩
  obtain ⟨x4, hx4⟩ : ∃ x, (mulS a1 a2).2 = x := ⟨_, rfl⟩
  simp only [hx1, hx2] at hA hA'
  simp only [hx3, hx4] at hM hM'
  have HA := Lib.hid hA
  have HA' := Lib.hid hA'
  have HM := Lib.hid hM
  have HM' := Lib.hid hM'
  have F := Lib.hid f
  clear hA hA' hM hM' hx1 hx2 hx3 hx4 f
  have HC := Lib.hid hc
  obtain ⟨n, hn⟩ : ∃ n, l0.length = n := ⟨_, rfl⟩
  rw [hn] at HC hb hbz hi0 ⊢
  have HN := Lib.hid hn
  clear hc hn
  go_enter Tryd.func5, Tryd.ntmps5
  go_wp2_with fail
  refine (HA.out _).mono ?_
  rintro e w1 ⟨rfl, rfl⟩
  go_wp2_with fail
  refine (HA'.out _).mono ?_
  rintro e w1 ⟨rfl, rfl⟩
  go_wp2_with fail
  refine (HM.out _).mono ?_
  rintro e w1 ⟨rfl, rfl⟩
  go_wp2_with fail
  refine (HM'.out _).mono ?_
  rintro e w1 ⟨rfl, rfl⟩
  go_wp2_with fail
  go_loopw [15, 16] (fun v i wr => ∃ k : Nat, k ≤ n ∧ i = .int .i64 ((n : Int) - 1 - (k : Int)) ∧ wr.ownsRow w.heap.size 3 1 v k ((l0.reverse.take k).map (Value.int .i64)) ∧ Below w.heap.size w wr) (fun _ i _ => (intOf i + 1).toNat)
  case atStart => exact ⟨0, Nat.zero_le _, val_int' (by omega), World.ownsRow_nil _ _ _ _, Below.refl _ _⟩
  case round =>
    obtain ⟨k, hk, rfl, hown, hnx⟩ := hrel
    by_cases hkn : k < n
    · obtain ⟨j, hj⟩ : ∃ j, n - 1 - k = j := ⟨_, rfl⟩
      have zj : (n : Int) - 1 - (k : Int) = (j : Int) := by omega
      have hjn : (j : Int) < (n : Int) := by omega
      obtain ⟨b, o, rfl, hcj⟩ := HC.out j (by omega)
      have hjw : wr.cell? ⟨b, o + j, none⟩ = some (.int .i64 (l0.getD j 0)) := by
        rw [hnx.cell (p := ⟨b, o + j, none⟩) (World.block_lt_of_cell? _ _ hcj)]
        exact hcj
      clear hcj
      have hsn := take_snoc l0.reverse k (by rw [List.length_reverse, HN.out]; exact hkn)
      have he : l0.reverse.getD k 0 = l0.getD j 0 := by
        have h1 : k < l0.length := by rw [HN.out]; exact hkn
        rw [List.getD_eq_getElem?_getD, List.getElem?_reverse h1, HN.out, hj, List.getD_eq_getElem?_getD]
      rw [he] at hsn
      obtain ⟨x, hx⟩ : ∃ x, l0.getD j 0 = x := ⟨_, rfl⟩
      rw [hx] at hsn hjw
      have HSN := Lib.hid hsn
      have HJ := Lib.hid hj
      clear hx hsn he hj
      go_wp2_with (at_builtin; refine wpList_append_own _ rfl _ _ 27 rfl w.heap.size 3 ii (.int .i64 0) 1 8 Tryd.underlying27 hii hz0 hz1 hz2 rfl (by decide) _ _ _ rfl (hown.alloc _) ⟨wr.heap.size, 0, none⟩ 1 1 [.int .i64 x] rfl rfl ?c1 ?c2 ?c3 ?c4 ?c5 ?_)
      case c1 =>
        intro j u hj
        match j, hj with
        | 0, hj => simp at hj; subst hj; simp [Addr.add]
      case c2 => intro u hu; simp at hu; subst hu; rfl
      case c3 => unfold maxLen; omega
      case c4 => omega
      case c5 => have := hnx.size; simp; omega
      intro v' w1 hown' hgrow _
      have hb1 : Below w.heap.size w w1 := (hnx.alloc hnx.size _).grown hgrow (by have := hnx.size; simp; omega) (own_block hown)
      have hown2 : w1.ownsRow w.heap.size 3 1 v' (k + 1) ((l0.reverse.take (k + 1)).map (Value.int .i64)) := by
        rw [HSN.out, List.map_append, List.map_take, List.map_reverse]
        exact hown'
      have HO := Lib.hid hown2
      clear hown2
      clear hown hown' hgrow hnx
      go_wp2
      go_roundw
      case rel => exact ⟨k + 1, by omega, val_int' (by omega), HO.out, hb1⟩
      case measure => simp only [intOf]; omega
    · obtain rfl : k = n := by omega
      have zneg : (k : Int) - 1 - (k : Int) = -1 := by omega
      have hlr : l0.reverse.take k = l0.reverse := List.take_of_length_le (by rw [List.length_reverse, HN.out]; exact Nat.le_refl _)
      rw [hlr] at hown
      have hN := HN.out
      clear hlr hkn
      subst hN
      have hown : wr.ownsRow w.heap.size 3 1 u15 l0.length (l0.reverse.map (Value.int .i64)) := hown
      have hrev : (l0.reverse).length = l0.length := List.length_reverse
      have hib : IntsAt wr u15 l0.reverse := ints_owned (by rw [hrev]; exact hown) (by rw [hrev]; omega)
      have hil : IntsAt wr (.slice a l0.length cap) l0 := hi0.below hnx
      have hwr : Wide l0.reverse := fun k hk => by
        rw [hrev] at hk
        have := hw0 (l0.length - 1 - k) (by omega)
        have e : l0.reverse.getD k 0 = l0.getD (l0.length - 1 - k) 0 := by
          rw [List.getD_eq_getElem?_getD, List.getElem?_reverse hk, List.getD_eq_getElem?_getD]
        rw [e]
        exact this
      have hS1 := sum_any l0 _ wr (by omega) hw0 hil
      have hS2 := sum_any l0.reverse _ wr (by rw [hrev]; omega) hwr hib
      rw [sumS_reverse] at hS2
      obtain ⟨t, ht⟩ : ∃ t, (sumS l0).1 = t := ⟨_, rfl⟩
      obtain ⟨e0, he0⟩ : ∃ t, (sumS l0).2 = t := ⟨_, rfl⟩
      rw [ht, he0] at hS1 hS2
      have HS1 := Lib.hid hS1
      have HS2 := Lib.hid hS2
      clear hS1 hS2 hib hil
      by_cases hok : e0 = 0
      · subst hok
        have hst : sumS l0 = (t, 0) := by rw [← ht, ← he0]
        have htv : -9223372036854775808 ≤ t ∧ t ≤ 9223372036854775807 := by
          have : validB t = true := by
            unfold sumS at hst
            split at hst
            · split at hst
              · rename_i h2
                simp only [Prod.mk.injEq, and_true] at hst
                rw [← hst]; exact h2
              · simp at hst
            · simp at hst
          have := validB_true this
          omega
        have hmore := sumS_more l0 a1 t hst
        have hAd := fun w => add_any t a1 w htv.1 htv.2 lo1 hi1
        have HAd := Lib.hid hAd
        have HMORE := Lib.hid hmore
        have HWR := Lib.hid hwr
        have HREV := Lib.hid hrev
        have HW0 := Lib.hid hw0
        clear hAd hmore hst htv ht he0 hwr hrev hw0
        go_wp2_with fail
        refine HS1.out.mono ?_
        rintro e w5 ⟨rfl, rfl⟩
        go_wp2_with fail
        refine HS2.out.mono ?_
        rintro e w5 ⟨rfl, rfl⟩
        go_wp2_with (at_builtin; refine wpList_append_own _ rfl _ _ 27 rfl w.heap.size 3 ii (.int .i64 0) 1 8 Tryd.underlying27 hii hz0 hz1 hz2 rfl (by decide) _ _ _ rfl (hown.alloc _) ⟨wr.heap.size, 0, none⟩ 1 1 [.int .i64 a1] rfl rfl ?c1 ?c2 ?c3 ?c4 ?c5 ?_)
        case c1 =>
          intro j u hj
          match j, hj with
          | 0, hj => simp at hj; subst hj; simp [Addr.add]
        case c2 => intro u hu; simp at hu; subst hu; rfl
        case c3 => unfold maxLen; omega
        case c4 => omega
        case c5 => have := hnx.size; simp; omega
        intro v' w1 hown' hgrow _
        have hb1 : Below w.heap.size w w1 := (hnx.alloc hnx.size _).grown hgrow (by have := hnx.size; simp; omega) (own_block hown)
        have hib : IntsAt w1 v' (l0.reverse ++ [a1]) := ints_owned (base := w.heap.size) (e := 3) (by
          have e1 : (l0.reverse ++ [a1]).length = l0.length + 1 := by simp
          rw [e1, List.map_append, List.map_reverse]
          exact hown') (by simp; omega)
        have hwm : Wide (l0.reverse ++ [a1]) := fun k hk => by
          by_cases hk2 : k < l0.reverse.length
          · have := HWR.out k hk2
            rw [show (l0.reverse ++ [a1]).getD k 0 = l0.reverse.getD k 0 by
              rw [List.getD_eq_getElem?_getD, List.getD_eq_getElem?_getD, List.getElem?_append_left hk2]]
            exact this
          · rw [List.length_append, List.length_singleton] at hk
            obtain rfl : k = l0.reverse.length := by omega
            rw [show (l0.reverse ++ [a1]).getD l0.reverse.length 0 = a1 by simp]
            exact ⟨lo1, hi1⟩
        have hS3 := sum_any (l0.reverse ++ [a1]) v' w1 (by simp; omega) hwm hib
        rw [HMORE.out] at hS3
        obtain ⟨y1, hy1⟩ : ∃ y, (addS t a1).1 = y := ⟨_, rfl⟩
        obtain ⟨y2, hy2⟩ : ∃ y, (addS t a1).2 = y := ⟨_, rfl⟩
        rw [hy1, hy2] at hS3
        have HAd2 := HAd.out
        simp only [hy1, hy2] at HAd2
        have HS3 := Lib.hid hS3
        have HAD := Lib.hid HAd2
        clear hown' hgrow hib hwm hS3 HAd2 hy1 hy2 HAd HMORE hown
        go_wp2_with fail
        refine HS3.out.mono ?_
        rintro e w6 ⟨rfl, rfl⟩
        go_wp2_with fail
        refine (HAD.out _).mono ?_
        rintro e w7 ⟨rfl, rfl⟩
        go_wp2_with fail
        refine (awake_any _ (F.out.below hb1)).mono ?_
        rintro e w8 ⟨rfl, hb8⟩
        have hb9 := Below.step hb1 hb8
        go_wp2
        go_ret
        exact ⟨rfl, hb9⟩
      · have hez : (e0 != 0) = true := by rw [bne_iff_ne]; exact hok
        have ht0 : t = 0 := by rw [← ht]; exact sumS_bad0 l0 (by rw [he0]; exact hok)
        subst ht0
        clear ht he0 hwr hrev hw0 hown hok
        go_wp2_with fail
        refine HS1.out.mono ?_
        rintro e w5 ⟨rfl, rfl⟩
        go_wp2_with fail
        refine HS2.out.mono ?_
        rintro e w5 ⟨rfl, rfl⟩
        go_wp2_with fail
        refine (awake_any _ (F.out.below hnx)).mono ?_
        rintro e w8 ⟨rfl, hb8⟩
        have hb9 := Below.step hnx hb8
        go_wp2
        go_ret
        exact ⟨rfl, hb9⟩

theorem walk (w : World) (f : Facts w) (v0 : Value) (l0 : List Int) (hw0 : Wide l0) (hi0 : IntsAt w v0 l0) (a1 : Int) (lo1 : -9223372036854775808 ≤ a1) (hi1 : a1 ≤ 9223372036854775807) (a2 : Int) (lo2 : -9223372036854775808 ≤ a2) (hi2 : a2 ≤ 9223372036854775807) :
    Calls Tryd.prog 5 #[v0, .int .i64 a1, .int .i64 a2] w fun e w' => e = .returned (.bool true) ∧ Below w.heap.size w w' := by
  by_cases hb : 1000 < l0.length
  · exact walk_long w f v0 l0 hw0 hi0 a1 lo1 hi1 a2 lo2 hi2 hb
  · obtain ⟨a, cap, hv0⟩ := hi0.len
    refine walk_main w f v0 l0 hw0 hi0 a1 lo1 hi1 a2 lo2 hi2 (Nat.le_of_not_lt hb) a cap hv0 fun k hk => ?_
    rcases hi0 with ⟨rfl, _⟩ | ⟨b, o, c2, hv, _, _, hc⟩
    · exact absurd hk (Nat.not_lt_zero _)
    · rw [hv0, Value.slice.injEq] at hv
      exact ⟨b, o, hv.1, hc k hk⟩

set_option maxRecDepth 100000 in
theorem lifted (os : Os) (started : os.Started) (H : Type) (enc : TypeId × Value → H) (F : Stop.Interp) :
    ReturnsInHanded {} Tryd.checked os 5 .any ((OpenSpec.ofChange Rows.numOrdersSpec).preRow enc Tryd.prog Tryd.f5 Rows.numOrdersRow.domain false Rows.numOrdersRow.laid) (((OpenSpec.ofChange Rows.numOrdersSpec).at F).post enc Tryd.prog Tryd.f5 false true false false) := by
  refine returnsInHanded_of_row (C := Tryd.checked) (s := OpenSpec.ofChange Rows.numOrdersSpec) own started (by kernel_rfl) Tryd.func5
    (ChangeSpec.witness_shaped (enc := enc) (C := Tryd.checked) (os := os) (X := fun w _ => laidMetH Tryd.prog Rows.numOrdersRow.laid w) false (World.laidAll Tryd.prog os Rows.numOrdersRow.laid) #[.slice none 0 0, .int .i64 0, .int .i64 0] 8 (World.laidAll_os _ _ _)
      (World.shaped_of_ZipB (by kernel_rfl) (by kernel_rfl)) (by kernel_rfl) (by kernel_rfl) (by kernel_rfl)
      (by rw [MakeChecks.laidMetH_plain _ _ _ (by kernel_rfl)]; exact laidMet_laidAll _ (by kernel_rfl) (by kernel_rfl))) ?_
  intro W base args ds gs before hval0 hW _ _ _ hL hsh _
  have hval : ∀ (j : Nat) t v, Tryd.f5.params[j]? = some t → args[j]? = some v → Value.okWide Tryd.prog W .any base t v := hval0
  have hW' := hW
  obtain ⟨p, q, hA0, hV, rfl, hfz, hnd⟩ := hW
  have hA : DataW.TrodAll enc Tryd.prog W 0 (fun _ => true) true Tryd.f5.params.toList args.toList ds p := hA0
  rw [Tryd.params5] at hA hval
  obtain ⟨v0, vs0, d0, ds0, p0, q0, hargs, rfl, rfl, h0, r0⟩ := trodAll_cons hA
  obtain ⟨v1, vs1, d1, ds1, p1, q1, rfl, rfl, rfl, h1, r1⟩ := trodAll_cons r0
  obtain ⟨v2, vs2, d2, ds2, p2, q2, rfl, rfl, rfl, h2, r2⟩ := trodAll_cons r1
  obtain ⟨rfl, rfl, rfl⟩ := trodAll_nil r2
  obtain rfl : args = #[v0, v1, v2] := by cases args; simp_all
  obtain ⟨rfl, rfl⟩ := trodVars_none hV
  obtain ⟨l0, hi0, hw0⟩ := ints_open (hval 0 27 v0 rfl rfl) h0
  obtain ⟨a1, rfl, rfl, rfl, w1⟩ := open_int Tryd.underlying3 (hval 1 3 v1 rfl rfl) h1
  have bd1 := i64_bd w1
  obtain ⟨a2, rfl, rfl, rfl, w2⟩ := open_int Tryd.underlying3 (hval 2 3 v2 rfl rfl) h2
  have bd2 := i64_bd w2
  clear hA0 hval0
  simp only [List.append_nil] at hW'
  have hlt0 : ∀ x ∈ p0, x.block < W.heap.size := fun x hx => by simpa using hW'.lt x (by simp [hx])
  have hargs0 : ∀ (W' : World), Below W.heap.size W W' → DataW.Trod enc Tryd.prog W' 0 (fun b => decide (b < W.heap.size)) true 27 v0 d0 p0 := fun W' hn => Below.trod laidOut (by kernel_rfl) (of_decide_eq_true (by kernel_rfl)) h0 hn hlt0
  refine (walk W (facts_of W hL hsh) v0 l0 hw0 hi0 a1 bd1.1 bd1.2 a2 bd2.1 bd2.2).mono fun e W' ⟨he, hb⟩ => ?_
  subst he
  exact ⟨_, rfl, _, _, _, [], p0 ++ ([]), [], hW', trodAll_mk1 (shut_bool Tryd.underlying4 _), (trodAll_cons_mk (hargs0 W' hb) (trodAll_cons_mk (shut_int Tryd.underlying3 w1) (trodAll_cons_mk (shut_int Tryd.underlying3 w2) trodAll_mk0))), rfl, hb.frame _, fun h => by cases h⟩

theorem said : Rows.NumOrdersSaid :=
  OpenClaim.holds_of_cond 5 Tryd.f5 rfl rfl rfl rfl rfl rfl rfl ⟨rfl, rfl, rfl, rfl, rfl⟩ rfl rfl rfl rfl rfl (by kernel_rfl) Tryd.func5 (by kernel_rfl)
    (of_decide_eq_true (by kernel_rfl)) (by unfold Func.isWrapper; first | (rw [if_pos (by decide +kernel)]; kernel_rfl) | (rw [if_neg (by decide +kernel)]; exact ⟨rfl, rfl⟩))
    (fun os started H enc _ F => by rw [OpenClaim.pre_eq_preRow]; exact lifted os started H enc F)

theorem plain (f : FuncId) (fn : Func) (hf : Tryd.pinned.checked.prog.funcNamed "bikeshare/bikesharelaw01.NumOrders" = some f) (hfn : Tryd.pinned.checked.prog.funcs[f]? = some fn) :
    true = Tryd.pinned.checked.prog.looks [] ∧ ∀ (j : Nat) t, fn.params[j]? = some t → Tryd.pinned.checked.prog.wantsStandIn t = false := by
  obtain rfl : f = 5 := Option.some.inj ((show Tryd.prog.funcNamed "bikeshare/bikesharelaw01.NumOrders" = some 5 by kernel_rfl).symm.trans hf) |>.symm
  obtain rfl : fn = Tryd.f5 := (Option.some.inj (Tryd.func5.symm.trans hfn)).symm
  refine ⟨by kernel_rfl, fun j t ht => ?_⟩
  rw [Tryd.params5] at ht
  have hm : t ∈ [27, 3, 3] := by simpa using Array.mem_of_getElem? ht
  have hall : ([27, 3, 3].all fun u => !Tryd.prog.wantsStandIn u) = true := by kernel_rfl
  exact (show Tryd.prog.wantsStandIn t = false by simpa using List.all_eq_true.1 hall t hm)

/-- The card. -/
theorem card : Rows.NumOrdersCardSaid :=
  Claim7.holds_tied_plain_at .later [] _ _ _ _ said (fun _ h => by cases h) (by kernel_rfl) (fun _ h => by cases h) numOrders_row_tie rfl ⟨rfl, rfl⟩ (by kernel_rfl) rfl plain (by kernel_rfl)
#print axioms card
end Go.Proofs.YtkoemofpepdopaaDoor.numOrders
