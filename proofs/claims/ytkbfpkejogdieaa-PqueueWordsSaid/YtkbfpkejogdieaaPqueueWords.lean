/-
  P7.1, P7.2: PqueueWords: for every list of at most 100 strings (else the chapter's example alone) and every number of early removals, strings that are ordered by their lengths leave in the sequence of their lengths, equal ones in that of the pushes; and the chapter's second example holds. Conditions: none but the row's own.
-/
import Derived.Test.YtkbfpkejogdieaaPzQ
import Derived.Lib.QuietBelow
namespace Go.Proofs.Ytkbfpkejogdieaa.pqueueWords
open Go.ChangeShapes Go.WideShapes Go.ChangeAt Go.RowKit
set_option linter.unusedVariables false
attribute [local irreducible] wpQuiet

set_option maxRecDepth 100000 in
set_option maxHeartbeats 8000000 in
theorem walk (w : World) (A0 : Option Addr) (l0 : List ByteArray) (c0 : Nat) (hi0 : StR w A0 l0) (hw0 : WideS l0) (hl0 : l0.length ≤ 9223372036854775807) (a1 : Int) (lo1 : 0 ≤ a1) (hi1 : a1 ≤ 255) :
    Calls Try.prog 7 #[.slice A0 l0.length c0, .int .u8 a1] w fun e w' => e = .returned (.bool true) ∧ Below w.heap.size w w' := by
  obtain ⟨n, hn⟩ : ∃ n, l0.length = n := ⟨_, rfl⟩
  rw [hn] at hl0 ⊢
  by_cases hb : 100 < n
  · have hbz : (100 : Int) < (n : Int) := by omega
    clear hi0 hw0 hn
    go_enter Try.func7, Try.ntmps7
    go_wp2_with fail
    refine (awake_any _).mono ?_
    rintro e w9 ⟨rfl, hb9⟩
    go_wp2_with fail
    go_ret
    exact ⟨rfl, hb9⟩
  have hbz : ¬ (100 : Int) < (n : Int) := by omega
  have HN := Lib.hid hn
  have HI := Lib.hid hi0
  have HW := Lib.hid hw0
  obtain ⟨u, hu⟩ : ∃ u : Nat, a1 = (u : Int) := ⟨a1.toNat, by omega⟩
  subst hu
  obtain ⟨ne, hne⟩ : ∃ ne : Nat, ne = u % (n + 1) := ⟨_, rfl⟩
  have hrem : ((u : Int)).tmod ((n : Int) + 1) = (ne : Int) := by
    rw [Int.tmod_eq_emod_of_nonneg (by omega), hne]
    push_cast
    rfl
  have hnen : ne ≤ n := by
    have := Nat.mod_lt u (show n + 1 > 0 by omega)
    omega
  clear hne hi0 hw0 hn
  go_enter Try.func7, Try.ntmps7
  go_wp2_with fail
  refine (new_w _).mono ?_
  rintro e w1 ⟨q, Sq, rfl, hq1, hs1, hb1⟩
  have HQ1 := Lib.hid hq1
  have HS1 := Lib.hid hs1
  clear hq1 hs1
  go_wp2_with fail
  clear hrem
  -- the pushes
  go_loopw [7] (fun vi wr => ∃ (k : Nat) (S' : Nat → Prop), k ≤ n ∧ vi = .int .i64 (k : Int) ∧ Hid (QRZ wr q S' false k (stS (kZ false) (l0.take k))) ∧ Hid (∀ x, S' x → w.heap.size ≤ x) ∧ Hid (Below w.heap.size w wr)) (fun vi _ => n - (intOf vi).toNat)
  case atStart => exact ⟨0, Sq, by omega, rfl, HQ1, HS1, Lib.hid hb1⟩
  case round =>
    obtain ⟨k, S', hk, rfl, HQ, HS, HB⟩ := hrel
    by_cases hlt : k < n
    · have hltz : (k : Int) < (n : Int) := by omega
      have hkl : k < l0.length := by rw [HN.out]; exact hlt
      obtain ⟨b, o, rfl, hbl, hc⟩ := HI.out (by omega)
      have c0' := hc k hkl
      rw [← HB.out.cell (p := ⟨b, o + k, none⟩) hbl] at c0'
      have e1 := takeS_snoc l0 k hkl
      obtain ⟨y, hy⟩ : ∃ y, l0.getD k ByteArray.empty = y := ⟨_, rfl⟩
      rw [hy] at c0' e1
      have HPUSH := Lib.hid (push_z q S' false k _ y wr HQ.out (by omega))
      have HE := Lib.hid e1
      clear hkl hc e1 hy hb1
      go_wp2_with fail
      refine HPUSH.out.mono ?_
      rintro e w2 ⟨rfl, S2, hq2, hk2, hs2⟩
      have HQ2 : Hid (QRZ w2 q S2 false (k + 1) (stS (kZ false) (l0.take (k + 1)))) := Lib.hid (by rw [HE.out, stS_snoc]; exact hq2)
      have HS2 : Hid (∀ x, S2 x → w.heap.size ≤ x) := Lib.hid (fun x e => by
        have := HB.out.size
        rcases hs2 x e with h | h
        · exact HS.out x h
        · omega)
      have HB2 : Hid (Below w.heap.size w w2) := Lib.hid (HB.out.trans (hk2.below HS.out HB.out.size))
      clear hq2 hk2 hs2 HPUSH
      go_wp2_with fail
      go_roundw
      case rel => exact ⟨k + 1, S2, by omega, by go_num, HQ2, HS2, HB2⟩
      case measure => simp only [intOf]; omega
    · obtain rfl : k = n := by omega
      have hnlt : ¬ (k : Int) < (k : Int) := by omega
      have hall : l0.take k = l0 := List.take_of_length_le (by rw [HN.out]; omega)
      rw [hall] at HQ
      obtain ⟨V, hV⟩ : ∃ V, stS (kZ false) l0 = V := ⟨_, rfl⟩
      rw [hV] at HQ
      have HVV := Lib.hid hV
      have HVL : Hid (V.length = k) := Lib.hid (by rw [← hV, stS_length, HN.out])
      clear hall hV hb1 HQ1 HS1
      obtain ⟨wA, rfl⟩ : ∃ x, x = wr := ⟨_, rfl⟩
      go_wp2_with fail
      -- the early removals
      go_loopw [8, 9] (fun vo vi wt => ∃ (i : Nat) (P O : List ByteArray), i ≤ ne ∧ vi = .int .i64 (i : Int) ∧ Hid (V = O ++ P) ∧ Hid (O.length = i) ∧ Hid (QRZ wt q S' false k P) ∧ Hid (OwnS wt wA.heap.size vo O) ∧ Hid (Keep S' wA wt)) (fun _ vi _ => ne - (intOf vi).toNat)
      case atStart => exact ⟨0, V, [], by omega, rfl, Lib.hid rfl, Lib.hid rfl, HQ, Lib.hid (OwnS.nil _ _), Lib.hid (Keep.refl _ _)⟩
      case round =>
        obtain ⟨i, P, O, hi, rfl, HVP, HOL, HQP, HO, HK⟩ := hrel
        obtain ⟨Ao, co, hvo, hro, hao⟩ := HO.out.form
        rw [HOL.out] at hvo
        subst hvo
        have HAO : Hid (∀ g, (Value.slice Ao i co).ownBlock = some g → ¬ S' g) := Lib.hid (fun g e e2 => by have := (HO.out.ge g e).1; have := HQ.out.lt g e2; omega)
        have hwt : wA.heap.size ≤ wr.heap.size := HK.out.size
        by_cases hie : i < ne
        · have hiez : (i : Int) < (ne : Int) := by omega
          cases P with
          | nil =>
            have h5 := congrArg List.length HVP.out
            rw [List.append_nil, HVL.out, HOL.out] at h5
            omega
          | cons x P =>
            have HPOP := Lib.hid (pop_some_z q S' false k x P wr HQP.out (by omega))
            have HVP2 : Hid (V = (O ++ [x]) ++ P) := Lib.hid (by rw [HVP.out]; simp)
            have HOL2 : Hid ((O ++ [x]).length = i + 1) := Lib.hid (by rw [List.length_append, HOL.out]; rfl)
            clear hro hao HVP
            go_wp2_with fail
            refine HPOP.out.mono ?_
            rintro e w2 ⟨rfl, hq2, hk2⟩
            have HQ2 := Lib.hid hq2
            have HO2 := Lib.hid (HO.out.keep hk2 HAO.out)
            have HK2 := Lib.hid (HK.out.step hk2)
            have hw2 : wr.heap.size ≤ w2.heap.size := hk2.size
            clear hq2 hk2 HPOP HO
            go_wp2_with (at_builtin; refine wpList_append_str rfl _ _ rfl wA.heap.size (.slice Ao i co) O rfl (HO2.out.alloc _) w2.heap.size 1 x rfl (by rw [World.cell?_alloc_new]; rfl) (by rw [HOL.out]; omega) (by simp; omega) ?_)
            intro v4 w4 hO4 hg4
            have k24 : Keep (fun q => (Value.slice Ao i co).ownBlock = some q) w2 w4 := (Keep.alloc0 w2 _).grown hg4.out (fun q e => Or.inl e)
            have HQ4 := Lib.hid (HQ2.out.keep k24 (fun q e e2 => HAO.out q e2 e))
            have HK4 : Hid (Keep S' wA w4) := Lib.hid (HK2.out.trans k24 (fun q e => Or.inr (HO2.out.ge q e).1))
            clear k24
            go_wp2_with fail
            go_roundw
            case rel => exact ⟨i + 1, P, O ++ [x], by omega, by go_num, HVP2, HOL2, HQ4, hO4, HK4⟩
            case measure => simp only [intOf]; omega
        · obtain rfl : i = ne := by omega
          have hieq : ¬ (i : Int) < (i : Int) := by omega
          have hPl : P.length = k - i := by
            have h5 := congrArg List.length HVP.out
            rw [List.length_append, HVL.out, HOL.out] at h5
            omega
          have HLEN := Lib.hid (len_z q S' false k (k - i) P wr HQP.out hPl)
          rw [show ((k - i : Nat) : Int) = (k : Int) - (i : Int) by omega] at HLEN
          have HKA := HK
          have HOA : Hid (OwnS wr wA.heap.size (.slice Ao i co) O) := HO
          clear hro hao HAO
          obtain ⟨wB, rfl⟩ : ∃ x, x = wr := ⟨_, rfl⟩
          go_wp2_with fail
          refine HLEN.out.mono ?_
          rintro e w' ⟨rfl, rfl⟩
          go_wp2_with fail
          clear HLEN
          -- the other ones
          go_loopg [8] (k - i) (fun gh vo wt => ∃ (P O : List ByteArray), P.length = gh ∧ Hid (V = O ++ P) ∧ Hid (QRZ wt q S' false k P) ∧ Hid (OwnS wt wA.heap.size vo O) ∧ Hid (Keep S' wA wt))
          case atStart => exact ⟨P, O, hPl, HVP, HQP, HOA, HKA⟩
          case round =>
            obtain ⟨P, O, rfl, HVP, HQP, HO, HK⟩ := hrel
            obtain ⟨Ao, co, hvo, hro, hao⟩ := HO.out.form
            obtain ⟨j, hj⟩ : ∃ j, O.length = j := ⟨_, rfl⟩
            rw [hj] at hvo
            subst hvo
            have HOL := Lib.hid hj
            have HAO : Hid (∀ g, (Value.slice Ao j co).ownBlock = some g → ¬ S' g) := Lib.hid (fun g e e2 => by have := (HO.out.ge g e).1; have := HQ.out.lt g e2; omega)
            have hwt : wA.heap.size ≤ wr.heap.size := HK.out.size
            have hlen : j + P.length = k := by
              have h5 := congrArg List.length HVP.out
              rw [List.length_append, HVL.out, HOL.out] at h5
              omega
            clear hj
            cases P with
            | cons x P =>
              have hjk : j ≤ k := by omega
              obtain ⟨m, hm⟩ : ∃ m, (x :: P).length = m := ⟨_, rfl⟩
              have hm0 : (0 : Int) < (m : Int) := by rw [← hm, List.length_cons]; omega
              have hjz : (j : Int) ≤ (k : Int) := by omega
              have HLEN := Lib.hid (len_z q S' false k m (x :: P) wr HQP.out hm)
              have HPOP := Lib.hid (pop_some_z q S' false k x P wr HQP.out (by omega))
              have HVP2 : Hid (V = (O ++ [x]) ++ P) := Lib.hid (by rw [HVP.out]; simp)
              clear hro hao HVP hlen hm
              go_wp2_with fail
              refine HLEN.out.mono ?_
              rintro e w' ⟨rfl, rfl⟩
              go_wp2_with fail
              refine HPOP.out.mono ?_
              rintro e w2 ⟨rfl, hq2, hk2⟩
              have HQ2 := Lib.hid hq2
              have HO2 := Lib.hid (HO.out.keep hk2 HAO.out)
              have HK2 := Lib.hid (HK.out.step hk2)
              have hw2 : wr.heap.size ≤ w2.heap.size := hk2.size
              clear hq2 hk2 HPOP HO HLEN
              go_wp2_with (at_builtin; refine wpList_append_str rfl _ _ rfl wA.heap.size (.slice Ao j co) O rfl (HO2.out.alloc _) w2.heap.size 1 x rfl (by rw [World.cell?_alloc_new]; rfl) (by rw [HOL.out]; omega) (by simp; omega) ?_)
              intro v4 w4 hO4 hg4
              have k24 : Keep (fun q => (Value.slice Ao j co).ownBlock = some q) w2 w4 := (Keep.alloc0 w2 _).grown hg4.out (fun q e => Or.inl e)
              have HQ4 := Lib.hid (HQ2.out.keep k24 (fun q e e2 => HAO.out q e2 e))
              have HK4 : Hid (Keep S' wA w4) := Lib.hid (HK2.out.trans k24 (fun q e => Or.inr (HO2.out.ge q e).1))
              clear k24
              go_wp2_with fail
              go_roundg P.length
              case measure => simp
              case rel => exact ⟨P, O ++ [x], rfl, HVP2, HQ4, hO4, HK4⟩
            | nil =>
              have hjk : j = k := by simpa using hlen
              subst hjk
              have HLEN := Lib.hid (len_z q S' false j 0 [] wr HQP.out rfl)
              have hOV : V = O := by rw [HVP.out, List.append_nil]
              have HRV : Hid (StR wr Ao V) := Lib.hid (by rw [hOV]; exact hro)
              have HBW : Hid (Below w.heap.size w wr) := Lib.hid (HB.out.trans (HK.out.below HS.out HB.out.size))
              have HRL : Hid (StR wr A0 l0) := Lib.hid (HI.out.below HBW.out)
              have HST := Lib.hid (fun t (ht : t < l0.length) => st_at l0 t ht)
              rw [HVV.out] at HST
              clear hro hao HVP hOV hlen HO HK HQP HAO HOL HB HS HQ HI hwt HKA HOA
              obtain ⟨wC, rfl⟩ : ∃ x, x = wr := ⟨_, rfl⟩
              go_wp2_with fail
              refine HLEN.out.mono ?_
              rintro e w' ⟨rfl, rfl⟩
              go_wp2_with fail
              go_loopw [14, 15] (fun va vs wr => ∃ (sz a : Nat), va = .int .i64 (a : Int) ∧ vs = .int .i64 (sz : Int) ∧ Hid (a = cl l0 sz) ∧ a ≤ j ∧ sz ≤ 9223372036854775807 ∧ Below wC.heap.size wC wr) (fun _ vs _ => 9223372036854775808 - (intOf vs).toNat)
              case atStart => exact ⟨0, 0, rfl, rfl, Lib.hid (cl_zero l0).symm, by omega, by omega, Below.refl _ _⟩
              case round =>
                obtain ⟨sz, a, rfl, rfl, HA, haj, hsz, hB⟩ := hrel
                by_cases hat : a < j
                · have hatz : (a : Int) < (j : Int) := by omega
                  go_wp2_with fail
                  go_loopw [14, 16, 17, 18] (fun va vl vb vi wt => ∃ (t lst a2 : Nat) (q : Bool), t ≤ j ∧ vi = .int .i64 (t : Int) ∧ va = .int .i64 (a2 : Int) ∧ vl = .int .i64 (lst : Int) ∧ vb = .bool q ∧ Hid (a2 = cl l0 sz + ce l0 sz t) ∧ a2 ≤ j ∧ Hid (Lst l0 sz t q lst) ∧ lst ≤ 9223372036854775807 ∧ Below wC.heap.size wC wt) (fun _ _ _ vi _ => j - (intOf vi).toNat)
                  case atStart => exact ⟨0, 0, a, false, by omega, rfl, rfl, rfl, rfl, Lib.hid (by rw [ce_zero, Nat.add_zero]; exact HA.out), haj, Lib.hid (Lst.zero l0 sz), by omega, hB⟩
                  case round =>
                    obtain ⟨t, lst, a2, qb, ht, rfl, rfl, rfl, rfl, HA2, ha2, HLS, hlst, hBt⟩ := hrel
                    by_cases htj : t < j
                    · have htz : (t : Int) < (j : Int) := by omega
                      have htl : t < l0.length := by rw [HN.out]; exact htj
                      obtain ⟨b, o, rfl, hbl, hc⟩ := (HRL.out.below hBt) (by omega)
                      have c0' := hc t htl
                      have hwx := HW.out t htl
                      have hst := HST.out t htl
                      have hce := ce_succ l0 sz t htl
                      have hsk := HLS.out.skip
                      have htk := HLS.out.take
                      obtain ⟨x, hx⟩ : ∃ x, l0.getD t ByteArray.empty = x := ⟨_, rfl⟩
                      rw [hx] at c0' hwx hst hce hsk htk
                      clear hc hx
                      by_cases hxs : x.size = sz
                      · rw [if_pos hxs] at hce
                        rw [hxs, HN.out, ← HA2.out] at hst
                        obtain ⟨hst1, hst2⟩ := hst
                        have HLS2 := Lib.hid (hsk (Or.inl (by omega)))
                        have HA3 : Hid (a2 + 1 = cl l0 sz + ce l0 sz (t + 1)) := Lib.hid (by rw [hce, HA2.out]; omega)
                        obtain ⟨b2, o2, rfl, hbl2, hc2⟩ := (HRV.out.below hBt) (by rw [HVL.out]; omega)
                        have d0' := hc2 a2 (by rw [HVL.out]; exact hst1)
                        rw [hst2] at d0'
                        have haz : (a2 : Int) < (j : Int) := by omega
                        have f1 : decide ((j : Int) ≤ (a2 : Int)) = false := decide_eq_false (by omega)
                        have f2 : decide (j ≤ a2) = false := decide_eq_false (by omega)
                        have f3 := str_eq' x
                        clear hst2 hc2 hsk htk hce HLS HA2 htl
                        subst hxs
                        go_wp2_with fail
                        try dsimp only [List.append]
                        go_big_quiet (fail)
                        go_wp2_with fail
                        go_roundw
                        case rel => exact ⟨t + 1, lst, a2 + 1, qb, by omega, by go_num, by go_num, rfl, rfl, HA3, by omega, HLS2, hlst, Below.drewN hBt nq⟩
                        case measure => simp only [intOf]; omega
                      · rw [if_neg hxs, Nat.add_zero] at hce
                        have HA3 : Hid (a2 = cl l0 sz + ce l0 sz (t + 1)) := Lib.hid (by rw [hce]; exact HA2.out)
                        have hxz : ¬ (x.size : Int) = (sz : Int) := by omega
                        have hxzb : ((x.size : Int) == (sz : Int)) = false := beq_eq_false_iff_ne.2 hxz
                        clear hst hce HA2 HLS htl
                        by_cases hlt2 : sz < x.size
                        · have hltz2 : (sz : Int) < (x.size : Int) := by omega
                          cases qb with
                          | false =>
                            have HLS2 := Lib.hid (htk hlt2 (Or.inl rfl))
                            clear hsk htk
                            go_wp2_with fail
                            go_roundw
                            case rel => exact ⟨t + 1, x.size, a2, true, by omega, by go_num, rfl, rfl, rfl, HA3, ha2, HLS2, hwx, hBt⟩
                            case measure => simp only [intOf]; omega
                          | true =>
                            by_cases hl3 : x.size < lst
                            · have hl3z : (x.size : Int) < (lst : Int) := by omega
                              have HLS2 := Lib.hid (htk hlt2 (Or.inr hl3))
                              clear hsk htk
                              go_wp2_with fail
                              go_roundw
                              case rel => exact ⟨t + 1, x.size, a2, true, by omega, by go_num, rfl, rfl, rfl, HA3, ha2, HLS2, hwx, hBt⟩
                              case measure => simp only [intOf]; omega
                            · have hl3z : ¬ (x.size : Int) < (lst : Int) := by omega
                              have HLS2 := Lib.hid (hsk (Or.inr ⟨rfl, by omega⟩))
                              clear hsk htk
                              go_wp2_with fail
                              go_roundw
                              case rel => exact ⟨t + 1, lst, a2, true, by omega, by go_num, rfl, rfl, rfl, HA3, ha2, HLS2, hlst, hBt⟩
                              case measure => simp only [intOf]; omega
                        · have hltz2 : ¬ (sz : Int) < (x.size : Int) := by omega
                          have HLS2 := Lib.hid (hsk (Or.inl (by omega)))
                          clear hsk htk
                          go_wp2_with fail
                          go_roundw
                          case rel => exact ⟨t + 1, lst, a2, qb, by omega, by go_num, rfl, rfl, rfl, HA3, ha2, HLS2, hlst, hBt⟩
                          case measure => simp only [intOf]; omega
                    · obtain rfl : t = j := by omega
                      have htz : ¬ (t : Int) < (t : Int) := by omega
                      have hnx := cl_next l0 sz
                      rw [HN.out] at hnx
                      have ha3 : a2 = cl l0 (sz + 1) := by rw [← hnx]; exact HA2.out
                      have hls := HLS.out
                      cases qb with
                      | false =>
                        have hend : a2 = t := by
                          have := Lst.last (l := l0) (s := sz) (least := lst) (by rw [HN.out]; exact hls)
                          rw [ha3, this, HN.out]
                        subst hend
                        clear hnx ha3 hls HLS HA2 hB
                        go_wp2_with fail
                        refine (awake_any _).mono ?_
                        rintro e w9 ⟨rfl, hb9⟩
                        have HB9 := Lib.hid (Below.step (Below.step HBW.out hBt) hb9)
                        clear hb9
                        go_wp2_with fail
                        go_ret
                        exact ⟨rfl, HB9.out⟩
                      | true =>
                        have hlt4 : sz < lst := (hls.1 rfl).1
                        have HA4 : Hid (a2 = cl l0 lst) := Lib.hid (by
                          rw [ha3]
                          exact Lst.next (by rw [HN.out]; exact hls))
                        clear hnx ha3 hls HLS HA2 hB
                        go_wp2_with fail
                        go_roundw
                        case rel => exact ⟨lst, a2, rfl, rfl, HA4, ha2, hlst, hBt⟩
                        case measure => simp only [intOf]; omega
                · have hend : a = j := by omega
                  subst hend
                  have hatz : ¬ (a : Int) < (a : Int) := by omega
                  go_wp2_with fail
                  refine (awake_any _).mono ?_
                  rintro e w9 ⟨rfl, hb9⟩
                  have HB9 := Lib.hid (Below.step (Below.step HBW.out hB) hb9)
                  clear hb9
                  go_wp2_with fail
                  go_ret
                  exact ⟨rfl, HB9.out⟩

set_option maxRecDepth 100000 in
theorem lifted (os : Os) (started : os.Started) (H : Type) (enc : TypeId × Value → H) (F : Stop.Interp) :
    ReturnsInHanded {} Try.checked os 7 .any ((OpenSpec.ofChange Rows.pqueueWordsSpec).preRow enc Try.prog Try.f7 Rows.pqueueWordsRow.domain false Rows.pqueueWordsRow.laid) (((OpenSpec.ofChange Rows.pqueueWordsSpec).at F).post enc Try.prog Try.f7 false true false false) := by
  refine returnsInHanded_of_row (C := Try.checked) (s := OpenSpec.ofChange Rows.pqueueWordsSpec) own started (by kernel_rfl) Try.func7
    (ChangeSpec.witness_shaped (enc := enc) (C := Try.checked) (os := os) (X := fun w _ => laidMetH Try.prog Rows.pqueueWordsRow.laid w) false (World.laidAll Try.prog os Rows.pqueueWordsRow.laid) #[.slice none 0 0, .int .u8 0] 8 (World.laidAll_os _ _ _)
      (World.shaped_of_ZipB (by kernel_rfl) (by kernel_rfl)) (by kernel_rfl) (by kernel_rfl) (by kernel_rfl)
      (by rw [MakeChecks.laidMetH_plain _ _ _ (by kernel_rfl)]; exact laidMet_laidAll _ (by kernel_rfl) (by kernel_rfl))) ?_
  intro W base args ds gs before hval0 hW _ _ hsz0 hL hsh _
  have hval : ∀ (j : Nat) t v, Try.f7.params[j]? = some t → args[j]? = some v → Value.okWide Try.prog W .any base t v := hval0
  have hW' := hW
  obtain ⟨p, q, hA0, hV, rfl, hfz, hnd⟩ := hW
  have hA : DataW.TrodAll enc Try.prog W 0 (fun _ => true) true Try.f7.params.toList args.toList ds p := hA0
  rw [Try.params7] at hA hval
  obtain ⟨v0, vs0, d0, ds0, p0, q0, hargs, rfl, rfl, h0, r0⟩ := trodAll_cons hA
  obtain ⟨v1, vs1, d1, ds1, p1, q1, rfl, rfl, rfl, h1, r1⟩ := trodAll_cons r0
  obtain ⟨rfl, rfl, rfl⟩ := trodAll_nil r1
  obtain rfl : args = #[v0, v1] := by cases args; simp_all
  obtain ⟨rfl, rfl⟩ := trodVars_none hV
  obtain ⟨A0, l0, c0, rfl, hi0, hw0, hl0⟩ := strs_open (hval 0 49 v0 rfl rfl) h0
  obtain ⟨a1, rfl, rfl, rfl, w1⟩ := open_int Try.underlying5 (hval 1 5 v1 rfl rfl) h1
  have bd1 := u8_bd w1
  clear hA0 hval0
  simp only [List.append_nil] at hW'
  have hlt0 : ∀ x ∈ p0, x.block < W.heap.size := fun x hx => by simpa using hW'.lt x (by simp [hx])
  have hargs0 : ∀ (W' : World), Below W.heap.size W W' → DataW.Trod enc Try.prog W' 0 (fun b => decide (b < W.heap.size)) true 49 (.slice A0 l0.length c0) d0 p0 := fun W' hn => Below.trod laidOut (by kernel_rfl) (of_decide_eq_true (by kernel_rfl)) h0 hn hlt0
  refine (walk W A0 l0 c0 hi0 hw0 hl0 a1 bd1.1 bd1.2).mono fun e W' ⟨he, hb⟩ => ?_
  subst he
  exact ⟨_, rfl, _, _, _, [], p0 ++ ([]), [], hW', trodAll_mk1 (shut_bool Try.underlying4 _), (trodAll_cons_mk (hargs0 W' hb) (trodAll_cons_mk (shut_int Try.underlying5 w1) trodAll_mk0)), rfl, hb.frame _, fun h => by cases h⟩

theorem said : Rows.PqueueWordsSaid :=
  OpenClaim.holds_of_cond 7 Try.f7 rfl rfl rfl rfl rfl rfl rfl ⟨rfl, rfl, rfl, rfl, rfl⟩ rfl rfl rfl rfl rfl (by kernel_rfl) Try.func7 (by kernel_rfl)
    (of_decide_eq_true (by kernel_rfl)) (by unfold Func.isWrapper; first | (rw [if_pos (by decide +kernel)]; kernel_rfl) | (rw [if_neg (by decide +kernel)]; exact ⟨rfl, rfl⟩))
    (fun os started H enc _ F => by rw [OpenClaim.pre_eq_preRow]; exact lifted os started H enc F)
#print axioms said
end Go.Proofs.Ytkbfpkejogdieaa.pqueueWords
