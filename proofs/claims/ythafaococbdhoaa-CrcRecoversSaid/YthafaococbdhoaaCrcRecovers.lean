/-
  P5.2, P5.4, P5.6: CrcRecovers: for at most 20 contents of at most 3000 bytes together, and every place at which their frames are cut off, Recover returns the contents of exactly the frames that are complete, and the index behind them; and the chapter's examples hold (of more contents the examples alone). Conditions: none but the row's own.
-/
import Derived.Test.YthafaococbdhoaaCrcU
import Derived.Deep.DeepCutAuto
namespace Go.Proofs.Ythafaococbdhoaa.crcRecovers
open Go.ChangeShapes Go.WideShapes Go.ChangeAt Go.RowKit Go.Maps
set_option linter.unusedVariables false

/-- A place from 0 to f. -/
def CutQ (f : Nat) (v : Value) : Prop := ∃ q : Nat, q ≤ f ∧ v = .int .i64 (q : Int)

set_option maxRecDepth 100000 in
set_option maxHeartbeats 8000000 in
theorem walk (w : World) (A0 : Option Addr) (l0 : List (List UInt8)) (c0 : Nat) (hi0 : RowsR w A0 l0) (hc0 : l0.length ≤ c0) (hl0 : l0.length ≤ 9223372036854775807) (hr0 : ∀ k, (l0.getD k []).length ≤ 140737488351232) (a1 : Int) (lo1 : -9223372036854775808 ≤ a1) (hi1 : a1 ≤ 9223372036854775807) :
    Calls Try.prog 6 #[.slice A0 l0.length c0, .int .i64 a1] w fun e w' => e = .returned (.bool true) ∧ Below w.heap.size w w' := by
  obtain ⟨N, hN⟩ : ∃ N, l0.length = N := ⟨_, rfl⟩
  rw [hN] at hc0 hl0 ⊢
  have HR := Lib.hid hi0
  have HN := Lib.hid hN
  have HLN := Lib.hid hr0
  clear hi0 hN hr0
  go_enter Try.func6, Try.ntmps6
  go_wp2_with fail
  go_loop [5, 6] (fun v i => ∃ k n : Nat, k ≤ N ∧ k ≤ 21 ∧ i = .int .i64 (k : Int) ∧ v = .int .i64 (n : Int) ∧ n ≤ k * 140737488351232 ∧ Hid (n = tot (l0.take k))) (fun _ i => 21 - (intOf i).toNat)
  case atStart => exact ⟨0, 0, by omega, by omega, rfl, rfl, by omega, Lib.hid (by rw [List.take_zero, tot])⟩
  case round =>
    obtain ⟨k, n, hk, hk21, rfl, rfl, hn, htn⟩ := hrel
    by_cases hlt : k < N ∧ k < 21
    · obtain ⟨q1, q2⟩ := hlt
      obtain ⟨b, o, rfl, _, hc⟩ := HR.out.at (by rw [HN.out]; omega)
      obtain ⟨B, d, c1, hd, _⟩ := hc k (by rw [HN.out]; omega)
      have hlen := HLN.out k
      have htk := tot_take (L := l0) (k := k) (by rw [HN.out]; omega)
      rw [← htn.out] at htk
      obtain ⟨p, hp⟩ : ∃ p, (l0.getD k []).length = p := ⟨_, rfl⟩
      rw [hp] at c1 hlen htk
      have HT := Lib.hid htk.symm
      have z1 : (k : Int) < (N : Int) := by omega
      have z2 : (k : Int) < 21 := by omega
      clear hc hd htk hp htn
      go_wp2_with fail
      go_round
      case rel => exact ⟨k + 1, n + p, by omega, by omega, by go_num, by go_num, by omega, HT⟩
      case measure => simp only [intOf]; omega
    · by_cases hbig : 20 < N
      · have hways : (¬ k < N) ∨ (k < N ∧ ¬ k < 21) := by omega
        have z3 : (20 : Int) < (N : Int) := by omega
        clear htn hlt
        rcases hways with q1 | ⟨q1, q2⟩
        · have z1 : ¬ (k : Int) < (N : Int) := by omega
          go_wp2_with fail
          refine (awake_any _).mono ?_
          rintro e w9 ⟨rfl, hb9⟩
          go_wp2_with fail
          go_ret
          exact ⟨rfl, hb9⟩
        · have z1 : (k : Int) < (N : Int) := by omega
          have z2 : ¬ (k : Int) < 21 := by omega
          go_wp2_with fail
          refine (awake_any _).mono ?_
          rintro e w9 ⟨rfl, hb9⟩
          go_wp2_with fail
          go_ret
          exact ⟨rfl, hb9⟩
      have hkN : N ≤ k := by omega
      have z1 : ¬ (k : Int) < (N : Int) := by omega
      have z3 : ¬ (20 : Int) < (N : Int) := by omega
      have htot : n = tot l0 := by
        have := htn.out
        rwa [List.take_of_length_le (by rw [HN.out]; exact hkN)] at this
      by_cases hn3 : 3000 < n
      · have z4 : (3000 : Int) < (n : Int) := by omega
        clear htn htot hlt
        go_wp2_with fail
        refine (awake_any _).mono ?_
        rintro e w9 ⟨rfl, hb9⟩
        go_wp2_with fail
        go_ret
        exact ⟨rfl, hb9⟩
      have z4 : ¬ (3000 : Int) < (n : Int) := by omega
      have HTOT : Hid (tot l0 ≤ 3000) := Lib.hid (by omega)
      have HFL : Hid (∀ j, (frs (l0.take j)).length ≤ 4000) := Lib.hid fun j => by
        have h1 := frs_len l0 (by have := HTOT.out; omega)
        have h2 := frs_take_le l0 j
        have h3 := HTOT.out
        have h4 := HN.out
        omega
      clear htn htot hlt
      go_wp2_with fail
      go_loopw [7, 8, 9] (fun a e i wr => ∃ k : Nat, k ≤ N ∧ i = .int .i64 (k : Int) ∧ Hid (OwnB wr w.heap.size a (frs (l0.take k))) ∧ Hid (OwnI wr w.heap.size e (ends l0 k)) ∧ Below w.heap.size w wr) (fun _ _ i _ => N - (intOf i).toNat)
      case atStart => exact ⟨0, by omega, rfl, Lib.hid (by rw [List.take_zero, frs]; exact OwnB.nil _ _), Lib.hid (by unfold ends; exact OwnI.nil _ _), Below.refl _ _⟩
      case round =>
        obtain ⟨k, hk, rfl, hO, hE, hB⟩ := hrel
        by_cases hlt : k < N
        · have z5 : (k : Int) < (N : Int) := by omega
          obtain ⟨b, o, rfl, _, hc⟩ := (HR.out.below hB).at (by rw [HN.out]; omega)
          obtain ⟨B, d, c1, hd, hrb⟩ := hc k (by rw [HN.out]; omega)
          have hft := frs_take (L := l0) (k := k) (by rw [HN.out]; omega)
          have hCl := tot_get l0 k
          have hes := ends_snoc l0 k
          have hf1 := HFL.out (k + 1)
          have hf0 := HFL.out k
          obtain ⟨C, hC⟩ : ∃ C, l0.getD k [] = C := ⟨_, rfl⟩
          rw [hC] at c1 hd hrb hft hCl
          obtain ⟨p, hp⟩ : ∃ p, C.length = p := ⟨_, rfl⟩
          rw [hp] at c1 hd hCl
          obtain ⟨q, hq⟩ : ∃ q, (fr C).length = q := ⟨_, rfl⟩
          have HS := Lib.hid (seal_ret B C p d q wr hq hp (by have := HTOT.out; omega) hrb)
          have HQ := Lib.hid hq
          obtain ⟨y, hy⟩ : ∃ y, (frs (l0.take (k + 1))).length = y := ⟨_, rfl⟩
          have hqy : (frs (l0.take k)).length + q = y := by rw [← hy, hft, List.length_append, hq]
          rw [hy] at hes hf1
          have HFT := Lib.hid hft
          have HES := Lib.hid hes
          have HY := Lib.hid hy
          have HLN2 : Hid ((frs (l0.take k)).length + q ≤ 1000000) := Lib.hid (by omega)
          clear hc hrb hft hes hC hp hq hy hCl hf0 hqy hd
          go_wp2_with fail
          refine HS.out.mono ?_
          rintro e w1 ⟨B1, d1, rfl, _, hr1, hB1⟩
          have HR1 := Lib.hid hr1
          have HO1 := Lib.hid (hO.out.below hB1)
          have HE1 := Lib.hid (hE.out.below hB1)
          have hB2 := Below.step hB hB1
          have hsz := hB2.size
          clear hr1 hO hE hB hB1 HS
          go_wp2_with (at_builtin; refine wpList_append_bytesI rfl _ _ rfl w.heap.size _ (frs (l0.take k)) (fr C) rfl HO1.out B1 q d1 HQ.out rfl HR1.out _ (ends l0 k) HE1.out HLN2.out hsz ?_)
          intro v2 w2 hO2 hE2 hB3
          have HO2 : Hid (OwnB w2 w.heap.size v2 (frs (l0.take (k + 1)))) := Lib.hid (by rw [HFT.out]; exact hO2.out)
          obtain ⟨B2, d2, hv2, _, _⟩ := HO2.out.form
          rw [HY.out] at hv2
          subst hv2
          have hB4 := hB2.trans hB3
          have hsz4 := hB4.size
          clear hO2 hB2 hB3 HO1 HE1 HR1 hsz
          go_wp2_with (at_builtin; refine wpList_append_intB rfl _ _ rfl w.heap.size _ (ends l0 k) rfl (hE2.out.alloc _) _ _ (y : Int) rfl ?y0 (.slice B2 y d2) (frs (l0.take (k + 1))) (HO2.out.alloc _) (by rw [ends_len]; omega) ?y2 ?_)
          case y0 => rw [World.cell?_alloc_new]; rfl
          case y2 => first | omega | (simp; omega)
          intro v3 w3 hE3 hO3 hB5
          have HE3 : Hid (OwnI w3 w.heap.size v3 (ends l0 (k + 1))) := Lib.hid (by rw [HES.out]; exact hE3.out)
          have hB6 : Below w.heap.size w w3 := (hB4.alloc hsz4 _).trans hB5
          clear hE3 hB4 hB5 HO2 hE2
          go_wp2_with fail
          go_roundw
          case rel => exact ⟨k + 1, by omega, by go_num, hO3, HE3, hB6⟩
          case measure => simp only [intOf]; omega
        · obtain rfl : k = N := by omega
          have z5 : ¬ (k : Int) < (k : Int) := by omega
          have htk : l0.take k = l0 := List.take_of_length_le (by rw [HN.out]; exact Nat.le_refl _)
          rw [htk] at hO
          obtain ⟨Ba, da, hva, hda, hra⟩ := hO.out.form
          obtain ⟨Be, de, hve, _, hre⟩ := hE.out.form
          have hF := HFL.out k
          rw [htk] at hF
          obtain ⟨f, hf⟩ : ∃ f, (frs l0).length = f := ⟨_, rfl⟩
          rw [hf] at hva hda hF
          rw [ends_len] at hve
          subst hva hve
          have HF := Lib.hid hf
          have HRA := Lib.hid hra
          have HRE := Lib.hid hre
          clear hO hE htk hf hra hre
          have hways : a1 < 0 ∨ (¬ a1 < 0 ∧ (f : Int) < a1) ∨ (∃ q0 : Nat, a1 = q0 ∧ q0 ≤ f) := by
            by_cases h1 : a1 < 0
            · exact Or.inl h1
            by_cases h2 : (f : Int) < a1
            · exact Or.inr (Or.inl ⟨h1, h2⟩)
            · exact Or.inr (Or.inr ⟨a1.toNat, by omega, by omega⟩)
          rcases hways with g1 | ⟨g1, g2⟩ | ⟨q0, rfl, g1⟩
          all_goals
            go_upto_if 72 with (fail)
            go_cut [1] (fun s1 wx => CutQ f s1 ∧ wx = wr)
            case first =>
              go_wp2_with fail
              go_meet
              first
                | exact ⟨⟨f, Nat.le_refl _, rfl⟩, rfl⟩
                | exact ⟨⟨q0, g1, rfl⟩, rfl⟩
            case rest =>
              obtain ⟨⟨q, hqf, rfl⟩, rfl⟩ := hcut
              clear g1
              obtain ⟨j, s, hj1, hj2, hj3, hj4, hj5⟩ := take_frs l0 q (by rw [HF.out]; exact hqf) (fun C hC => by have := tot_mem hC; have := HTOT.out; omega)
              have hRC := Rc_cut (L := l0.take j) (fun C hC => by have := tot_mem (List.mem_of_mem_take hC); have := HTOT.out; omega) s (q + 1) hj4
              rw [← hj2] at hRC
              have hjk : j ≤ k := by rw [HN.out] at hj1; exact hj1
              have hlj : (l0.take j).length = j := by rw [List.length_take, HN.out]; omega
              rw [hlj] at hRC
              have hql : ((frs l0).take q).length = q := by rw [List.length_take, HF.out]; omega
              have HREC := Lib.hid (recover_ret Ba ((frs l0).take q) q q (q + 1 + j) j wc (l0.take j) (frs (l0.take j)).length hlj (by omega) hRC hql (by omega) (Nat.le_refl _) (BytR.pre' HRA.out q))
              have HJ := Lib.hid (And.intro hj3 hj5)
              have HLJ := Lib.hid hlj
              have hqda : (q : Int) ≤ (da : Int) := by omega
              clear hj1 hj2 hj3 hj4 hj5 hRC hlj hql
              go_wp2_with fail
              go_loop [12, 13] (fun t e => ∃ t' e' : Nat, t' ≤ k ∧ t = .int .i64 (t' : Int) ∧ e = .int .i64 (e' : Int) ∧ Hid (e' = (frs (l0.take t')).length ∧ e' ≤ q)) (fun t _ => k - (intOf t).toNat)
              case atStart => exact ⟨0, 0, by omega, rfl, rfl, Lib.hid (by rw [List.take_zero, frs]; simp)⟩
              case round =>
                obtain ⟨t, e0, ht, rfl, rfl, hte⟩ := hrel
                by_cases hgo : t < k ∧ (frs (l0.take (t + 1))).length ≤ q
                · obtain ⟨h1, h2⟩ := hgo
                  obtain ⟨eb, eo, rfl, _, hc⟩ := HRE.out.at (by rw [ends_len]; omega)
                  have c1 := hc t (by rw [ends_len]; exact h1)
                  rw [ends_get l0 h1] at c1
                  obtain ⟨y, hy⟩ : ∃ y, (frs (l0.take (t + 1))).length = y := ⟨_, rfl⟩
                  rw [hy] at c1 h2
                  have HY : Hid (y = (frs (l0.take (t + 1))).length ∧ y ≤ q) := Lib.hid ⟨hy.symm, h2⟩
                  have z6 : (t : Int) < (k : Int) := by omega
                  have z7 : (y : Int) ≤ (q : Int) := by omega
                  clear hc hy hte
                  go_wp2_with fail
                  go_round
                  case rel => exact ⟨t + 1, y, by omega, by go_num, rfl, HY⟩
                  case measure => simp only [intOf]; omega
                · have htj : t = j := by
                    have h1 := HJ.out.2 t (by rw [HN.out]; exact ht)
                    have h2 := hte.out
                    have h3 : t ≤ j := h1.1 (by omega)
                    by_cases h4 : t < k
                    · have h5 := HJ.out.2 (t + 1) (by rw [HN.out]; omega)
                      have h6 : ¬ (frs (l0.take (t + 1))).length ≤ q := fun h => hgo ⟨h4, h⟩
                      have h7 : ¬ t + 1 ≤ j := fun h => h6 (h5.2 h)
                      omega
                    · omega
                  have hEJ : e0 = (frs (l0.take j)).length := by rw [← htj]; exact hte.out.1
                  have hex : (¬ t < k) ∨ (t < k ∧ ∃ eb eo y, Be = some ⟨eb, eo, none⟩ ∧ wc.cell? ⟨eb, eo + t, none⟩ = some (.int .i64 ((y : Nat) : Int)) ∧ ¬ y ≤ q) := by
                    by_cases h4 : t < k
                    · obtain ⟨eb, eo, e, _, hc⟩ := HRE.out.at (by rw [ends_len]; omega)
                      have c1 := hc t (by rw [ends_len]; exact h4)
                      rw [ends_get l0 h4] at c1
                      exact Or.inr ⟨h4, eb, eo, _, e, c1, fun h => hgo ⟨h4, h⟩⟩
                    · exact Or.inl h4
                  have HE0 := Lib.hid hEJ
                  obtain rfl := htj
                  rw [← hEJ] at HREC
                  have htc : (t : Int) ≤ (c0 : Int) := by omega
                  clear hgo hte hEJ
                  rcases hex with h4 | ⟨h4, eb, eo, y, rfl, c1, hy⟩
                  · have z6 : ¬ (t : Int) < (k : Int) := by omega
                    go_wp2_with fail
                    refine HREC.out.mono ?_
                    rintro e w2 ⟨B2, d2, rfl, hr2, hB2⟩
                    have hB3 := Below.step hB hB2
                    have HR2 := Lib.hid hr2
                    have HR3 := Lib.hid ((HR.out.below hB3).pre t)
                    have HL2 := Lib.hid (fun i => Nat.le_trans (tot_get (l0.take t) i) (Nat.le_trans (tot_take_le l0 t) (Nat.le_trans HTOT.out (show 3000 ≤ 60000 by decide))))
                    clear hr2 hB hB2 HREC
                    go_wp2_with fail
                    refine (sameAllT_any B2 t d2 A0 c0 (l0.take t) w2 HLJ.out (by omega) HL2.out HR2.out HR3.out).mono ?_
                    rintro e w3 ⟨rfl, hB4⟩
                    have hB5 := Below.step hB3 hB4
                    clear hB3 hB4 HR2 HR3
                    go_wp2_with fail
                    refine (awake_any _).mono ?_
                    rintro e w9 ⟨rfl, hb9⟩
                    go_wp2_with fail
                    go_ret
                    exact ⟨rfl, Below.step hB5 hb9⟩
                  · have z6 : (t : Int) < (k : Int) := by omega
                    have z7 : ¬ (y : Int) ≤ (q : Int) := by omega
                    go_wp2_with fail
                    refine HREC.out.mono ?_
                    rintro e w2 ⟨B2, d2, rfl, hr2, hB2⟩
                    have hB3 := Below.step hB hB2
                    have HR2 := Lib.hid hr2
                    have HR3 := Lib.hid ((HR.out.below hB3).pre t)
                    have HL2 := Lib.hid (fun i => Nat.le_trans (tot_get (l0.take t) i) (Nat.le_trans (tot_take_le l0 t) (Nat.le_trans HTOT.out (show 3000 ≤ 60000 by decide))))
                    clear hr2 hB hB2 HREC
                    go_wp2_with fail
                    refine (sameAllT_any B2 t d2 A0 c0 (l0.take t) w2 HLJ.out (by omega) HL2.out HR2.out HR3.out).mono ?_
                    rintro e w3 ⟨rfl, hB4⟩
                    have hB5 := Below.step hB3 hB4
                    clear hB3 hB4 HR2 HR3
                    go_wp2_with fail
                    refine (awake_any _).mono ?_
                    rintro e w9 ⟨rfl, hb9⟩
                    go_wp2_with fail
                    go_ret
                    exact ⟨rfl, Below.step hB5 hb9⟩

set_option maxRecDepth 100000 in
theorem lifted (os : Os) (started : os.Started) (H : Type) (enc : TypeId × Value → H) (F : Stop.Interp) :
    ReturnsInHanded {} Try.checked os 6 .any ((OpenSpec.ofChange Rows.crcRecoversSpec).preRow enc Try.prog Try.f6 Rows.crcRecoversRow.domain false Rows.crcRecoversRow.laid) (((OpenSpec.ofChange Rows.crcRecoversSpec).at F).post enc Try.prog Try.f6 false true false false) := by
  refine returnsInHanded_of_row (C := Try.checked) (s := OpenSpec.ofChange Rows.crcRecoversSpec) own started (by kernel_rfl) Try.func6
    (ChangeSpec.witness_shaped (enc := enc) (C := Try.checked) (os := os) (X := fun w _ => laidMetH Try.prog Rows.crcRecoversRow.laid w) false (World.laidAll Try.prog os Rows.crcRecoversRow.laid) #[.slice none 0 0, .int .i64 0] 8 (World.laidAll_os _ _ _)
      (World.shaped_of_ZipB (by kernel_rfl) (by kernel_rfl)) (by kernel_rfl) (by kernel_rfl) (by kernel_rfl)
      (by rw [MakeChecks.laidMetH_plain _ _ _ (by kernel_rfl)]; exact laidMet_laidAll _ (by kernel_rfl) (by kernel_rfl))) ?_
  intro W base args ds gs before hval0 hW _ _ hsz0 hL hsh _
  have hval : ∀ (j : Nat) t v, Try.f6.params[j]? = some t → args[j]? = some v → Value.okWide Try.prog W .any base t v := hval0
  have hW' := hW
  obtain ⟨p, q, hA0, hV, rfl, hfz, hnd⟩ := hW
  have hA : DataW.TrodAll enc Try.prog W 0 (fun _ => true) true Try.f6.params.toList args.toList ds p := hA0
  rw [Try.params6] at hA hval
  obtain ⟨v0, vs0, d0, ds0, p0, q0, hargs, rfl, rfl, h0, r0⟩ := trodAll_cons hA
  obtain ⟨v1, vs1, d1, ds1, p1, q1, rfl, rfl, rfl, h1, r1⟩ := trodAll_cons r0
  obtain ⟨rfl, rfl, rfl⟩ := trodAll_nil r1
  obtain rfl : args = #[v0, v1] := by cases args; simp_all
  obtain ⟨rfl, rfl⟩ := trodVars_none hV
  obtain ⟨A0, l0, c0, rfl, hi0, hc0, hl0, hr0⟩ := rows_open (hval 0 33 v0 rfl rfl) h0 (fun n hn => of_decide_eq_true (List.all_eq_true.1 hsz0 n (DataW.weights_mem_each (j := 0) (t := 33) (d := d0) (by rw [Try.params6]; rfl) rfl n hn)))
  obtain ⟨a1, rfl, rfl, rfl, w1⟩ := open_int Try.underlying3 (hval 1 3 v1 rfl rfl) h1
  have bd1 := i64_bd w1
  clear hA0 hval0
  simp only [List.append_nil] at hW'
  have hlt0 : ∀ x ∈ p0, x.block < W.heap.size := fun x hx => by simpa using hW'.lt x (by simp [hx])
  have hargs0 : ∀ (W' : World), Below W.heap.size W W' → DataW.Trod enc Try.prog W' 0 (fun b => decide (b < W.heap.size)) true 33 (.slice A0 l0.length c0) d0 p0 := fun W' hn => Below.trod laidOut (by kernel_rfl) (of_decide_eq_true (by kernel_rfl)) h0 hn hlt0
  refine (walk W A0 l0 c0 hi0 hc0 hl0 hr0 a1 bd1.1 bd1.2).mono fun e W' ⟨he, hb⟩ => ?_
  subst he
  exact ⟨_, rfl, _, _, _, [], p0 ++ ([]), [], hW', trodAll_mk1 (shut_bool Try.underlying4 _), (trodAll_cons_mk (hargs0 W' hb) (trodAll_cons_mk (shut_int Try.underlying3 w1) trodAll_mk0)), rfl, hb.frame _, fun h => by cases h⟩

theorem said : Rows.CrcRecoversSaid :=
  OpenClaim.holds_of_cond 6 Try.f6 rfl rfl rfl rfl rfl rfl rfl ⟨rfl, rfl, rfl, rfl, rfl⟩ rfl rfl rfl rfl rfl (by kernel_rfl) Try.func6 (by kernel_rfl)
    (of_decide_eq_true (by kernel_rfl)) (by unfold Func.isWrapper; first | (rw [if_pos (by decide +kernel)]; kernel_rfl) | (rw [if_neg (by decide +kernel)]; exact ⟨rfl, rfl⟩))
    (fun os started H enc _ F => by rw [OpenClaim.pre_eq_preRow]; exact lifted os started H enc F)
#print axioms said
end Go.Proofs.Ythafaococbdhoaa.crcRecovers
