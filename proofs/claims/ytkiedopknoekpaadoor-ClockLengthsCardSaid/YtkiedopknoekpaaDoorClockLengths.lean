/-
  P2.3: ClockLengths: for every two lists of windows (of at most 40 each; else the chapter's examples alone), the lengths of the common part, of the difference and of the lists laid end to end add up, a list with a window that is not valid has length 0 and an error, and the chapter's examples hold; the tied card. Conditions: the row's own (Go's own tables and error values hold what the program's text lays when the call begins).
-/
import Derived.Test.YtkiedopknoekpaaDoorClkM
namespace Go.Proofs.YtkiedopknoekpaaDoor.clockLengths
open Go.ChangeShapes Go.WideShapes Go.ChangeAt Go.RowKit
set_option linter.unusedVariables false

set_option maxRecDepth 100000 in
set_option maxHeartbeats 20000000 in
theorem walk (w : World) (f : Facts w) (A0 : Option Addr) (l0 : List Win) (c0 : Nat) (hi0 : WsR w A0 l0) (hw0 : WideW l0) (hl0 : l0.length ≤ 9223372036854775807) (A1 : Option Addr) (l1 : List Win) (c1 : Nat) (hi1 : WsR w A1 l1) (hw1 : WideW l1) (hl1 : l1.length ≤ 9223372036854775807) :
    Calls Tryd.prog 7 #[.slice A0 l0.length c0, .slice A1 l1.length c1] w fun e w' => e = .returned (.bool true) ∧ Below w.heap.size w w' := by
  have F := Lib.hid f
  have K := few_any l0 l1 A0 A1 c0 c1 w hl0 hl1
  by_cases hfew : l0.length ≤ 40 ∧ l1.length ≤ 40
  · obtain ⟨q0, q1⟩ := hfew
    have e : (decide (l0.length ≤ 40) && decide (l1.length ≤ 40)) = true := by simp [q0, q1]
    rw [e] at K
    have HK := Lib.hid K
    have L0 := Lib.hid (fun w' (h : WsR w' A0 l0) => length_any l0 A0 c0 w' (by omega) hw0 h)
    have L1 := Lib.hid (fun w' (h : WsR w' A1 l1) => length_any l1 A1 c1 w' (by omega) hw1 h)
    have I0 := Lib.hid hi0
    have I1 := Lib.hid hi1
    by_cases hvv : allB l0 = true ∧ allB l1 = true
    · obtain ⟨hv0, hv1⟩ := hvv
      have C1 := Lib.hid (fun w' (h : WsR w' A0 l0) (h' : WsR w' A1 l1) => common_any l0 l1 A0 A1 c0 c1 w' (by omega) (by omega) hw0 hw1 h h')
      have M1 := Lib.hid (fun w' (h : WsR w' A0 l0) (h' : WsR w' A1 l1) => minus_any l0 l1 A0 A1 c0 c1 w' (by omega) (by omega) hw0 hw1 h h')
      have el0 : lengthS l0 = (len (nf l0), 0) := by simp [lengthS, hv0]
      have el1 : lengthS l1 = (len (nf l1), 0) := by simp [lengthS, hv1]
      have ec : commonS l0 l1 = (com l0 l1, 0) := by simp [commonS, hv0, hv1]
      have em : minusS l0 l1 = (mns l0 l1, 0) := by simp [minusS, hv0, hv1]
      rw [el0] at L0
      rw [el1] at L1
      rw [ec] at C1
      rw [em] at M1
      have n2 := com_nf hv0 hv1
      have n3 := mns_nf hv0 hv1
      have zc := com_len l0 l1
      have zm := mns_len l0 l1
      have hab : allB (l0 ++ l1) = true := by unfold allB at *; rw [List.all_append, hv0, hv1]; rfl
      have LC : Hid (∀ w' A c, WsR w' A (com l0 l1) → Calls Tryd.prog 27 #[.slice A (com l0 l1).length c] w' fun e w'' => e = .returned (.tuple #[.int .i64 (len (nf (com l0 l1))), .int .i64 0]) ∧ Below w'.heap.size w' w'') := Lib.hid (fun w' A c h => by
        have := length_any (com l0 l1) A c w' (by omega) (wide_of_all (allB_of_nf n2.1)) h
        rwa [show lengthS (com l0 l1) = (len (nf (com l0 l1)), 0) by simp [lengthS, allB_of_nf n2.1]] at this)
      have LM : Hid (∀ w' A c, WsR w' A (mns l0 l1) → Calls Tryd.prog 27 #[.slice A (mns l0 l1).length c] w' fun e w'' => e = .returned (.tuple #[.int .i64 (len (nf (mns l0 l1))), .int .i64 0]) ∧ Below w'.heap.size w' w'') := Lib.hid (fun w' A c h => by
        have := length_any (mns l0 l1) A c w' (by omega) (wide_of_all (allB_of_nf n3.1)) h
        rwa [show lengthS (mns l0 l1) = (len (nf (mns l0 l1)), 0) by simp [lengthS, allB_of_nf n3.1]] at this)
      have LA : Hid (∀ w' A c, WsR w' A (l0 ++ l1) → Calls Tryd.prog 27 #[.slice A (l0 ++ l1).length c] w' fun e w'' => e = .returned (.tuple #[.int .i64 (len (nf (l0 ++ l1))), .int .i64 0]) ∧ Below w'.heap.size w' w'') := Lib.hid (fun w' A c h => by
        have := length_any (l0 ++ l1) A c w' (by rw [List.length_append]; omega) (wide_of_all hab) h
        rwa [show lengthS (l0 ++ l1) = (len (nf (l0 ++ l1)), 0) by simp [lengthS, hab]] at this)
      obtain ⟨g1, g2, g3⟩ := lengths hv0 hv1
      have b1 := len_bd _ _ _ (nf_nf hv0).1 (by omega)
      have b2 := len_bd _ _ _ (nf_nf hv1).1 (by omega)
      have b3 := len_bd _ _ _ (nf_nf (allB_of_nf n2.1)).1 (by omega)
      have b4 := len_bd _ _ _ (nf_nf (allB_of_nf n3.1)).1 (by omega)
      have b5 := len_bd _ _ _ (nf_nf hab).1 (by omega)
      have hbd := fun k => len_bd _ _ _ (nf_takes _ _ _ n2.1 (by omega) k) (by omega)
      have hok := fun k (hk : k < (com l0 l1).length) => okB_true (n2.1.ok (by omega) (by omega) ((com l0 l1).getD k (0, 0)) (by simp [hk]))
      have HBD := Lib.hid hbd
      have HOK := Lib.hid hok
      clear el0 el1 ec em n2 n3 hab hbd hok hv0 hv1 K e f hi0 hi1 hw0 hw1 hl0 hl1
      generalize len (nf (com l0 l1)) = n at *
      generalize len (nf (mns l0 l1)) = k at *
      generalize len (nf (l0 ++ l1)) = all at *
      generalize len (nf l0) = x at *
      generalize len (nf l1) = y at *
      generalize com l0 l1 = r at *
      generalize mns l0 l1 = m at *
      have x1 : 0 ≤ x ∧ x ≤ 4294944001 := by omega
      have x2 : 0 ≤ y ∧ y ≤ 4294944001 := by omega
      have x3 : 0 ≤ n ∧ n ≤ 4294944001 := by omega
      have x4 : 0 ≤ k ∧ k ≤ 4294944001 := by omega
      have x5 : 0 ≤ all ∧ all ≤ 4294944001 := by omega
      have t1 : (n + k == x) = true := beq_iff_eq.2 g1
      have t2 : (all + n == x + y) = true := beq_iff_eq.2 g2
      have t3 : (n == n) = true := beq_self_eq_true n
      have G3 := Lib.hid g3
      have T := Lib.hid (And.intro t1 (And.intro t2 (And.intro t3 (And.intro x1 (And.intro x2 (And.intro x3 (And.intro x4 x5)))))))
      obtain ⟨n0, hn0⟩ : ∃ n, l0.length = n := ⟨_, rfl⟩
      obtain ⟨n1, hn1⟩ : ∃ n, l1.length = n := ⟨_, rfl⟩
      obtain ⟨M, hM⟩ : ∃ n, r.length = n := ⟨_, rfl⟩
      have HN0 := Lib.hid hn0
      have HN1 := Lib.hid hn1
      have HM := Lib.hid hM
      obtain ⟨cat, hcat⟩ : ∃ c, l0 ++ l1 = c := ⟨_, rfl⟩
      have HCAT := Lib.hid hcat
      obtain ⟨NC, hNC⟩ : ∃ n, cat.length = n := ⟨_, rfl⟩
      have HNC := Lib.hid hNC
      rw [hcat, hNC] at LA
      dsimp only at L0 L1 C1 M1 LC LM LA
      simp only [hn0] at L0 C1 M1 HK q0 zc ⊢
      simp only [hn1] at L1 C1 M1 HK q1 zc ⊢
      simp only [hM] at C1 LC HOK zc
      have zM : M ≤ 80 := by omega
      clear b1 b2 b3 b4 b5 g1 g2 g3 hn0 hn1 hM hcat hNC zm zc t1 t2 t3 x1 x2 x3 x4 x5
      go_enter Tryd.func7, Tryd.ntmps7
      go_wp2_with fail
      refine HK.out.mono ?_
      rintro e w' ⟨rfl, rfl⟩
      go_wp2_with fail
      refine (L0.out _ I0.out).mono ?_
      rintro e w1 ⟨rfl, hb1⟩
      have I0 := Lib.hid (I0.out.below hb1)
      have I1 := Lib.hid (I1.out.below hb1)
      clear L0
      go_wp2_with fail
      refine (L1.out _ I1.out).mono ?_
      rintro e w2 ⟨rfl, hb2⟩
      have I0 := Lib.hid (I0.out.below hb2)
      have I1 := Lib.hid (I1.out.below hb2)
      have hb2 := Below.step hb1 hb2
      clear L1
      go_wp2_with fail
      refine (C1.out _ I0.out I1.out).mono ?_
      rintro e w3 ⟨P3, k3, rfl, h3, hb3⟩
      have X3 : Hid (WsR w3 P3 r) := Lib.hid h3
      have I0 := Lib.hid (I0.out.below hb3)
      have I1 := Lib.hid (I1.out.below hb3)
      have hb3 := Below.step hb2 hb3
      have hM' : (r, (0 : Int)).1.length = M := HM.out
      simp only [hM']
      clear h3 C1 hM'
      go_wp2_with fail
      refine (M1.out _ I0.out I1.out).mono ?_
      rintro e w4 ⟨P4, k4, rfl, h4, hb4⟩
      have X4 : Hid (WsR w4 P4 m) := Lib.hid h4
      have X3 := Lib.hid (X3.out.below hb4)
      have I0 := Lib.hid (I0.out.below hb4)
      have I1 := Lib.hid (I1.out.below hb4)
      have hb4 := Below.step hb3 hb4
      clear h4 M1
      go_wp2_with fail
      refine (LC.out _ _ _ X3.out).mono ?_
      rintro e w5 ⟨rfl, hb5⟩
      have X4 := Lib.hid (X4.out.below hb5)
      have X3 := Lib.hid (X3.out.below hb5)
      have I0 := Lib.hid (I0.out.below hb5)
      have I1 := Lib.hid (I1.out.below hb5)
      have hb5 := Below.step hb4 hb5
      clear LC
      go_wp2_with fail
      refine (LM.out _ _ _ X4.out).mono ?_
      rintro e w6 ⟨rfl, hb6⟩
      have X3 := Lib.hid (X3.out.below hb6)
      have I0 := Lib.hid (I0.out.below hb6)
      have I1 := Lib.hid (I1.out.below hb6)
      have hb6 := Below.step hb5 hb6
      clear LM X4
      go_wp2_with (at_builtin; refine wpList_append_wins rfl _ _ rfl w6.heap.size _ [] l0 n0 HN0.out rfl (OwnW.lit w6) A0 c0 rfl ?d0 (by simp) (by rw [HN0.out]; omega) w6 ?d1 ?d2 ?_)
      case d0 => exact I0.out.below ((Below.refl _ _).alloc (Nat.le_refl _) _)
      case d1 => exact (Below.refl _ _).alloc (Nat.le_refl _) _
      case d2 => simp
      intro v7 w7 hO7 hb7
      have hO7 : Hid (OwnW w7 w6.heap.size v7 l0) := hO7
      have I1 := Lib.hid (I1.out.below hb7)
      clear I0
      go_wp2_with (at_builtin; refine wpList_append_wins rfl _ _ rfl w6.heap.size _ l0 l1 n1 HN1.out rfl hO7.out A1 c1 rfl I1.out (by rw [HN0.out]; omega) (by rw [HN1.out]; omega) w6 hb7 hb7.size ?_)
      intro v8 w8 hO8 hb8
      rw [HCAT.out] at hO8
      obtain ⟨P8, k8, hv8, hr8⟩ := hO8.out.read
      rw [HNC.out] at hv8
      subst hv8
      have X8 := Lib.hid hr8
      have X3 := Lib.hid (X3.out.below hb8)
      have hb8 := Below.step hb6 hb8
      clear hO8 hO7 hr8 I1 hb7
      go_wp2_with fail
      refine (LA.out _ _ _ X8.out).mono ?_
      rintro e w9 ⟨rfl, hb9⟩
      have X3 := Lib.hid (X3.out.below hb9)
      have hb9 := Below.step hb8 hb9
      clear LA X8
      go_wp2_with fail
      go_loopw [19, 20] (fun vs vi wr => ∃ i : Nat, vi = .int .i64 (i : Int) ∧ vs = .int .i64 (len (r.take i)) ∧ i ≤ M ∧ Below w9.heap.size w9 wr) (fun _ vi _ => M - (intOf vi).toNat)
      case atStart => exact ⟨0, rfl, by simp [len], by omega, Below.refl _ _⟩
      case round =>
        obtain ⟨i, rfl, rfl, hi, hB⟩ := hrel
        obtain ⟨b0, b1⟩ := HBD.out i
        by_cases hlt : i < M
        · have zi : (i : Int) < (M : Int) := by omega
          have il : i < r.length := by rw [HM.out]; exact hlt
          obtain ⟨b, o, rfl, hbl, hc⟩ := (X3.out.below hB) (by omega)
          obtain ⟨d0, d1⟩ := hc i il
          obtain ⟨k0, k1, k2⟩ := HOK.out i hlt
          have hs := Lib.hid (len_snoc r i il)
          obtain ⟨p, q, hxy⟩ : ∃ x y, r.getD i (0, 0) = (x, y) := ⟨_, _, rfl⟩
          rw [hxy] at d0 d1 k0 k1 k2 hs
          have k0' : 0 ≤ p := k0
          have k1' : p ≤ q := k1
          have k2' : q ≤ 4294944000 := k2
          obtain ⟨L, hL⟩ : ∃ L, len (r.take i) = L := ⟨_, rfl⟩
          rw [hL] at b0 b1 hs ⊢
          clear hc hxy il k0 k1 k2 hL
          go_wp2_with fail
          go_quiet (fail)
          go_wp2
          go_roundw
          case rel => exact ⟨i + 1, by go_num, val_int' (by rw [hs.out]; omega), by omega, hB.trans ((below_drewN' _ _).mono hB.size)⟩
          case measure => simp only [intOf]; omega
        · have zi : ¬ (i : Int) < (M : Int) := by omega
          have ht : r.take i = r := List.take_of_length_le (by rw [HM.out]; omega)
          rw [ht, G3.out]
          have hb10 := Below.step hb9 hB
          obtain ⟨t1, t2, t3, ⟨x10, x11⟩, ⟨x20, x21⟩, ⟨x30, x31⟩, ⟨x40, x41⟩, ⟨x50, x51⟩⟩ := T.out
          clear ht hlt hi b0 b1
          go_wp2_with fail
          refine (awake_any _ (F.out.below hb10)).mono ?_
          rintro e w12 ⟨rfl, hb12⟩
          go_wp2_with fail
          go_ret
          exact ⟨rfl, Below.step hb10 hb12⟩
    · have hu : (lengthS l0 = (0, 1) ∧ ∃ y, lengthS l1 = (y, 0)) ∨ (lengthS l1 = (0, 1) ∧ ∃ x, lengthS l0 = (x, 0)) ∨ (lengthS l0 = (0, 1) ∧ lengthS l1 = (0, 1)) := by
        unfold lengthS
        cases h0 : allB l0 <;> cases h1 : allB l1 <;> simp_all
      clear K e f hi0 hi1 hw0 hw1 hl0 hl1 q0 q1 hvv
      rcases hu with ⟨h0, y, h1⟩ | ⟨h1, x, h0⟩ | ⟨h0, h1⟩
      all_goals
        rw [h0] at L0
        rw [h1] at L1
        clear h0 h1
        dsimp only at L0 L1
        generalize l0.length = n0 at *
        generalize l1.length = n1 at *
        go_enter Tryd.func7, Tryd.ntmps7
        go_wp2_with fail
        refine HK.out.mono ?_
        rintro e w' ⟨rfl, rfl⟩
        go_wp2_with fail
        refine (L0.out _ I0.out).mono ?_
        rintro e w1 ⟨rfl, hb1⟩
        have I1 := Lib.hid (I1.out.below hb1)
        clear L0 I0
        go_wp2_with fail
        refine (L1.out _ I1.out).mono ?_
        rintro e w2 ⟨rfl, hb2⟩
        have hb2 := Below.step hb1 hb2
        clear L1 I1
        go_wp2_with fail
        refine (awake_any _ (F.out.below hb2)).mono ?_
        rintro e w12 ⟨rfl, hb12⟩
        go_wp2_with fail
        go_ret
        exact ⟨rfl, Below.step hb2 hb12⟩
  · have e : (decide (l0.length ≤ 40) && decide (l1.length ≤ 40)) = false := by
      simp only [Bool.and_eq_false_iff, decide_eq_false_iff_not]
      omega
    rw [e] at K
    have HK := Lib.hid K
    clear K e f hi0 hi1 hw0 hw1 hl0 hl1 hfew
    generalize l0.length = n0 at *
    generalize l1.length = n1 at *
    go_enter Tryd.func7, Tryd.ntmps7
    go_wp2_with fail
    refine HK.out.mono ?_
    rintro e w' ⟨rfl, rfl⟩
    go_wp2_with fail
    refine (awake_any _ F.out).mono ?_
    rintro e w12 ⟨rfl, hb12⟩
    go_wp2_with fail
    go_ret
    exact ⟨rfl, hb12⟩

set_option maxRecDepth 100000 in
theorem lifted (os : Os) (started : os.Started) (H : Type) (enc : TypeId × Value → H) (F : Stop.Interp) :
    ReturnsInHanded {} Tryd.checked os 7 .any ((OpenSpec.ofChange Rows.clockLengthsSpec).preRow enc Tryd.prog Tryd.f7 Rows.clockLengthsRow.domain false Rows.clockLengthsRow.laid) (((OpenSpec.ofChange Rows.clockLengthsSpec).at F).post enc Tryd.prog Tryd.f7 false true false false) := by
  refine returnsInHanded_of_row (C := Tryd.checked) (s := OpenSpec.ofChange Rows.clockLengthsSpec) own started (by kernel_rfl) Tryd.func7
    (ChangeSpec.witness_shaped (enc := enc) (C := Tryd.checked) (os := os) (X := fun w _ => laidMetH Tryd.prog Rows.clockLengthsRow.laid w) false (World.laidAll Tryd.prog os Rows.clockLengthsRow.laid) #[.slice none 0 0, .slice none 0 0] 8 (World.laidAll_os _ _ _)
      (World.shaped_of_ZipB (by kernel_rfl) (by kernel_rfl)) (by kernel_rfl) (by kernel_rfl) (by kernel_rfl)
      (by rw [MakeChecks.laidMetH_plain _ _ _ (by kernel_rfl)]; exact laidMet_laidAll _ (by kernel_rfl) (by kernel_rfl))) ?_
  intro W base args ds gs before hval0 hW _ _ _ hL hsh _
  have hval : ∀ (j : Nat) t v, Tryd.f7.params[j]? = some t → args[j]? = some v → Value.okWide Tryd.prog W .any base t v := hval0
  have hW' := hW
  obtain ⟨p, q, hA0, hV, rfl, hfz, hnd⟩ := hW
  have hA : DataW.TrodAll enc Tryd.prog W 0 (fun _ => true) true Tryd.f7.params.toList args.toList ds p := hA0
  rw [Tryd.params7] at hA hval
  obtain ⟨v0, vs0, d0, ds0, p0, q0, hargs, rfl, rfl, h0, r0⟩ := trodAll_cons hA
  obtain ⟨v1, vs1, d1, ds1, p1, q1, rfl, rfl, rfl, h1, r1⟩ := trodAll_cons r0
  obtain ⟨rfl, rfl, rfl⟩ := trodAll_nil r1
  obtain rfl : args = #[v0, v1] := by cases args; simp_all
  obtain ⟨rfl, rfl⟩ := trodVars_none hV
  obtain ⟨A0, l0, c0, rfl, hi0, hw0, hl0⟩ := wins_open (hval 0 30 v0 rfl rfl) h0
  obtain ⟨A1, l1, c1, rfl, hi1, hw1, hl1⟩ := wins_open (hval 1 30 v1 rfl rfl) h1
  clear hA0 hval0
  simp only [List.append_nil] at hW'
  have hlt0 : ∀ x ∈ p0, x.block < W.heap.size := fun x hx => by simpa using hW'.lt x (by simp [hx])
  have hargs0 : ∀ (W' : World), Below W.heap.size W W' → DataW.Trod enc Tryd.prog W' 0 (fun b => decide (b < W.heap.size)) true 30 (.slice A0 l0.length c0) d0 p0 := fun W' hn => Below.trod laidOut (by kernel_rfl) (of_decide_eq_true (by kernel_rfl)) h0 hn hlt0
  have hlt1 : ∀ x ∈ p1, x.block < W.heap.size := fun x hx => by simpa using hW'.lt x (by simp [hx])
  have hargs1 : ∀ (W' : World), Below W.heap.size W W' → DataW.Trod enc Tryd.prog W' 0 (fun b => decide (b < W.heap.size)) true 30 (.slice A1 l1.length c1) d1 p1 := fun W' hn => Below.trod laidOut (by kernel_rfl) (of_decide_eq_true (by kernel_rfl)) h1 hn hlt1
  refine (walk W (facts_of W hL hsh) A0 l0 c0 hi0 hw0 hl0 A1 l1 c1 hi1 hw1 hl1).mono fun e W' ⟨he, hb⟩ => ?_
  subst he
  exact ⟨_, rfl, _, _, _, [], p0 ++ (p1 ++ ([])), [], hW', trodAll_mk1 (shut_bool Tryd.underlying4 _), (trodAll_cons_mk (hargs0 W' hb) (trodAll_cons_mk (hargs1 W' hb) trodAll_mk0)), rfl, hb.frame _, fun h => by cases h⟩

theorem said : Rows.ClockLengthsSaid :=
  OpenClaim.holds_of_cond 7 Tryd.f7 rfl rfl rfl rfl rfl rfl rfl ⟨rfl, rfl, rfl, rfl, rfl⟩ rfl rfl rfl rfl rfl (by kernel_rfl) Tryd.func7 (by kernel_rfl)
    (of_decide_eq_true (by kernel_rfl)) (by unfold Func.isWrapper; first | (rw [if_pos (by decide +kernel)]; kernel_rfl) | (rw [if_neg (by decide +kernel)]; exact ⟨rfl, rfl⟩))
    (fun os started H enc _ F => by rw [OpenClaim.pre_eq_preRow]; exact lifted os started H enc F)

theorem plain (f : FuncId) (fn : Func) (hf : Tryd.pinned.checked.prog.funcNamed "bikeshare/bikesharelaw02.ClockLengths" = some f) (hfn : Tryd.pinned.checked.prog.funcs[f]? = some fn) :
    true = Tryd.pinned.checked.prog.looks [] ∧ ∀ (j : Nat) t, fn.params[j]? = some t → Tryd.pinned.checked.prog.wantsStandIn t = false := by
  obtain rfl : f = 7 := Option.some.inj ((show Tryd.prog.funcNamed "bikeshare/bikesharelaw02.ClockLengths" = some 7 by kernel_rfl).symm.trans hf) |>.symm
  obtain rfl : fn = Tryd.f7 := (Option.some.inj (Tryd.func7.symm.trans hfn)).symm
  refine ⟨by kernel_rfl, fun j t ht => ?_⟩
  rw [Tryd.params7] at ht
  have hm : t ∈ [30, 30] := by simpa using Array.mem_of_getElem? ht
  have hall : ([30, 30].all fun u => !Tryd.prog.wantsStandIn u) = true := by kernel_rfl
  exact (show Tryd.prog.wantsStandIn t = false by simpa using List.all_eq_true.1 hall t hm)

/-- The card. -/
theorem card : Rows.ClockLengthsCardSaid :=
  Claim7.holds_tied_plain_at .later [] _ _ _ _ said (fun _ h => by cases h) (by kernel_rfl) (fun _ h => by cases h) clockLengths_row_tie rfl ⟨rfl, rfl⟩ (by kernel_rfl) rfl plain (by kernel_rfl)
#print axioms card
end Go.Proofs.YtkiedopknoekpaaDoor.clockLengths
