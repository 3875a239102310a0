/-
  P7.4: PqueueMerges: for every two lists of at most 100 integers (else the chapter's example alone), either order of the second queue and every integer, the values leave a merged queue as if those of the other one had been pushed in the sequence in which it would have returned them, and the other one is empty and can be used further; and the chapter's second example holds. Conditions: none but the row's own.
-/
import Derived.Test.YtkbfpkejogdieaaPqQ
namespace Go.Proofs.Ytkbfpkejogdieaa.pqueueMerges
open Go.ChangeShapes Go.WideShapes Go.ChangeAt Go.RowKit
set_option linter.unusedVariables false

theorem refPush_k (A : Option Addr) (l : List It) (n c k : Nat) (x : It) (w : World) (hk : n + 1 = k) (hn : l.length = n) (hl : n ≤ 5000) (h : ItsR w A l) :
    Calls Try.prog 17 #[.slice A n c, .agg #[.int .i64 x.1, .int .i64 x.2]] w fun e w' => ∃ B d, e = .returned (.slice B k d) ∧ k ≤ d ∧ ItsR w' B (l ++ [x]) ∧ Below w.heap.size w w' ∧ ∀ a, B = some a → w.heap.size ≤ a.block := by
  subst hk
  exact refPush_any A l n c x w hn hl h
theorem stS_app (dn : Bool) (l m : List It) : stS (kI dn) (l ++ m) = pushS dn m (stS (kI dn) l) := by
  unfold stS pushS; rw [List.foldl_append]
theorem takeT_snoc (l : List It) (k : Nat) (h : k < l.length) : l.take (k + 1) = l.take k ++ [l.getD k (0, 0)] := by
  rw [List.take_succ_eq_append_getElem h]
  simp [h]

set_option maxRecDepth 100000 in
set_option maxHeartbeats 8000000 in
theorem walk (w : World) (A0 : Option Addr) (l0 : List Int) (c0 : Nat) (hi0 : IntR w A0 l0) (hw0 : WideI l0) (hc0 : l0.length ≤ c0) (hl0 : l0.length ≤ 9223372036854775807) (A1 : Option Addr) (l1 : List Int) (c1 : Nat) (hi1 : IntR w A1 l1) (hw1 : WideI l1) (hc1 : l1.length ≤ c1) (hl1 : l1.length ≤ 9223372036854775807) (a2 : Bool) (a3 : Int) (lo3 : -9223372036854775808 ≤ a3) (hi3 : a3 ≤ 9223372036854775807) :
    Calls Try.prog 5 #[.slice A0 l0.length c0, .slice A1 l1.length c1, .bool a2, .int .i64 a3] w fun e w' => e = .returned (.bool true) ∧ Below w.heap.size w w' := by
  obtain ⟨n, hn⟩ : ∃ n, l0.length = n := ⟨_, rfl⟩
  obtain ⟨m, hm⟩ : ∃ n, l1.length = n := ⟨_, rfl⟩
  rw [hn] at hc0 hl0 ⊢
  rw [hm] at hc1 hl1 ⊢
  by_cases hb : 100 < n
  · have hbz : (100 : Int) < (n : Int) := by omega
    clear hi0 hw0 hn hi1 hw1 hm
    go_enter Try.func5, Try.ntmps5
    go_wp2_with fail
    refine (awake_any _).mono ?_
    rintro e w9 ⟨rfl, hb9⟩
    go_wp2_with fail
    go_ret
    exact ⟨rfl, hb9⟩
  have hbz : ¬ (100 : Int) < (n : Int) := by omega
  by_cases hb2 : 100 < m
  · have hbz2 : (100 : Int) < (m : Int) := by omega
    clear hi0 hw0 hn hi1 hw1 hm
    go_enter Try.func5, Try.ntmps5
    go_wp2_with fail
    refine (awake_any _).mono ?_
    rintro e w9 ⟨rfl, hb9⟩
    go_wp2_with fail
    go_ret
    exact ⟨rfl, hb9⟩
  have hbz2 : ¬ (100 : Int) < (m : Int) := by omega
  have HN := Lib.hid hn
  have HI := Lib.hid hi0
  have HM := Lib.hid hm
  have HI1 := Lib.hid hi1
  have hgE := run_guardE
  have heq := run_eqlI a3 5000
  clear hi0 hw0 hn hi1 hw1 hm
  cases a2
  · go_enter Try.func5, Try.ntmps5
    go_wp2_with fail
    refine (new_up _).mono ?_
    rintro e w1 ⟨q, Sq, rfl, hq1, hs1, hb1⟩
    have HQ1 := Lib.hid hq1
    have HS1 := Lib.hid hs1
    clear hq1 hs1
    go_wp2_with fail
    refine (new_up _).mono ?_
    rintro e w2 ⟨pX, SpX, rfl, hpX, hsX, hb2⟩
    obtain ⟨p, hpp⟩ : ∃ p, pX = p := ⟨_, rfl⟩
    obtain ⟨Sp, hSp⟩ : ∃ S, SpX = S := ⟨_, rfl⟩
    rw [hpp]
    have hp2 : QR w2 p Sp false 0 [] := hpp ▸ hSp ▸ hpX
    have hsp : ∀ k, Sp k → w1.heap.size ≤ k := hSp ▸ hsX
    clear hpX hsX hpp hSp
    have HQ2 := Lib.hid (HQ1.out.below hb2)
    have HS2 : Hid (∀ k, Sq k ∨ Sp k → w.heap.size ≤ k) := Lib.hid (fun k e => by
      have := hb1.size
      rcases e with e | e
      · exact HS1.out k e
      · have := hsp k e; omega)
    have HD2 : Hid (∀ k, Sq k → ¬ Sp k) := Lib.hid (fun k e e2 => by have := HQ1.out.lt k e; have := hsp k e2; omega)
    have hB2 := Below.step hb1 hb2
    have HP2 := Lib.hid hp2
    clear hp2 hsp hb1 hb2 HQ1 HS1
    go_wp2_with fail
    refine (fill0_any q Sq false l0 n c0 A0 w2 HQ2.out (by omega) HN.out (HI.out.below hB2) (arg_apart (w1 := w2) HN.out HI.out (fun k e => HS2.out k (Or.inl e)))).mono ?_
    rintro e w3 ⟨B, d, Sq3, rfl, hd3, hr3, hq3, hk3, hs3, hbk3⟩
    have hB3 : Below w.heap.size w w3 := hB2.trans (hk3.below (fun k e => HS2.out k (Or.inl e)) hB2.size)
    have hw2 := hB2.size
    have HQ3 := Lib.hid hq3
    have HP3 := Lib.hid (HP2.out.keep hk3 (fun k e e2 => HD2.out k e2 e))
    have HR3 := Lib.hid hr3
    have HS3 : Hid (∀ k, Sq3 k ∨ Sp k → w.heap.size ≤ k) := Lib.hid (fun k e => by
      rcases e with e | e
      · rcases hs3 k e with h | h
        · exact HS2.out k (Or.inl h)
        · omega
      · exact HS2.out k (Or.inr e))
    have HD3 : Hid (∀ k, Sq3 k → ¬ Sp k) := Lib.hid (fun k e e2 => by
      rcases hs3 k e with h | h
      · exact HD2.out k h e2
      · have := HP2.out.lt k e2; omega)
    have HBK3 : Hid (∀ a, B = some a → ¬ Sq3 a.block ∧ ¬ Sp a.block) := Lib.hid (fun a ha => ⟨(hbk3 a ha).2, fun e => by have := (hbk3 a ha).1; have := HP2.out.lt _ e; omega⟩)
    have HL3 : Hid ((itF 0 l0).length = n) := Lib.hid (by rw [itF_length, HN.out])
    clear hq3 hr3 hk3 hs3 hbk3 hB2 HQ2 HP2 HS2 HD2 HI HN hw2
    generalize itF 0 l0 = la at HQ3 HR3 HL3
    have HBA : Hid (∀ a, B = some a → 0 < n → a.block < w3.heap.size) := Lib.hid (fun a ha h9 => by
      obtain ⟨g, o, e, hlt, _⟩ := HR3.out (by rw [HL3.out]; exact h9)
      rw [ha] at e; cases e; exact hlt)
    go_wp2_with fail
    refine (fill1_any p Sp false l1 m c1 A1 w3 HP3.out (by omega) HM.out (HI1.out.below hB3) (arg_apart (w1 := w3) HM.out HI1.out (fun k e => HS3.out k (Or.inr e)))).mono ?_
    rintro e w4 ⟨B4, d4, Sp4, rfl, hd4, hr4, hp4, hk4, hs4, hbk4⟩
    have hB4 : Below w.heap.size w w4 := hB3.trans (hk4.below (fun k e => HS3.out k (Or.inr e)) hB3.size)
    have hw3 := hB3.size
    have HP4 := Lib.hid hp4
    have HQ4 := Lib.hid (HQ3.out.keep hk4 HD3.out)
    have HR4 := Lib.hid hr4
    have HRA4 : Hid (ItsR w4 B la) := Lib.hid (HR3.out.keep hk4 (fun a ha => (HBK3.out a ha).2))
    have HS4 : Hid (∀ k, Sq3 k ∨ Sp4 k → w.heap.size ≤ k) := Lib.hid (fun k e => by
      rcases e with e | e
      · exact HS3.out k (Or.inl e)
      · rcases hs4 k e with h | h
        · exact HS3.out k (Or.inr h)
        · omega)
    have HD4 : Hid (∀ k, Sq3 k → ¬ Sp4 k) := Lib.hid (fun k e e2 => by
      rcases hs4 k e2 with h | h
      · exact HD3.out k e h
      · have := HQ3.out.lt k e; omega)
    have HBK4 : Hid (∀ a, B = some a → 0 < n → ¬ Sq3 a.block ∧ ¬ Sp4 a.block) := Lib.hid (fun a ha h9 => ⟨(HBK3.out a ha).1, fun e => by
      rcases hs4 _ e with h | h
      · exact (HBK3.out a ha).2 h
      · have := HBA.out a ha h9; omega⟩)
    have HL4 : Hid ((itF 1000 l1).length = m) := Lib.hid (by rw [itF_length, HM.out])
    clear hp4 hr4 hk4 hs4 hbk4 hB3 HQ3 HP3 HS3 HD3 HR3 HBK3 HI1 HM hw3
    generalize itF 1000 l1 = lb at HP4 HR4 HL4
    have HLV : Hid ((stS (kI false) lb).length = m) := Lib.hid (by rw [stS_length, HL4.out])
    go_wp2_with fail
    refine (refAll_any false lb m d4 B4 w4 HL4.out (by omega) hd4 HR4.out).mono ?_
    rintro e w5 ⟨B5, d5, rfl, hd5, hr5, hb5, hbk5⟩
    have HR5 := Lib.hid hr5
    have HQ5 := Lib.hid (HQ4.out.below hb5)
    have HP5 := Lib.hid (HP4.out.below hb5)
    have HRA5 := Lib.hid (HRA4.out.below hb5)
    have hB5 := Below.step hB4 hb5
    have HBK5 : Hid (∀ a, B5 = some a → ¬ Sq3 a.block ∧ ¬ Sp4 a.block) := Lib.hid (fun a ha => ⟨fun e => by have := HQ4.out.lt _ e; have := hbk5 a ha; omega, fun e => by have := HP4.out.lt _ e; have := hbk5 a ha; omega⟩)
    clear hr5 hb5 hbk5 HR4 HQ4 HP4 HRA4 hB4 HL4
    generalize stS (kI false) lb = Vp at HP5 HR5 HLV
    go_wp2_with fail
    refine (merge_any q p Sq3 Sp4 false false n m _ Vp w5 HQ5.out HP5.out HD4.out (by rw [HLV.out]; omega) (by omega)).mono ?_
    rintro e w6 ⟨rfl, Sq6, hq6, hp6, hk6, hs6, hd6⟩
    rw [HLV.out] at hq6
    have hB6 : Below w.heap.size w w6 := hB5.trans (hk6.below HS4.out hB5.size)
    have hw5 := hB5.size
    have HQ6 : Hid (QR w6 q Sq6 false (n + m) (stS (kI false) (la ++ Vp))) := Lib.hid (by rw [stS_app]; exact hq6)
    have HP6 := Lib.hid hp6
    have HD6 := Lib.hid hd6
    have HS6 : Hid (∀ k, Sq6 k ∨ Sp4 k → w.heap.size ≤ k) := Lib.hid (fun k e => by
      rcases e with e | e
      · rcases hs6 k e with h | h
        · exact HS4.out k (Or.inl h)
        · omega
      · exact HS4.out k (Or.inr e))
    have HRA6 : Hid (ItsR w6 B la) := Lib.hid (fun h9 => (HRA5.out.keep hk6 (fun a ha e => by
      have h8 := HBK4.out a ha (by rw [← HL3.out]; exact h9)
      rcases e with e | e
      · exact h8.1 e
      · exact h8.2 e)) h9)
    have HR6 : Hid (ItsR w6 B5 Vp) := Lib.hid (HR5.out.keep hk6 (fun a ha e => by
      have h8 := HBK5.out a ha
      rcases e with e | e
      · exact h8.1 e
      · exact h8.2 e))
    have HBA6 : Hid (∀ a, B = some a → 0 < n → ¬ Sq6 a.block ∧ ¬ Sp4 a.block) := Lib.hid (fun a ha h9 => ⟨fun e => by
      rcases hs6 _ e with h | h
      · exact (HBK4.out a ha h9).1 h
      · obtain ⟨g, o, e2, hlt, _⟩ := HRA5.out (by rw [HL3.out]; exact h9)
        rw [ha] at e2; cases e2; simp only at h; omega, (HBK4.out a ha h9).2⟩)
    have HLQ : Hid ((stS (kI false) (la ++ Vp)).length = n + m) := Lib.hid (by rw [stS_length, List.length_append, HL3.out, HLV.out])
    have HL1 := Lib.hid (len_any p Sp4 false m 0 [] w6 hp6 rfl)
    have HL2 := Lib.hid (len_any q Sq6 false (n + m) (n + m) _ w6 HQ6.out HLQ.out)
    rw [show ((n + m : Nat) : Int) = (n : Int) + (m : Int) by omega] at HL2
    clear hq6 hp6 hk6 hs6 hd6 hB5 HQ5 HP5 HS4 HD4 HR5 HRA5 HBK5 HBK4 HBA hw5
    go_wp2_with fail
    refine HL1.out.mono ?_
    rintro e w' ⟨rfl, rfl⟩
    go_wp2_with fail
    refine HL2.out.mono ?_
    rintro e w' ⟨rfl, rfl⟩
    clear HL1 HL2
    go_wp2_with fail
    go_loopw [11, 13] (fun vl vi wr => ∃ (k j : Nat) (B' : Option Addr) (d' : Nat), k ≤ m ∧ Hid (j = n + k) ∧ vi = .int .i64 (k : Int) ∧ vl = .slice B' j d' ∧ Hid (ItsR wr B' (la ++ Vp.take k)) ∧ Hid (∀ a, B' = some a → 0 < n + k → ¬ Sq6 a.block ∧ ¬ Sp4 a.block) ∧ Hid (j ≤ d') ∧ Below w6.heap.size w6 wr) (fun _ vi _ => m - (intOf vi).toNat)
    case atStart => exact ⟨0, n, B, d, by omega, Lib.hid (by omega), rfl, rfl, Lib.hid (by rw [List.take_zero, List.append_nil]; exact HRA6.out), HBA6, Lib.hid hd3, Below.refl _ _⟩
    case round =>
      obtain ⟨k, j, B', d', hk, HJ, rfl, rfl, HR, HBB, HJD, hB⟩ := hrel
      by_cases hlt : k < m
      · have hltz : (k : Int) < (m : Int) := by omega
        have hkv : k < Vp.length := by rw [HLV.out]; exact hlt
        obtain ⟨g, o, rfl, hgl, hc⟩ := (HR6.out.below hB) (by omega)
        obtain ⟨c0', c1'⟩ := hc k hkv
        have e1 := takeT_snoc Vp k hkv
        obtain ⟨y, hy⟩ : ∃ y, Vp.getD k (0, 0) = y := ⟨_, rfl⟩
        rw [hy] at c0' c1' e1
        have HPU := Lib.hid (refPush_k B' (la ++ Vp.take k) j d' (j + 1) y wr rfl (by rw [List.length_append, HL3.out, List.length_take, HLV.out, HJ.out]; omega) (by rw [HJ.out]; omega) HR.out)
        have HE1 : Hid (la ++ Vp.take (k + 1) = la ++ Vp.take k ++ [y]) := Lib.hid (by rw [e1, List.append_assoc])
        have HLQ6 := Lib.hid (HQ6.out.below hB).lt
        have HLP6 := Lib.hid (HP6.out.below hB).lt
        clear hkv hc e1 hy
        go_wp2_with fail
        refine HPU.out.mono ?_
        rintro e w7 ⟨B7, d7, rfl, hd7, hr7, hb7, hbk7⟩
        have HR7 : Hid (ItsR w7 B7 (la ++ Vp.take (k + 1))) := Lib.hid (by rw [HE1.out]; exact hr7)
        have HB7 := Lib.hid (Below.step hB hb7)
        have HBK7 : Hid (∀ a, B7 = some a → 0 < n + (k + 1) → ¬ Sq6 a.block ∧ ¬ Sp4 a.block) := Lib.hid (fun a ha _ => ⟨fun e => by have := HLQ6.out _ e; have := hbk7 a ha; omega, fun e => by have := HLP6.out _ e; have := hbk7 a ha; omega⟩)
        have HJ7 : Hid (j + 1 = n + (k + 1)) := Lib.hid (by rw [HJ.out]; omega)
        have HD7 := Lib.hid hd7
        clear hr7 hb7 hbk7 HPU hd7
        go_wp2_with fail
        go_roundw
        case rel => exact ⟨k + 1, j + 1, B7, d7, by omega, HJ7, by go_num, rfl, HR7, HBK7, HD7, HB7.out⟩
        case measure => simp only [intOf]; omega
      · obtain rfl : k = m := by omega
        have hnlt : ¬ (k : Int) < (k : Int) := by omega
        have hall : Vp.take k = Vp := List.take_of_length_le (by rw [HLV.out]; omega)
        rw [hall] at HR
        have hjl := HJ.out
        have HJJ : Hid ((la ++ Vp).length = j) := Lib.hid (by rw [List.length_append, HL3.out, HLV.out, HJ.out])
        have hj200 : j ≤ 200 := by omega
        have HQ7 : Hid (QR wr q Sq6 false j (stS (kI false) (la ++ Vp))) := Lib.hid (by rw [HJ.out]; exact HQ6.out.below hB)
        have HP7 := Lib.hid (HP6.out.below hB)
        have hB7 := Below.step hB6 hB
        have HBB7 : Hid (∀ a, B' = some a → 0 < j → ¬ Sq6 a.block ∧ ¬ Sp4 a.block) := Lib.hid (fun a ha h9 => HBB.out a ha (by rw [← HJ.out]; exact h9))
        clear hall hjl HBB HJ HQ6 HP6 HRA6 HR6 HBA6 HLQ HL3 HLV hB
        generalize la ++ Vp = lq at HQ7 HR HJJ
        go_wp2_with fail
        refine (push_any q Sq6 false j _ (a3, 5000) _ (HQ7.out.keep (S' := fun _ => False) (Keep.alloc0 _ _) (fun _ _ e => e)) (by omega)).mono ?_
        rintro e w8 ⟨rfl, Sq8, hq8, hk8, hs8⟩
        have hv8 : VarI w8 wr.heap.size (a3, 5000) := (VarI.made wr (a3, 5000) 27).keep hk8 (fun e => by have := HQ7.out.lt _ e; omega)
        obtain ⟨v0, v1, v2, v3⟩ := hv8
        simp only at v0 v1
        have k8 : Keep Sq6 wr w8 := (Keep.alloc0 wr _).step hk8
        have hs8' : ∀ k, Sq8 k → Sq6 k ∨ wr.heap.size ≤ k := fun q e => by
          rcases hs8 q e with h | h
          · exact Or.inl h
          · simp at h; exact Or.inr (by omega)
        have HQ8 : Hid (QR w8 q Sq8 false (j + 1) (stS (kI false) (lq ++ [(a3, 5000)]))) := Lib.hid (by rw [stS_snoc]; exact hq8)
        have HP8 := Lib.hid (HP7.out.keep k8 (fun k e e2 => HD6.out k e2 e))
        have hw7 := hB7.size
        have HS8 : Hid (∀ k, Sq8 k ∨ Sp4 k → w.heap.size ≤ k) := Lib.hid (fun q e => by
          rcases e with e | e
          · rcases hs8' q e with h | h
            · exact HS6.out q (Or.inl h)
            · omega
          · exact HS6.out q (Or.inr e))
        have HD8 : Hid (∀ k, Sq8 k → ¬ Sp4 k) := Lib.hid (fun q e e2 => by
          rcases hs8' q e with h | h
          · exact HD6.out q h e2
          · have := HP7.out.lt q e2; omega)
        have hB8 : Below w.heap.size w w8 := hB7.trans (k8.below (fun q e => HS6.out q (Or.inl e)) hw7)
        have HR8 : Hid (ItsR w8 B' lq) := Lib.hid (fun h9 => (HR.out.keep k8 (fun a ha e => (HBB7.out a ha (by rw [← HJJ.out]; exact h9)).1 e)) h9)
        have HBB8 : Hid (∀ a, B' = some a → 0 < j → ¬ Sp4 a.block) := Lib.hid (fun a ha h9 => (HBB7.out a ha h9).2)
        have HLT8 : Hid (wr.heap.size < w8.heap.size) := Lib.hid (World.block_lt_of_cell? _ _ v0)
        have HNV8 : Hid (¬ Sp4 wr.heap.size) := Lib.hid (fun e => by have := HP7.out.lt _ e; omega)
        clear hq8 hk8 hs8 hs8' k8 HQ7 HP7 HS6 HD6 HR HBB7 hB7 hB6
        go_wp2_with fail
        refine (push_any p Sp4 false k [] (a3, 5000) w8 HP8.out (by omega)).mono ?_
        rintro e w9 ⟨rfl, Sp9, hp9, hk9, hs9⟩
        have hv9 : VarI w9 wr.heap.size (a3, 5000) := (⟨v0, v1, v2, v3⟩ : VarI w8 wr.heap.size (a3, 5000)).keep hk9 HNV8.out
        clear v0 v1 v2 v3
        obtain ⟨v0, v1, v2, v3⟩ := hv9
        simp only at v0 v1
        have HP9 : Hid (QR w9 p Sp9 false (k + 1) [(a3, 5000)]) := Lib.hid hp9
        have HQ9 := Lib.hid (HQ8.out.keep hk9 HD8.out)
        have hw8 := hB8.size
        have HS9 : Hid (∀ k, Sq8 k ∨ Sp9 k → w.heap.size ≤ k) := Lib.hid (fun q e => by
          rcases e with e | e
          · exact HS8.out q (Or.inl e)
          · rcases hs9 q e with h | h
            · exact HS8.out q (Or.inr h)
            · omega)
        have HD9 : Hid (∀ k, Sq8 k → ¬ Sp9 k) := Lib.hid (fun q e e2 => by
          rcases hs9 q e2 with h | h
          · exact HD8.out q e h
          · have := HQ8.out.lt q e; omega)
        have hB9 : Below w.heap.size w w9 := hB8.trans (hk9.below (fun q e => HS8.out q (Or.inr e)) hw8)
        have HR9 : Hid (ItsR w9 B' lq) := Lib.hid (fun h9 => (HR8.out.keep hk9 (fun a ha e => HBB8.out a ha (by rw [← HJJ.out]; exact h9) e)) h9)
        have HNV9 : Hid (¬ Sp9 wr.heap.size) := Lib.hid (fun e => by
          rcases hs9 _ e with h | h
          · exact HNV8.out h
          · have := HLT8.out; omega)
        clear hp9 hk9 hs9 HQ8 HP8 HS8 HD8 HR8 HBB8 hB8
        obtain ⟨i, hi⟩ : ∃ i, j + 1 = i := ⟨_, rfl⟩
        have hi201 : i ≤ 201 := by omega
        have HPU := Lib.hid (refPush_k B' lq j d' i (a3, 5000) w9 hi HJJ.out (by omega) HR9.out)
        rw [hi] at HQ9
        have HLI : Hid ((lq ++ [(a3, 5000)]).length = i) := Lib.hid (by rw [List.length_append, HJJ.out, ← hi]; rfl)
        clear hi
        go_wp2_with fail
        refine HPU.out.mono ?_
        rintro e w10 ⟨B10, d10, rfl, hd10, hr10, hb10, hbk10⟩
        have HR10 := Lib.hid hr10
        have HQ10 := Lib.hid (HQ9.out.below hb10)
        have HP10 := Lib.hid (HP9.out.below hb10)
        have hv10 : VarI w10 wr.heap.size (a3, 5000) := (⟨v0, v1, v2, v3⟩ : VarI w9 wr.heap.size (a3, 5000)).below hb10
        have hB10 := Below.step hB9 hb10
        have HBK10 : Hid (∀ a, B10 = some a → ¬ Sq8 a.block ∧ ¬ Sp9 a.block) := Lib.hid (fun a ha => ⟨fun e => by have := HQ9.out.lt _ e; have := hbk10 a ha; omega, fun e => by have := HP9.out.lt _ e; have := hbk10 a ha; omega⟩)
        clear v0 v1 v2 v3
        obtain ⟨v0, v1, v2, v3⟩ := hv10
        simp only at v0 v1
        clear hr10 hb10 hbk10 HQ9 HP9 HR9 hB9 HPU
        generalize lq ++ [(a3, 5000)] = lz at HQ10 HR10 HLI
        go_wp2_with fail
        refine (pop_any p Sp9 false (k + 1) [(a3, 5000)] w10 HP10.out (by omega)).mono ?_
        rintro e w11 ⟨rfl, hp11, hk11⟩
        unfold hdV
        have HP11 := Lib.hid hp11
        have HQ11 := Lib.hid (HQ10.out.keep hk11 HD9.out)
        have HR11 : Hid (ItsR w11 B10 lz) := Lib.hid (HR10.out.keep hk11 (fun a ha => (HBK10.out a ha).2))
        have hv11 : VarI w11 wr.heap.size (a3, 5000) := (⟨v0, v1, v2, v3⟩ : VarI w10 wr.heap.size (a3, 5000)).keep hk11 HNV9.out
        have hB11 : Below w.heap.size w w11 := hB10.trans (hk11.below (fun q e => HS9.out q (Or.inr e)) hB10.size)
        clear v0 v1 v2 v3
        obtain ⟨v0, v1, v2, v3⟩ := hv11
        simp only at v0 v1
        have hwv : wr.heap.size < w11.heap.size := World.block_lt_of_cell? _ _ v0
        have hb12 := Keep.alloc0 (S := fun _ => False) w11 (.cells #[.int .i64 a3, .int .i64 5000] 27)
        have HL12 := Lib.hid (len_any p Sp9 false (k + 1) 0 [] _ (HP11.out.keep hb12 (fun _ _ e => e)) rfl)
        have HLV : Hid ((stS (kI false) lz).length = i) := Lib.hid (by rw [stS_length, HLI.out])
        have HDR := Lib.hid (drainAll_any q Sq8 false i _ i _ (HQ11.out.keep hb12 (fun _ _ e => e)) (by omega) HLV.out)
        have HR12 : Hid (ItsR _ B10 lz) := Lib.hid (HR11.out.keep hb12 (fun _ _ e => e))
        have HB12 := Lib.hid (hB11.alloc hB11.size (.cells #[.int .i64 a3, .int .i64 5000] 27))
        clear hp11 hk11 hb12 HP11 HQ11 HR11 hB11 HP10 HQ10 HR10 hB10
        go_wp2_with fail
        refine HL12.out.mono ?_
        rintro e w12 ⟨rfl, rfl⟩
        go_wp2_with fail
        refine HDR.out.mono ?_
        rintro e w13 ⟨B13, d13, rfl, hr13, hq13, hk13, hbk13⟩
        have HR13 := Lib.hid hr13
        have HRZ13 : Hid (ItsR w13 B10 lz) := Lib.hid (HR12.out.keep hk13 (fun a ha => (HBK10.out a ha).1))
        have HB13 := Lib.hid (HB12.out.trans (hk13.below (fun q e => HS9.out q (Or.inl e)) HB12.out.size))
        clear hr13 hq13 hk13 hbk13 HR12 HB12 HDR HL12
        go_wp2_with fail
        refine (refAll_any false lz i d10 B10 w13 HLI.out (by omega) hd10 HRZ13.out).mono ?_
        rintro e w14 ⟨B14, d14, rfl, hd14, hr14, hb14, _⟩
        have HR14 := Lib.hid hr14
        have HRY14 := Lib.hid (HR13.out.below hb14)
        have HB14 := Lib.hid (Below.step HB13.out hb14)
        clear hr14 hb14 HR13 HRZ13 HB13
        go_wp2_with fail
        refine (same_any _ _ rfl B13 B14 i d13 d14 _ HLV.out (by omega) HRY14.out HR14.out).mono ?_
        rintro e w15 ⟨rfl, hb15⟩
        have HB15 := Lib.hid (Below.step HB14.out hb15)
        clear hb15
        go_wp2_with fail
        refine (awake_any _).mono ?_
        rintro e w16 ⟨rfl, hb16⟩
        have HB16 := Lib.hid (Below.step HB15.out hb16)
        clear hb16
        go_wp2_with fail
        go_ret
        exact ⟨rfl, HB16.out⟩
  · go_enter Try.func5, Try.ntmps5
    go_wp2_with fail
    refine (new_up _).mono ?_
    rintro e w1 ⟨q, Sq, rfl, hq1, hs1, hb1⟩
    have HQ1 := Lib.hid hq1
    have HS1 := Lib.hid hs1
    clear hq1 hs1
    go_wp2_with fail
    refine (new_up _).mono ?_
    rintro e w2 ⟨pX, SpX, rfl, hpX, hsX, hb2⟩
    have hbX := hb2
    clear hb2 hpX hsX
    have hwX := hbX.size
    go_wp2_with fail
    refine (new_down _).mono ?_
    rintro e wX ⟨p, Sp, rfl, hp2, hsp0, hb3⟩
    have hb2 := Below.step hbX hb3
    have hsp : ∀ k, Sp k → w1.heap.size ≤ k := fun k e => Nat.le_trans hwX (hsp0 k e)
    clear hsp0 hb3 hbX hwX
    have hpX := trivial
    have HQ2 := Lib.hid (HQ1.out.below hb2)
    have HS2 : Hid (∀ k, Sq k ∨ Sp k → w.heap.size ≤ k) := Lib.hid (fun k e => by
      have := hb1.size
      rcases e with e | e
      · exact HS1.out k e
      · have := hsp k e; omega)
    have HD2 : Hid (∀ k, Sq k → ¬ Sp k) := Lib.hid (fun k e e2 => by have := HQ1.out.lt k e; have := hsp k e2; omega)
    have hB2 := Below.step hb1 hb2
    have HP2 := Lib.hid hp2
    clear hp2 hsp hb1 hb2 HQ1 HS1
    go_wp2_with fail
    refine (fill0_any q Sq false l0 n c0 A0 wX HQ2.out (by omega) HN.out (HI.out.below hB2) (arg_apart (w1 := wX) HN.out HI.out (fun k e => HS2.out k (Or.inl e)))).mono ?_
    rintro e w3 ⟨B, d, Sq3, rfl, hd3, hr3, hq3, hk3, hs3, hbk3⟩
    have hB3 : Below w.heap.size w w3 := hB2.trans (hk3.below (fun k e => HS2.out k (Or.inl e)) hB2.size)
    have hw2 := hB2.size
    have HQ3 := Lib.hid hq3
    have HP3 := Lib.hid (HP2.out.keep hk3 (fun k e e2 => HD2.out k e2 e))
    have HR3 := Lib.hid hr3
    have HS3 : Hid (∀ k, Sq3 k ∨ Sp k → w.heap.size ≤ k) := Lib.hid (fun k e => by
      rcases e with e | e
      · rcases hs3 k e with h | h
        · exact HS2.out k (Or.inl h)
        · omega
      · exact HS2.out k (Or.inr e))
    have HD3 : Hid (∀ k, Sq3 k → ¬ Sp k) := Lib.hid (fun k e e2 => by
      rcases hs3 k e with h | h
      · exact HD2.out k h e2
      · have := HP2.out.lt k e2; omega)
    have HBK3 : Hid (∀ a, B = some a → ¬ Sq3 a.block ∧ ¬ Sp a.block) := Lib.hid (fun a ha => ⟨(hbk3 a ha).2, fun e => by have := (hbk3 a ha).1; have := HP2.out.lt _ e; omega⟩)
    have HL3 : Hid ((itF 0 l0).length = n) := Lib.hid (by rw [itF_length, HN.out])
    clear hq3 hr3 hk3 hs3 hbk3 hB2 HQ2 HP2 HS2 HD2 HI HN hw2
    generalize itF 0 l0 = la at HQ3 HR3 HL3
    have HBA : Hid (∀ a, B = some a → 0 < n → a.block < w3.heap.size) := Lib.hid (fun a ha h9 => by
      obtain ⟨g, o, e, hlt, _⟩ := HR3.out (by rw [HL3.out]; exact h9)
      rw [ha] at e; cases e; exact hlt)
    go_wp2_with fail
    refine (fill1_any p Sp true l1 m c1 A1 w3 HP3.out (by omega) HM.out (HI1.out.below hB3) (arg_apart (w1 := w3) HM.out HI1.out (fun k e => HS3.out k (Or.inr e)))).mono ?_
    rintro e w4 ⟨B4, d4, Sp4, rfl, hd4, hr4, hp4, hk4, hs4, hbk4⟩
    have hB4 : Below w.heap.size w w4 := hB3.trans (hk4.below (fun k e => HS3.out k (Or.inr e)) hB3.size)
    have hw3 := hB3.size
    have HP4 := Lib.hid hp4
    have HQ4 := Lib.hid (HQ3.out.keep hk4 HD3.out)
    have HR4 := Lib.hid hr4
    have HRA4 : Hid (ItsR w4 B la) := Lib.hid (HR3.out.keep hk4 (fun a ha => (HBK3.out a ha).2))
    have HS4 : Hid (∀ k, Sq3 k ∨ Sp4 k → w.heap.size ≤ k) := Lib.hid (fun k e => by
      rcases e with e | e
      · exact HS3.out k (Or.inl e)
      · rcases hs4 k e with h | h
        · exact HS3.out k (Or.inr h)
        · omega)
    have HD4 : Hid (∀ k, Sq3 k → ¬ Sp4 k) := Lib.hid (fun k e e2 => by
      rcases hs4 k e2 with h | h
      · exact HD3.out k e h
      · have := HQ3.out.lt k e; omega)
    have HBK4 : Hid (∀ a, B = some a → 0 < n → ¬ Sq3 a.block ∧ ¬ Sp4 a.block) := Lib.hid (fun a ha h9 => ⟨(HBK3.out a ha).1, fun e => by
      rcases hs4 _ e with h | h
      · exact (HBK3.out a ha).2 h
      · have := HBA.out a ha h9; omega⟩)
    have HL4 : Hid ((itF 1000 l1).length = m) := Lib.hid (by rw [itF_length, HM.out])
    clear hp4 hr4 hk4 hs4 hbk4 hB3 HQ3 HP3 HS3 HD3 HR3 HBK3 HI1 HM hw3
    generalize itF 1000 l1 = lb at HP4 HR4 HL4
    have HLV : Hid ((stS (kI true) lb).length = m) := Lib.hid (by rw [stS_length, HL4.out])
    go_wp2_with fail
    refine (refAll_any true lb m d4 B4 w4 HL4.out (by omega) hd4 HR4.out).mono ?_
    rintro e w5 ⟨B5, d5, rfl, hd5, hr5, hb5, hbk5⟩
    have HR5 := Lib.hid hr5
    have HQ5 := Lib.hid (HQ4.out.below hb5)
    have HP5 := Lib.hid (HP4.out.below hb5)
    have HRA5 := Lib.hid (HRA4.out.below hb5)
    have hB5 := Below.step hB4 hb5
    have HBK5 : Hid (∀ a, B5 = some a → ¬ Sq3 a.block ∧ ¬ Sp4 a.block) := Lib.hid (fun a ha => ⟨fun e => by have := HQ4.out.lt _ e; have := hbk5 a ha; omega, fun e => by have := HP4.out.lt _ e; have := hbk5 a ha; omega⟩)
    clear hr5 hb5 hbk5 HR4 HQ4 HP4 HRA4 hB4 HL4
    generalize stS (kI true) lb = Vp at HP5 HR5 HLV
    go_wp2_with fail
    refine (merge_any q p Sq3 Sp4 false true n m _ Vp w5 HQ5.out HP5.out HD4.out (by rw [HLV.out]; omega) (by omega)).mono ?_
    rintro e w6 ⟨rfl, Sq6, hq6, hp6, hk6, hs6, hd6⟩
    rw [HLV.out] at hq6
    have hB6 : Below w.heap.size w w6 := hB5.trans (hk6.below HS4.out hB5.size)
    have hw5 := hB5.size
    have HQ6 : Hid (QR w6 q Sq6 false (n + m) (stS (kI false) (la ++ Vp))) := Lib.hid (by rw [stS_app]; exact hq6)
    have HP6 := Lib.hid hp6
    have HD6 := Lib.hid hd6
    have HS6 : Hid (∀ k, Sq6 k ∨ Sp4 k → w.heap.size ≤ k) := Lib.hid (fun k e => by
      rcases e with e | e
      · rcases hs6 k e with h | h
        · exact HS4.out k (Or.inl h)
        · omega
      · exact HS4.out k (Or.inr e))
    have HRA6 : Hid (ItsR w6 B la) := Lib.hid (fun h9 => (HRA5.out.keep hk6 (fun a ha e => by
      have h8 := HBK4.out a ha (by rw [← HL3.out]; exact h9)
      rcases e with e | e
      · exact h8.1 e
      · exact h8.2 e)) h9)
    have HR6 : Hid (ItsR w6 B5 Vp) := Lib.hid (HR5.out.keep hk6 (fun a ha e => by
      have h8 := HBK5.out a ha
      rcases e with e | e
      · exact h8.1 e
      · exact h8.2 e))
    have HBA6 : Hid (∀ a, B = some a → 0 < n → ¬ Sq6 a.block ∧ ¬ Sp4 a.block) := Lib.hid (fun a ha h9 => ⟨fun e => by
      rcases hs6 _ e with h | h
      · exact (HBK4.out a ha h9).1 h
      · obtain ⟨g, o, e2, hlt, _⟩ := HRA5.out (by rw [HL3.out]; exact h9)
        rw [ha] at e2; cases e2; simp only at h; omega, (HBK4.out a ha h9).2⟩)
    have HLQ : Hid ((stS (kI false) (la ++ Vp)).length = n + m) := Lib.hid (by rw [stS_length, List.length_append, HL3.out, HLV.out])
    have HL1 := Lib.hid (len_any p Sp4 true m 0 [] w6 hp6 rfl)
    have HL2 := Lib.hid (len_any q Sq6 false (n + m) (n + m) _ w6 HQ6.out HLQ.out)
    rw [show ((n + m : Nat) : Int) = (n : Int) + (m : Int) by omega] at HL2
    clear hq6 hp6 hk6 hs6 hd6 hB5 HQ5 HP5 HS4 HD4 HR5 HRA5 HBK5 HBK4 HBA hw5
    go_wp2_with fail
    refine HL1.out.mono ?_
    rintro e w' ⟨rfl, rfl⟩
    go_wp2_with fail
    refine HL2.out.mono ?_
    rintro e w' ⟨rfl, rfl⟩
    clear HL1 HL2
    go_wp2_with fail
    go_loopw [11, 13] (fun vl vi wr => ∃ (k j : Nat) (B' : Option Addr) (d' : Nat), k ≤ m ∧ Hid (j = n + k) ∧ vi = .int .i64 (k : Int) ∧ vl = .slice B' j d' ∧ Hid (ItsR wr B' (la ++ Vp.take k)) ∧ Hid (∀ a, B' = some a → 0 < n + k → ¬ Sq6 a.block ∧ ¬ Sp4 a.block) ∧ Hid (j ≤ d') ∧ Below w6.heap.size w6 wr) (fun _ vi _ => m - (intOf vi).toNat)
    case atStart => exact ⟨0, n, B, d, by omega, Lib.hid (by omega), rfl, rfl, Lib.hid (by rw [List.take_zero, List.append_nil]; exact HRA6.out), HBA6, Lib.hid hd3, Below.refl _ _⟩
    case round =>
      obtain ⟨k, j, B', d', hk, HJ, rfl, rfl, HR, HBB, HJD, hB⟩ := hrel
      by_cases hlt : k < m
      · have hltz : (k : Int) < (m : Int) := by omega
        have hkv : k < Vp.length := by rw [HLV.out]; exact hlt
        obtain ⟨g, o, rfl, hgl, hc⟩ := (HR6.out.below hB) (by omega)
        obtain ⟨c0', c1'⟩ := hc k hkv
        have e1 := takeT_snoc Vp k hkv
        obtain ⟨y, hy⟩ : ∃ y, Vp.getD k (0, 0) = y := ⟨_, rfl⟩
        rw [hy] at c0' c1' e1
        have HPU := Lib.hid (refPush_k B' (la ++ Vp.take k) j d' (j + 1) y wr rfl (by rw [List.length_append, HL3.out, List.length_take, HLV.out, HJ.out]; omega) (by rw [HJ.out]; omega) HR.out)
        have HE1 : Hid (la ++ Vp.take (k + 1) = la ++ Vp.take k ++ [y]) := Lib.hid (by rw [e1, List.append_assoc])
        have HLQ6 := Lib.hid (HQ6.out.below hB).lt
        have HLP6 := Lib.hid (HP6.out.below hB).lt
        clear hkv hc e1 hy
        go_wp2_with fail
        refine HPU.out.mono ?_
        rintro e w7 ⟨B7, d7, rfl, hd7, hr7, hb7, hbk7⟩
        have HR7 : Hid (ItsR w7 B7 (la ++ Vp.take (k + 1))) := Lib.hid (by rw [HE1.out]; exact hr7)
        have HB7 := Lib.hid (Below.step hB hb7)
        have HBK7 : Hid (∀ a, B7 = some a → 0 < n + (k + 1) → ¬ Sq6 a.block ∧ ¬ Sp4 a.block) := Lib.hid (fun a ha _ => ⟨fun e => by have := HLQ6.out _ e; have := hbk7 a ha; omega, fun e => by have := HLP6.out _ e; have := hbk7 a ha; omega⟩)
        have HJ7 : Hid (j + 1 = n + (k + 1)) := Lib.hid (by rw [HJ.out]; omega)
        have HD7 := Lib.hid hd7
        clear hr7 hb7 hbk7 HPU hd7
        go_wp2_with fail
        go_roundw
        case rel => exact ⟨k + 1, j + 1, B7, d7, by omega, HJ7, by go_num, rfl, HR7, HBK7, HD7, HB7.out⟩
        case measure => simp only [intOf]; omega
      · obtain rfl : k = m := by omega
        have hnlt : ¬ (k : Int) < (k : Int) := by omega
        have hall : Vp.take k = Vp := List.take_of_length_le (by rw [HLV.out]; omega)
        rw [hall] at HR
        have hjl := HJ.out
        have HJJ : Hid ((la ++ Vp).length = j) := Lib.hid (by rw [List.length_append, HL3.out, HLV.out, HJ.out])
        have hj200 : j ≤ 200 := by omega
        have HQ7 : Hid (QR wr q Sq6 false j (stS (kI false) (la ++ Vp))) := Lib.hid (by rw [HJ.out]; exact HQ6.out.below hB)
        have HP7 := Lib.hid (HP6.out.below hB)
        have hB7 := Below.step hB6 hB
        have HBB7 : Hid (∀ a, B' = some a → 0 < j → ¬ Sq6 a.block ∧ ¬ Sp4 a.block) := Lib.hid (fun a ha h9 => HBB.out a ha (by rw [← HJ.out]; exact h9))
        clear hall hjl HBB HJ HQ6 HP6 HRA6 HR6 HBA6 HLQ HL3 HLV hB
        generalize la ++ Vp = lq at HQ7 HR HJJ
        go_wp2_with fail
        refine (push_any q Sq6 false j _ (a3, 5000) _ (HQ7.out.keep (S' := fun _ => False) (Keep.alloc0 _ _) (fun _ _ e => e)) (by omega)).mono ?_
        rintro e w8 ⟨rfl, Sq8, hq8, hk8, hs8⟩
        have hv8 : VarI w8 wr.heap.size (a3, 5000) := (VarI.made wr (a3, 5000) 27).keep hk8 (fun e => by have := HQ7.out.lt _ e; omega)
        obtain ⟨v0, v1, v2, v3⟩ := hv8
        simp only at v0 v1
        have k8 : Keep Sq6 wr w8 := (Keep.alloc0 wr _).step hk8
        have hs8' : ∀ k, Sq8 k → Sq6 k ∨ wr.heap.size ≤ k := fun q e => by
          rcases hs8 q e with h | h
          · exact Or.inl h
          · simp at h; exact Or.inr (by omega)
        have HQ8 : Hid (QR w8 q Sq8 false (j + 1) (stS (kI false) (lq ++ [(a3, 5000)]))) := Lib.hid (by rw [stS_snoc]; exact hq8)
        have HP8 := Lib.hid (HP7.out.keep k8 (fun k e e2 => HD6.out k e2 e))
        have hw7 := hB7.size
        have HS8 : Hid (∀ k, Sq8 k ∨ Sp4 k → w.heap.size ≤ k) := Lib.hid (fun q e => by
          rcases e with e | e
          · rcases hs8' q e with h | h
            · exact HS6.out q (Or.inl h)
            · omega
          · exact HS6.out q (Or.inr e))
        have HD8 : Hid (∀ k, Sq8 k → ¬ Sp4 k) := Lib.hid (fun q e e2 => by
          rcases hs8' q e with h | h
          · exact HD6.out q h e2
          · have := HP7.out.lt q e2; omega)
        have hB8 : Below w.heap.size w w8 := hB7.trans (k8.below (fun q e => HS6.out q (Or.inl e)) hw7)
        have HR8 : Hid (ItsR w8 B' lq) := Lib.hid (fun h9 => (HR.out.keep k8 (fun a ha e => (HBB7.out a ha (by rw [← HJJ.out]; exact h9)).1 e)) h9)
        have HBB8 : Hid (∀ a, B' = some a → 0 < j → ¬ Sp4 a.block) := Lib.hid (fun a ha h9 => (HBB7.out a ha h9).2)
        have HLT8 : Hid (wr.heap.size < w8.heap.size) := Lib.hid (World.block_lt_of_cell? _ _ v0)
        have HNV8 : Hid (¬ Sp4 wr.heap.size) := Lib.hid (fun e => by have := HP7.out.lt _ e; omega)
        clear hq8 hk8 hs8 hs8' k8 HQ7 HP7 HS6 HD6 HR HBB7 hB7 hB6
        go_wp2_with fail
        refine (push_any p Sp4 true k [] (a3, 5000) w8 HP8.out (by omega)).mono ?_
        rintro e w9 ⟨rfl, Sp9, hp9, hk9, hs9⟩
        have hv9 : VarI w9 wr.heap.size (a3, 5000) := (⟨v0, v1, v2, v3⟩ : VarI w8 wr.heap.size (a3, 5000)).keep hk9 HNV8.out
        clear v0 v1 v2 v3
        obtain ⟨v0, v1, v2, v3⟩ := hv9
        simp only at v0 v1
        have HP9 : Hid (QR w9 p Sp9 true (k + 1) [(a3, 5000)]) := Lib.hid hp9
        have HQ9 := Lib.hid (HQ8.out.keep hk9 HD8.out)
        have hw8 := hB8.size
        have HS9 : Hid (∀ k, Sq8 k ∨ Sp9 k → w.heap.size ≤ k) := Lib.hid (fun q e => by
          rcases e with e | e
          · exact HS8.out q (Or.inl e)
          · rcases hs9 q e with h | h
            · exact HS8.out q (Or.inr h)
            · omega)
        have HD9 : Hid (∀ k, Sq8 k → ¬ Sp9 k) := Lib.hid (fun q e e2 => by
          rcases hs9 q e2 with h | h
          · exact HD8.out q e h
          · have := HQ8.out.lt q e; omega)
        have hB9 : Below w.heap.size w w9 := hB8.trans (hk9.below (fun q e => HS8.out q (Or.inr e)) hw8)
        have HR9 : Hid (ItsR w9 B' lq) := Lib.hid (fun h9 => (HR8.out.keep hk9 (fun a ha e => HBB8.out a ha (by rw [← HJJ.out]; exact h9) e)) h9)
        have HNV9 : Hid (¬ Sp9 wr.heap.size) := Lib.hid (fun e => by
          rcases hs9 _ e with h | h
          · exact HNV8.out h
          · have := HLT8.out; omega)
        clear hp9 hk9 hs9 HQ8 HP8 HS8 HD8 HR8 HBB8 hB8
        obtain ⟨i, hi⟩ : ∃ i, j + 1 = i := ⟨_, rfl⟩
        have hi201 : i ≤ 201 := by omega
        have HPU := Lib.hid (refPush_k B' lq j d' i (a3, 5000) w9 hi HJJ.out (by omega) HR9.out)
        rw [hi] at HQ9
        have HLI : Hid ((lq ++ [(a3, 5000)]).length = i) := Lib.hid (by rw [List.length_append, HJJ.out, ← hi]; rfl)
        clear hi
        go_wp2_with fail
        refine HPU.out.mono ?_
        rintro e w10 ⟨B10, d10, rfl, hd10, hr10, hb10, hbk10⟩
        have HR10 := Lib.hid hr10
        have HQ10 := Lib.hid (HQ9.out.below hb10)
        have HP10 := Lib.hid (HP9.out.below hb10)
        have hv10 : VarI w10 wr.heap.size (a3, 5000) := (⟨v0, v1, v2, v3⟩ : VarI w9 wr.heap.size (a3, 5000)).below hb10
        have hB10 := Below.step hB9 hb10
        have HBK10 : Hid (∀ a, B10 = some a → ¬ Sq8 a.block ∧ ¬ Sp9 a.block) := Lib.hid (fun a ha => ⟨fun e => by have := HQ9.out.lt _ e; have := hbk10 a ha; omega, fun e => by have := HP9.out.lt _ e; have := hbk10 a ha; omega⟩)
        clear v0 v1 v2 v3
        obtain ⟨v0, v1, v2, v3⟩ := hv10
        simp only at v0 v1
        clear hr10 hb10 hbk10 HQ9 HP9 HR9 hB9 HPU
        generalize lq ++ [(a3, 5000)] = lz at HQ10 HR10 HLI
        go_wp2_with fail
        refine (pop_any p Sp9 true (k + 1) [(a3, 5000)] w10 HP10.out (by omega)).mono ?_
        rintro e w11 ⟨rfl, hp11, hk11⟩
        unfold hdV
        have HP11 := Lib.hid hp11
        have HQ11 := Lib.hid (HQ10.out.keep hk11 HD9.out)
        have HR11 : Hid (ItsR w11 B10 lz) := Lib.hid (HR10.out.keep hk11 (fun a ha => (HBK10.out a ha).2))
        have hv11 : VarI w11 wr.heap.size (a3, 5000) := (⟨v0, v1, v2, v3⟩ : VarI w10 wr.heap.size (a3, 5000)).keep hk11 HNV9.out
        have hB11 : Below w.heap.size w w11 := hB10.trans (hk11.below (fun q e => HS9.out q (Or.inr e)) hB10.size)
        clear v0 v1 v2 v3
        obtain ⟨v0, v1, v2, v3⟩ := hv11
        simp only at v0 v1
        have hwv : wr.heap.size < w11.heap.size := World.block_lt_of_cell? _ _ v0
        have hb12 := Keep.alloc0 (S := fun _ => False) w11 (.cells #[.int .i64 a3, .int .i64 5000] 27)
        have HL12 := Lib.hid (len_any p Sp9 true (k + 1) 0 [] _ (HP11.out.keep hb12 (fun _ _ e => e)) rfl)
        have HLV : Hid ((stS (kI false) lz).length = i) := Lib.hid (by rw [stS_length, HLI.out])
        have HDR := Lib.hid (drainAll_any q Sq8 false i _ i _ (HQ11.out.keep hb12 (fun _ _ e => e)) (by omega) HLV.out)
        have HR12 : Hid (ItsR _ B10 lz) := Lib.hid (HR11.out.keep hb12 (fun _ _ e => e))
        have HB12 := Lib.hid (hB11.alloc hB11.size (.cells #[.int .i64 a3, .int .i64 5000] 27))
        clear hp11 hk11 hb12 HP11 HQ11 HR11 hB11 HP10 HQ10 HR10 hB10
        go_wp2_with fail
        refine HL12.out.mono ?_
        rintro e w12 ⟨rfl, rfl⟩
        go_wp2_with fail
        refine HDR.out.mono ?_
        rintro e w13 ⟨B13, d13, rfl, hr13, hq13, hk13, hbk13⟩
        have HR13 := Lib.hid hr13
        have HRZ13 : Hid (ItsR w13 B10 lz) := Lib.hid (HR12.out.keep hk13 (fun a ha => (HBK10.out a ha).1))
        have HB13 := Lib.hid (HB12.out.trans (hk13.below (fun q e => HS9.out q (Or.inl e)) HB12.out.size))
        clear hr13 hq13 hk13 hbk13 HR12 HB12 HDR HL12
        go_wp2_with fail
        refine (refAll_any false lz i d10 B10 w13 HLI.out (by omega) hd10 HRZ13.out).mono ?_
        rintro e w14 ⟨B14, d14, rfl, hd14, hr14, hb14, _⟩
        have HR14 := Lib.hid hr14
        have HRY14 := Lib.hid (HR13.out.below hb14)
        have HB14 := Lib.hid (Below.step HB13.out hb14)
        clear hr14 hb14 HR13 HRZ13 HB13
        go_wp2_with fail
        refine (same_any _ _ rfl B13 B14 i d13 d14 _ HLV.out (by omega) HRY14.out HR14.out).mono ?_
        rintro e w15 ⟨rfl, hb15⟩
        have HB15 := Lib.hid (Below.step HB14.out hb15)
        clear hb15
        go_wp2_with fail
        refine (awake_any _).mono ?_
        rintro e w16 ⟨rfl, hb16⟩
        have HB16 := Lib.hid (Below.step HB15.out hb16)
        clear hb16
        go_wp2_with fail
        go_ret
        exact ⟨rfl, HB16.out⟩

set_option maxRecDepth 100000 in
theorem lifted (os : Os) (started : os.Started) (H : Type) (enc : TypeId × Value → H) (F : Stop.Interp) :
    ReturnsInHanded {} Try.checked os 5 .any ((OpenSpec.ofChange Rows.pqueueMergesSpec).preRow enc Try.prog Try.f5 Rows.pqueueMergesRow.domain false Rows.pqueueMergesRow.laid) (((OpenSpec.ofChange Rows.pqueueMergesSpec).at F).post enc Try.prog Try.f5 false true false false) := by
  refine returnsInHanded_of_row (C := Try.checked) (s := OpenSpec.ofChange Rows.pqueueMergesSpec) own started (by kernel_rfl) Try.func5
    (ChangeSpec.witness_shaped (enc := enc) (C := Try.checked) (os := os) (X := fun w _ => laidMetH Try.prog Rows.pqueueMergesRow.laid w) false (World.laidAll Try.prog os Rows.pqueueMergesRow.laid) #[.slice none 0 0, .slice none 0 0, .bool false, .int .i64 0] 8 (World.laidAll_os _ _ _)
      (World.shaped_of_ZipB (by kernel_rfl) (by kernel_rfl)) (by kernel_rfl) (by kernel_rfl) (by kernel_rfl)
      (by rw [MakeChecks.laidMetH_plain _ _ _ (by kernel_rfl)]; exact laidMet_laidAll _ (by kernel_rfl) (by kernel_rfl))) ?_
  intro W base args ds gs before hval0 hW _ _ hsz0 hL hsh _
  have hval : ∀ (j : Nat) t v, Try.f5.params[j]? = some t → args[j]? = some v → Value.okWide Try.prog W .any base t v := hval0
  have hW' := hW
  obtain ⟨p, q, hA0, hV, rfl, hfz, hnd⟩ := hW
  have hA : DataW.TrodAll enc Try.prog W 0 (fun _ => true) true Try.f5.params.toList args.toList ds p := hA0
  rw [Try.params5] at hA hval
  obtain ⟨v0, vs0, d0, ds0, p0, q0, hargs, rfl, rfl, h0, r0⟩ := trodAll_cons hA
  obtain ⟨v1, vs1, d1, ds1, p1, q1, rfl, rfl, rfl, h1, r1⟩ := trodAll_cons r0
  obtain ⟨v2, vs2, d2, ds2, p2, q2, rfl, rfl, rfl, h2, r2⟩ := trodAll_cons r1
  obtain ⟨v3, vs3, d3, ds3, p3, q3, rfl, rfl, rfl, h3, r3⟩ := trodAll_cons r2
  obtain ⟨rfl, rfl, rfl⟩ := trodAll_nil r3
  obtain rfl : args = #[v0, v1, v2, v3] := by cases args; simp_all
  obtain ⟨rfl, rfl⟩ := trodVars_none hV
  obtain ⟨A0, l0, c0, rfl, hi0, hw0, hc0, hl0⟩ := ints_open (hval 0 22 v0 rfl rfl) h0
  obtain ⟨A1, l1, c1, rfl, hi1, hw1, hc1, hl1⟩ := ints_open (hval 1 22 v1 rfl rfl) h1
  obtain ⟨a2, rfl, rfl, rfl⟩ := open_bool Try.underlying4 (hval 2 4 v2 rfl rfl) h2
  obtain ⟨a3, rfl, rfl, rfl, w3⟩ := open_int Try.underlying3 (hval 3 3 v3 rfl rfl) h3
  have bd3 := i64_bd w3
  clear hA0 hval0
  simp only [List.append_nil] at hW'
  have hlt0 : ∀ x ∈ p0, x.block < W.heap.size := fun x hx => by simpa using hW'.lt x (by simp [hx])
  have hargs0 : ∀ (W' : World), Below W.heap.size W W' → DataW.Trod enc Try.prog W' 0 (fun b => decide (b < W.heap.size)) true 22 (.slice A0 l0.length c0) d0 p0 := fun W' hn => Below.trod laidOut (by kernel_rfl) (of_decide_eq_true (by kernel_rfl)) h0 hn hlt0
  have hlt1 : ∀ x ∈ p1, x.block < W.heap.size := fun x hx => by simpa using hW'.lt x (by simp [hx])
  have hargs1 : ∀ (W' : World), Below W.heap.size W W' → DataW.Trod enc Try.prog W' 0 (fun b => decide (b < W.heap.size)) true 22 (.slice A1 l1.length c1) d1 p1 := fun W' hn => Below.trod laidOut (by kernel_rfl) (of_decide_eq_true (by kernel_rfl)) h1 hn hlt1
  refine (walk W A0 l0 c0 hi0 hw0 hc0 hl0 A1 l1 c1 hi1 hw1 hc1 hl1 a2 a3 bd3.1 bd3.2).mono fun e W' ⟨he, hb⟩ => ?_
  subst he
  exact ⟨_, rfl, _, _, _, [], p0 ++ (p1 ++ ([])), [], hW', trodAll_mk1 (shut_bool Try.underlying4 _), (trodAll_cons_mk (hargs0 W' hb) (trodAll_cons_mk (hargs1 W' hb) (trodAll_cons_mk (shut_bool Try.underlying4 a2) (trodAll_cons_mk (shut_int Try.underlying3 w3) trodAll_mk0)))), rfl, hb.frame _, fun h => by cases h⟩

theorem said : Rows.PqueueMergesSaid :=
  OpenClaim.holds_of_cond 5 Try.f5 rfl rfl rfl rfl rfl rfl rfl ⟨rfl, rfl, rfl, rfl, rfl⟩ rfl rfl rfl rfl rfl (by kernel_rfl) Try.func5 (by kernel_rfl)
    (of_decide_eq_true (by kernel_rfl)) (by unfold Func.isWrapper; first | (rw [if_pos (by decide +kernel)]; kernel_rfl) | (rw [if_neg (by decide +kernel)]; exact ⟨rfl, rfl⟩))
    (fun os started H enc _ F => by rw [OpenClaim.pre_eq_preRow]; exact lifted os started H enc F)
#print axioms said
end Go.Proofs.Ytkbfpkejogdieaa.pqueueMerges
