/-
  The contract of the specification's Parse, at strings of at most 100 bytes. Condition: that length.
-/
import Derived.Test.YtjgajcabecklcaaDoorNumH
namespace Go.Proofs.YtjgajcabecklcaaDoor
open Go.RowKit
set_option linter.unusedVariables false

theorem byte_snoc (s : ByteArray) (k : Nat) (h : k < s.size) : s.data.toList.take (k + 1) = s.data.toList.take k ++ [s[k]] := by
  rw [List.take_succ_eq_append_getElem (by simpa using h)]; rfl
theorem val_snoc (l : List UInt8) (c : UInt8) : valN (l ++ [c]) = rd (valN l) c := by
  unfold valN
  rw [List.foldl_append]
  rfl
theorem val_lt (l : List UInt8) : ∀ k, valN (l.take k) < 10 ^ k
  | 0 => by simp [valN]
  | k + 1 => by
    by_cases h : k < l.length
    · have ih := val_lt l k
      rw [List.take_succ_eq_append_getElem h, val_snoc, Nat.pow_succ]
      unfold rd
      split <;> omega
    · have ih := val_lt l k
      rw [List.take_of_length_le (by omega)] at ih ⊢
      rw [Nat.pow_succ]
      omega

set_option maxRecDepth 100000 in
set_option maxHeartbeats 2000000 in
theorem refParse_any (s : ByteArray) (p : Int) (w : World) (hs : s.size ≤ 100) (h3 : -9223372036854775808 ≤ p) (h4 : p ≤ 9223372036854775807) :
    Calls Tryd.prog 34 #[.string s, .int .i64 p] w fun e w' => e = .returned (.tuple #[.int .i64 (parseS s.data.toList p).1, .int .i64 (parseS s.data.toList p).2]) ∧ Below w.heap.size w w' := by
  by_cases p1 : p < 0
  · rw [show parseS s.data.toList p = (0, 1) by unfold parseS; rw [if_pos (Or.inl p1)]]
    go_enter Tryd.func34, Tryd.ntmps34
    go_wp2_with fail
    go_ret2
    exact ⟨rfl, Below.refl _ _⟩
  by_cases p2 : 6 < p
  · rw [show parseS s.data.toList p = (0, 1) by unfold parseS; rw [if_pos (Or.inr p2)]]
    go_enter Tryd.func34, Tryd.ntmps34
    go_wp2_with fail
    go_ret2
    exact ⟨rfl, Below.refl _ _⟩
  obtain ⟨p, rfl⟩ : ∃ q : Nat, p = q := ⟨p.toNat, by omega⟩
  have hp : p ≤ 6 := by omega
  by_cases hl : 18 < s.size
  · have hlz : (18 : Int) < (s.size : Int) := by omega
    rw [show parseS s.data.toList p = (0, 3) from parseS_no s.data.toList p hp fun u hu he => by
      have := validB_true hu
      have hle := fmt_length u p (by omega) hp
      rw [he, ← Lib.size_eq] at hle
      omega]
    go_enter Tryd.func34, Tryd.ntmps34
    go_wp2_with fail
    go_ret2
    exact ⟨rfl, Below.refl _ _⟩
  have hlz : ¬ (18 : Int) < (s.size : Int) := by omega
  go_enter Tryd.func34, Tryd.ntmps34
  go_wp2_with fail
  go_loop [6, 7] (fun n i => ∃ k : Nat, k ≤ s.size ∧ i = .int .i64 (k : Int) ∧ n = .int .i64 (valN (s.data.toList.take k) : Int)) (fun _ i => s.size - (intOf i).toNat)
  case atStart => exact ⟨0, Nat.zero_le _, rfl, rfl⟩
  case round =>
    obtain ⟨k, hk, rfl, rfl⟩ := hrel
    have hb := val_lt s.data.toList k
    have hpw : 10 ^ k ≤ 10 ^ 18 := Nat.pow_le_pow_right (by decide) (by omega)
    have hpw2 : k < s.size → 10 ^ k ≤ 10 ^ 17 := fun h => Nat.pow_le_pow_right (by decide) (by omega)
    obtain ⟨n, hn⟩ : ∃ n, valN (s.data.toList.take k) = n := ⟨_, rfl⟩
    rw [hn] at hb ⊢
    have hb2 : n < 1000000000000000000 := Nat.lt_of_lt_of_le hb (Nat.le_trans hpw (by decide))
    have hb3 : (n : Int) < 1000000000000000000 := by omega
    have hn0 : (0 : Int) ≤ n := by omega
    clear hpw hb2
    by_cases hlt : k < s.size
    · have hb4 : (n : Int) < 100000000000000000 := by
        have := Nat.lt_of_lt_of_le hb (Nat.le_trans (hpw2 hlt) (show 10 ^ 17 ≤ 100000000000000000 by decide))
        omega
      clear hpw2 hb
      have hltz : (k : Int) < (s.size : Int) := by omega
      have hsn : valN (s.data.toList.take (k + 1)) = rd n s[k] := by rw [byte_snoc s k hlt, val_snoc, hn]
      have HS := Lib.hid hsn
      clear hsn hn
      obtain ⟨c, hc⟩ : ∃ c, s[k] = c := ⟨_, rfl⟩
      rw [hc] at HS
      have hcl : c.toNat < 256 := c.toNat_lt
      by_cases h1 : 48 ≤ c.toNat
      · have h1z : (48 : Int) ≤ (c.toNat : Int) := by omega
        by_cases h2 : c.toNat ≤ 57
        · have h2z : (c.toNat : Int) ≤ 57 := by omega
          clear h1 h2
          go_wp2
          go_round
          case rel => exact ⟨k + 1, by omega, by go_num, val_int' (by rw [HS.out]; unfold rd; rw [if_pos (by omega)]; omega)⟩
          case measure => simp only [intOf]; omega
        · have h2z : ¬ (c.toNat : Int) ≤ 57 := by omega
          go_wp2
          go_round
          case rel => exact ⟨k + 1, by omega, by go_num, val_int' (by rw [HS.out]; unfold rd; rw [if_neg (by omega)])⟩
          case measure => simp only [intOf]; omega
      · have h1z : ¬ (48 : Int) ≤ (c.toNat : Int) := by omega
        have h0 : True := trivial
        · go_wp2
          go_round
          case rel => exact ⟨k + 1, by omega, by go_num, val_int' (by rw [HS.out]; unfold rd; rw [if_neg (by omega)])⟩
          case measure => simp only [intOf]; omega
    · have hltz : ¬ (k : Int) < (s.size : Int) := by omega
      have htk : s.data.toList.take k = s.data.toList := List.take_of_length_le (by rw [← Lib.size_eq]; omega)
      rw [htk] at hn
      clear hpw2 hb htk
      have hL := Lib.size_eq s
      -- the number and its sign
      by_cases hz : s.size = 0
      · have hnil : s.data.toList = [] := List.eq_nil_of_length_eq_zero (by omega)
        rw [hnil] at hn
        have hn0 : n = 0 := hn.symm
        subst hn0
        have HV : Hid (valS s.data.toList = 0) := by unfold Hid; rw [hnil]; rfl
        have hz1 : ¬ (0 : Int) < (s.size : Int) := by omega
        clear hn hnil
        have hz2 : s.size ≤ 0 := by omega
        clear hz hL
        by_cases hval : validB (0) = true
        · have hfm : fmtS (0) p = (fmtT (0) p, 0) := by
            have : (0 : Int) ≤ p ∧ (p : Int) ≤ 6 := by omega
            simp [fmtS, hval, this]
          obtain ⟨T, hT⟩ : ∃ T : ByteArray, (⟨(fmtT (0) p).toArray⟩ : ByteArray) = T := ⟨_, rfl⟩
          have HT : Hid (T.data.toList = fmtT (0) p) := by unfold Hid; rw [← hT]
          have HFm : Hid (∀ w, Calls Tryd.prog 32 #[.int .i64 (0), .int .i64 p] w fun e w' => e = .returned (.tuple #[.string T, .int .i64 0]) ∧ Below w.heap.size w w') := fun w => by
            have := refFormat_any (0) p w (by omega) (by omega) (by omega) (by omega)
            rw [hfm] at this
            rw [hT] at this
            exact this
          clear hT hfm
          by_cases hte : fmtT (0) p = s.data.toList
          · have hb : (T.toList == s.toList) = true := by rw [toList_eq, decide_eq_true]; exact HT.out.trans hte
            have HP := Lib.hid (parseS_yes _ _ _ hp hval hte)
            clear hte hval
            go_wp2_with (go_at_call 32; refine (HFm.out _).mono ?_; rintro e w1 ⟨rfl, hb1⟩)
            go_ret2
            exact ⟨ret_pair (by rw [HP.out]) (by rw [HP.out]), hb1⟩
          · have hb : (T.toList == s.toList) = false := by rw [toList_eq, decide_eq_false]; exact fun h => hte (HT.out.symm.trans h)
            have HP := Lib.hid (parseS_no s.data.toList p hp fun u hu he => by
              have e1 : valS s.data.toList = u := by rw [← he, val_fmt]
              rw [HV.out] at e1
              exact hte (e1 ▸ he))
            clear hte hval
            go_wp2_with (go_at_call 32; refine (HFm.out _).mono ?_; rintro e w1 ⟨rfl, hb1⟩)
            go_ret2
            exact ⟨ret_pair (by rw [HP.out]) (by rw [HP.out]), hb1⟩
        · have hfm : fmtS (0) p = ([], 1) := by simp [fmtS, hval]
          have HFm : Hid (∀ w, Calls Tryd.prog 32 #[.int .i64 (0), .int .i64 p] w fun e w' => e = .returned (.tuple #[.string ⟨#[]⟩, .int .i64 1]) ∧ Below w.heap.size w w') := fun w => by
            have := refFormat_any (0) p w (by omega) (by omega) (by omega) (by omega)
            rw [hfm] at this
            exact this
          clear hfm
          have HP := Lib.hid (parseS_no s.data.toList p hp fun u hu he => by
            have e1 : valS s.data.toList = u := by rw [← he, val_fmt]
            rw [HV.out] at e1
            exact hval (e1 ▸ hu))
          clear hval
          go_wp2_with (go_at_call 32; refine (HFm.out _).mono ?_; rintro e w1 ⟨rfl, hb1⟩)
          go_ret2
          exact ⟨ret_pair (by rw [HP.out]) (by rw [HP.out]), hb1⟩
      · have hz' : 0 < s.size := by omega
        have hz0 : (0 : Int) < (s.size : Int) := by omega
        obtain ⟨c, hc⟩ : ∃ c, s[0] = c := ⟨_, rfl⟩
        have hh : s.data.toList.head? = some c := by
          rw [← hc, List.head?_eq_getElem?, List.getElem?_eq_getElem (by omega)]
          rfl
        have HHd := Lib.hid hh
        have HN := Lib.hid hn
        clear hn hh hz hL
        by_cases hneg : c = 45
        · have hcz : ((c.toNat : Int) == 45) = true := by rw [hneg]; decide
          have HV : Hid (valS s.data.toList = -(n : Int)) := by
            unfold Hid valS
            rw [HHd.out, hneg, if_pos rfl, HN.out]
          clear hneg
          by_cases hval : validB (-(n : Int)) = true
          · have hfm : fmtS (-(n : Int)) p = (fmtT (-(n : Int)) p, 0) := by
              have : (0 : Int) ≤ p ∧ (p : Int) ≤ 6 := by omega
              simp [fmtS, hval, this]
            obtain ⟨T, hT⟩ : ∃ T : ByteArray, (⟨(fmtT (-(n : Int)) p).toArray⟩ : ByteArray) = T := ⟨_, rfl⟩
            have HT : Hid (T.data.toList = fmtT (-(n : Int)) p) := by unfold Hid; rw [← hT]
            have HFm : Hid (∀ w, Calls Tryd.prog 32 #[.int .i64 (-(n : Int)), .int .i64 p] w fun e w' => e = .returned (.tuple #[.string T, .int .i64 0]) ∧ Below w.heap.size w w') := fun w => by
              have := refFormat_any (-(n : Int)) p w (by omega) (by omega) (by omega) (by omega)
              rw [hfm] at this
              rw [hT] at this
              exact this
            clear hT hfm
            by_cases hte : fmtT (-(n : Int)) p = s.data.toList
            · have hb : (T.toList == s.toList) = true := by rw [toList_eq, decide_eq_true]; exact HT.out.trans hte
              have HP := Lib.hid (parseS_yes _ _ _ hp hval hte)
              clear hte hval
              go_wp2_with (go_at_call 32; refine (HFm.out _).mono ?_; rintro e w1 ⟨rfl, hb1⟩)
              go_ret2
              exact ⟨ret_pair (by rw [HP.out]) (by rw [HP.out]), hb1⟩
            · have hb : (T.toList == s.toList) = false := by rw [toList_eq, decide_eq_false]; exact fun h => hte (HT.out.symm.trans h)
              have HP := Lib.hid (parseS_no s.data.toList p hp fun u hu he => by
                have e1 : valS s.data.toList = u := by rw [← he, val_fmt]
                rw [HV.out] at e1
                exact hte (e1 ▸ he))
              clear hte hval
              go_wp2_with (go_at_call 32; refine (HFm.out _).mono ?_; rintro e w1 ⟨rfl, hb1⟩)
              go_ret2
              exact ⟨ret_pair (by rw [HP.out]) (by rw [HP.out]), hb1⟩
          · have hfm : fmtS (-(n : Int)) p = ([], 1) := by simp [fmtS, hval]
            have HFm : Hid (∀ w, Calls Tryd.prog 32 #[.int .i64 (-(n : Int)), .int .i64 p] w fun e w' => e = .returned (.tuple #[.string ⟨#[]⟩, .int .i64 1]) ∧ Below w.heap.size w w') := fun w => by
              have := refFormat_any (-(n : Int)) p w (by omega) (by omega) (by omega) (by omega)
              rw [hfm] at this
              exact this
            clear hfm
            have HP := Lib.hid (parseS_no s.data.toList p hp fun u hu he => by
              have e1 : valS s.data.toList = u := by rw [← he, val_fmt]
              rw [HV.out] at e1
              exact hval (e1 ▸ hu))
            clear hval
            go_wp2_with (go_at_call 32; refine (HFm.out _).mono ?_; rintro e w1 ⟨rfl, hb1⟩)
            go_ret2
            exact ⟨ret_pair (by rw [HP.out]) (by rw [HP.out]), hb1⟩
        · have hcz : ((c.toNat : Int) == 45) = false := by
            rw [beq_eq_false_iff_ne]
            intro h
            exact hneg (UInt8.toNat_inj.1 (by show c.toNat = 45; omega))
          have HV : Hid (valS s.data.toList = (n : Int)) := by
            unfold Hid valS
            rw [HHd.out, if_neg (fun h => hneg (Option.some.inj h)), HN.out]
          clear hneg
          by_cases hval : validB ((n : Int)) = true
          · have hfm : fmtS ((n : Int)) p = (fmtT ((n : Int)) p, 0) := by
              have : (0 : Int) ≤ p ∧ (p : Int) ≤ 6 := by omega
              simp [fmtS, hval, this]
            obtain ⟨T, hT⟩ : ∃ T : ByteArray, (⟨(fmtT ((n : Int)) p).toArray⟩ : ByteArray) = T := ⟨_, rfl⟩
            have HT : Hid (T.data.toList = fmtT ((n : Int)) p) := by unfold Hid; rw [← hT]
            have HFm : Hid (∀ w, Calls Tryd.prog 32 #[.int .i64 ((n : Int)), .int .i64 p] w fun e w' => e = .returned (.tuple #[.string T, .int .i64 0]) ∧ Below w.heap.size w w') := fun w => by
              have := refFormat_any ((n : Int)) p w (by omega) (by omega) (by omega) (by omega)
              rw [hfm] at this
              rw [hT] at this
              exact this
            clear hT hfm
            by_cases hte : fmtT ((n : Int)) p = s.data.toList
            · have hb : (T.toList == s.toList) = true := by rw [toList_eq, decide_eq_true]; exact HT.out.trans hte
              have HP := Lib.hid (parseS_yes _ _ _ hp hval hte)
              clear hte hval
              go_wp2_with (go_at_call 32; refine (HFm.out _).mono ?_; rintro e w1 ⟨rfl, hb1⟩)
              go_ret2
              exact ⟨ret_pair (by rw [HP.out]) (by rw [HP.out]), hb1⟩
            · have hb : (T.toList == s.toList) = false := by rw [toList_eq, decide_eq_false]; exact fun h => hte (HT.out.symm.trans h)
              have HP := Lib.hid (parseS_no s.data.toList p hp fun u hu he => by
                have e1 : valS s.data.toList = u := by rw [← he, val_fmt]
                rw [HV.out] at e1
                exact hte (e1 ▸ he))
              clear hte hval
              go_wp2_with (go_at_call 32; refine (HFm.out _).mono ?_; rintro e w1 ⟨rfl, hb1⟩)
              go_ret2
              exact ⟨ret_pair (by rw [HP.out]) (by rw [HP.out]), hb1⟩
          · have hfm : fmtS ((n : Int)) p = ([], 1) := by simp [fmtS, hval]
            have HFm : Hid (∀ w, Calls Tryd.prog 32 #[.int .i64 ((n : Int)), .int .i64 p] w fun e w' => e = .returned (.tuple #[.string ⟨#[]⟩, .int .i64 1]) ∧ Below w.heap.size w w') := fun w => by
              have := refFormat_any ((n : Int)) p w (by omega) (by omega) (by omega) (by omega)
              rw [hfm] at this
              exact this
            clear hfm
            have HP := Lib.hid (parseS_no s.data.toList p hp fun u hu he => by
              have e1 : valS s.data.toList = u := by rw [← he, val_fmt]
              rw [HV.out] at e1
              exact hval (e1 ▸ hu))
            clear hval
            go_wp2_with (go_at_call 32; refine (HFm.out _).mono ?_; rintro e w1 ⟨rfl, hb1⟩)
            go_ret2
            exact ⟨ret_pair (by rw [HP.out]) (by rw [HP.out]), hb1⟩
end Go.Proofs.YtjgajcabecklcaaDoor
