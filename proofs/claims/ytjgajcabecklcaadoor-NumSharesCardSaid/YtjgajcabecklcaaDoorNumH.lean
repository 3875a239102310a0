/-
  The contracts of Parse, of package num and of its specification, at strings of at most 100 bytes. Condition: that length; Go's own tables and error values hold what the program's text lays.
-/
import Derived.Test.YtjgajcabecklcaaDoorNumG
namespace Go.Proofs.YtjgajcabecklcaaDoor
open Go.RowKit
set_option linter.unusedVariables false

/-- What Parse returns. -/
def parseS (s : List UInt8) (p : Int) : Int × Int := if p < 0 ∨ 6 < p then (0, 1) else if validB (valS s) = true ∧ fmtT (valS s) p.toNat = s then (valS s, 0) else (0, 3)
theorem parseS_yes (s : List UInt8) (p : Nat) (v : Int) (hp : p ≤ 6) (hv : validB v = true) (h : fmtT v p = s) : parseS s p = (v, 0) := by
  have e : valS s = v := by rw [← h, val_fmt]
  unfold parseS
  rw [if_neg (by omega), e, Int.toNat_natCast, if_pos ⟨hv, h⟩]
theorem parseS_no (s : List UInt8) (p : Nat) (hp : p ≤ 6) (h : ∀ v, validB v = true → fmtT v p = s → False) : parseS s p = (0, 3) := by
  unfold parseS
  rw [if_neg (by omega), Int.toNat_natCast, if_neg (fun hh => h _ hh.1 hh.2)]

theorem below_bytes (w : World) (e : TypeId) (t : ByteArray) : Below w.heap.size w (Lib.bytesWorld w e t) :=
  ⟨rfl, rfl, rfl, by rw [Lib.bytesWorld_size]; omega, fun k hk => Lib.bytesWorld_at_old w e t k hk⟩

theorem replace_len (s : List UInt8) : (Lib.replace s [46] [] 1).length ≤ s.length := by
  unfold Lib.replace
  rw [if_neg (by decide)]
  have h : Lib.replaceNum s [46] 1 = 0 ∨ Lib.replaceNum s [46] 1 = 1 := by
    unfold Lib.replaceNum
    split
    · omega
    · exact Or.inr rfl
  rcases h with h | h <;> rw [h]
  · exact Nat.le_refl _
  · unfold Lib.replaceK
    split
    · exact Nat.le_refl _
    · simp only [Lib.replaceK, List.append_nil, List.length_append, List.length_take, List.length_drop, List.length_cons, List.length_nil]
      omega

theorem atoi_bd {l : List UInt8} {v : Int} (h : Lib.atoiAll l = .ok v) : -9223372036854775808 ≤ v ∧ v ≤ 9223372036854775807 := by
  unfold Lib.atoiAll at h
  cases l with
  | nil => cases h
  | cons c r =>
    simp only at h
    generalize Lib.parseMag (if c.toNat = 43 ∨ c.toNat = 45 then r else c :: r) = x at h
    cases x
    · rename_i u
      simp only at h
      by_cases hn : c.toNat = 45
      · rw [if_neg (fun hh => hh.1 hn)] at h
        by_cases h2 : c.toNat = 45 ∧ 9223372036854775808 < u
        · rw [if_pos h2] at h; cases h
        · rw [if_neg h2, if_pos hn] at h
          cases h
          have : ¬ 9223372036854775808 < u := fun hh => h2 ⟨hn, hh⟩
          omega
      · by_cases h1 : ¬ c.toNat = 45 ∧ 9223372036854775808 ≤ u
        · rw [if_pos h1] at h; cases h
        · rw [if_neg h1, if_neg (fun hh => hn hh.1), if_neg hn] at h
          cases h
          have : ¬ 9223372036854775808 ≤ u := fun hh => h1 ⟨hn, hh⟩
          omega
    · cases h
    · cases h

theorem replace_any (s : ByteArray) (w : World) (hs : s.size ≤ 100) (f : Facts w) :
    Calls Tryd.prog 45 #[.string s, .string ⟨#[46]⟩, .string ⟨#[]⟩, .int .i64 1] w fun e w' => e = .returned (.string ⟨(Lib.replace s.data.toList [46] [] 1).toArray⟩) ∧ Below w.heap.size w w' := by
  obtain ⟨m, hm⟩ := f.max
  exact Tryd.strings_Replace s ⟨#[46]⟩ ⟨#[]⟩ 1 m w (by omega) hm (by decide) (by show s.size + _ * 0 ≤ _; omega)

theorem atoi_ok (s : ByteArray) (v : Int) (w : World) (hs : s.size ≤ 100) (h : Lib.atoiAll s.data.toList = .ok v) :
    Calls Tryd.prog 44 #[.string s] w fun e w' => e = .returned (.tuple #[.int .i64 v, .nilIface]) ∧ Below w.heap.size w w' :=
  (Tryd.strconv_Atoi_ok s (by omega) v h w).mono fun _ _ ⟨he, hw⟩ => ⟨he, by
    rcases hw with rfl | ⟨t, rfl⟩
    · exact Below.refl _ _
    · exact below_bytes _ _ _⟩
theorem atoi_err (s : ByteArray) (w : World) (hs : s.size ≤ 100) (f : Facts w) (h : ∀ v, Lib.atoiAll s.data.toList ≠ .ok v) :
    Calls Tryd.prog 44 #[.string s] w fun e w' => (∃ (x : Int) (N : Nat), e = .returned (.tuple #[.int .i64 x, .iface 90 (.pointer (some ⟨N, 0, none⟩))])) ∧ Below w.heap.size w w' := by
  cases hc : Lib.atoiAll s.data.toList
  · exact absurd hc (h _)
  · obtain ⟨tp, p, hv⟩ := f.syn
    exact (Any.strconv_Atoi_syntax Tryd.laysC172 s (by omega) hc _ w hv (Or.inr ⟨tp, p, rfl⟩)).mono fun _ _ ⟨N, he, _, _, hw⟩ => ⟨⟨_, N, he⟩, hw⟩
  · obtain ⟨tp, p, hv⟩ := f.rng
    exact (Any.strconv_Atoi_range Tryd.laysC172 s (by omega) hc _ w hv (Or.inr ⟨tp, p, rfl⟩)).mono fun _ _ ⟨N, he, _, _, hw⟩ => ⟨⟨_, N, he⟩, hw⟩

theorem toList_eq {a b : ByteArray} : (a.toList == b.toList) = decide (a.data.toList = b.data.toList) := by
  rw [Lib.toList_data, Lib.toList_data, Bool.eq_iff_iff]
  simp

set_option maxRecDepth 100000 in
set_option maxHeartbeats 1000000 in
theorem parse_any (s : ByteArray) (p : Int) (w : World) (hs : s.size ≤ 100) (h3 : -9223372036854775808 ≤ p) (h4 : p ≤ 9223372036854775807) (f : Facts w) :
    Calls Tryd.prog 33 #[.string s, .int .i64 p] w fun e w' => e = .returned (.tuple #[.int .i64 (parseS s.data.toList p).1, .int .i64 (parseS s.data.toList p).2]) ∧ Below w.heap.size w w' := by
  by_cases p1 : p < 0
  · rw [show parseS s.data.toList p = (0, 1) by unfold parseS; rw [if_pos (Or.inl p1)]]
    go_enter Tryd.func33, Tryd.ntmps33
    go_wp2_with fail
    go_ret2
    exact ⟨rfl, Below.refl _ _⟩
  by_cases p2 : 6 < p
  · rw [show parseS s.data.toList p = (0, 1) by unfold parseS; rw [if_pos (Or.inr p2)]]
    go_enter Tryd.func33, Tryd.ntmps33
    go_wp2_with fail
    go_ret2
    exact ⟨rfl, Below.refl _ _⟩
  obtain ⟨p, rfl⟩ : ∃ q : Nat, p = q := ⟨p.toNat, by omega⟩
  have hp : p ≤ 6 := by omega
  obtain ⟨R, hR⟩ : ∃ R : ByteArray, (⟨(Lib.replace s.data.toList [46] [] 1).toArray⟩ : ByteArray) = R := ⟨_, rfl⟩
  have hRep := fun w f => replace_any s w hs f
  rw [hR] at hRep
  have hRl : R.data.toList = Lib.replace s.data.toList [46] [] 1 := by rw [← hR]
  have hRs : R.size ≤ 100 := by
    rw [Lib.size_eq, hRl]
    have := replace_len s.data.toList
    rw [← Lib.size_eq] at this
    omega
  have HR := Lib.hid hRep
  have HRl := Lib.hid hRl
  clear hRep hR hRl
  -- a number whose text is s is what Atoi reads
  have hfit : ∀ v, validB v = true → fmtT v p = s.data.toList → Lib.atoiAll R.data.toList = .ok v := fun v hv he => by
    have := validB_true hv
    rw [HRl.out, ← he]
    exact atoi_fmt v p (by omega)
  have HF := Lib.hid hfit
  clear hfit
  by_cases hok : ∃ v, Lib.atoiAll R.data.toList = .ok v
  · obtain ⟨v, hv⟩ := hok
    have hbd := atoi_bd hv
    have HA : Hid (∀ w, Calls Tryd.prog 44 #[.string R] w fun e w' => e = .returned (.tuple #[.int .i64 v, .nilIface]) ∧ Below w.heap.size w w') := fun w => atoi_ok R v w hRs hv
    have HV := Lib.hid hv
    clear hv
    by_cases hval : validB v = true
    · have hfm : fmtS v p = (fmtT v p, 0) := by
        have : (0 : Int) ≤ p ∧ (p : Int) ≤ 6 := by omega
        simp [fmtS, hval, this]
      obtain ⟨T, hT⟩ : ∃ T : ByteArray, (⟨(fmtT v p).toArray⟩ : ByteArray) = T := ⟨_, rfl⟩
      have HT : Hid (T.data.toList = fmtT v p) := by unfold Hid; rw [← hT]
      have HFm : Hid (∀ w, Facts w → Calls Tryd.prog 31 #[.int .i64 v, .int .i64 p] w fun e w' => e = .returned (.tuple #[.string T, .int .i64 0]) ∧ Below w.heap.size w w') := fun w f => by
        have := format_any v p w (by omega) (by omega) (by omega) (by omega) f
        rw [hfm] at this
        rw [hT] at this
        exact this
      clear hT hfm
      by_cases hte : fmtT v p = s.data.toList
      · have hb : (T.toList == s.toList) = true := by rw [toList_eq, decide_eq_true]; exact HT.out.trans hte
        rw [parseS_yes _ _ _ hp hval hte]
        have HT2 := Lib.hid hte
        clear hte hval
        go_enter Tryd.func33, Tryd.ntmps33
        go_wp2_with fail
        refine (HR.out _ f).mono ?_
        rintro e w1 ⟨rfl, hb1⟩
        go_wp2_with fail
        refine (HA.out _).mono ?_
        rintro e w2 ⟨rfl, hb2⟩
        go_wp2_with fail
        refine (HFm.out _ ((f.below hb1).below hb2)).mono ?_
        rintro e w3 ⟨rfl, hb3⟩
        go_wp2
        go_ret2
        exact ⟨rfl, Below.step (Below.step hb1 hb2) hb3⟩
      · have hb : (T.toList == s.toList) = false := by rw [toList_eq, decide_eq_false]; exact fun h => hte (HT.out.symm.trans h)
        rw [show parseS s.data.toList p = (0, 3) from (parseS_no _ _ hp fun u hu he => by
          have e1 := (HF.out u hu he).symm.trans HV.out
          injection e1 with e2
          exact hte (e2 ▸ he))]
        clear hte hval
        go_enter Tryd.func33, Tryd.ntmps33
        go_wp2_with fail
        refine (HR.out _ f).mono ?_
        rintro e w1 ⟨rfl, hb1⟩
        go_wp2_with fail
        refine (HA.out _).mono ?_
        rintro e w2 ⟨rfl, hb2⟩
        go_wp2_with fail
        refine (HFm.out _ ((f.below hb1).below hb2)).mono ?_
        rintro e w3 ⟨rfl, hb3⟩
        go_wp2
        go_ret2
        exact ⟨rfl, Below.step (Below.step hb1 hb2) hb3⟩
    · have hfm : fmtS v p = ([], 1) := by simp [fmtS, hval]
      have HFm : Hid (∀ w, Facts w → Calls Tryd.prog 31 #[.int .i64 v, .int .i64 p] w fun e w' => e = .returned (.tuple #[.string ⟨#[]⟩, .int .i64 1]) ∧ Below w.heap.size w w') := fun w f => by
        have := format_any v p w (by omega) (by omega) (by omega) (by omega) f
        rw [hfm] at this
        exact this
      clear hfm
      · rw [show parseS s.data.toList p = (0, 3) from (parseS_no _ _ hp fun u hu he => by
          have e1 := (HF.out u hu he).symm.trans HV.out
          injection e1 with e2
          exact hval (e2 ▸ hu))]
        clear hval
        go_enter Tryd.func33, Tryd.ntmps33
        go_wp2_with fail
        refine (HR.out _ f).mono ?_
        rintro e w1 ⟨rfl, hb1⟩
        go_wp2_with fail
        refine (HA.out _).mono ?_
        rintro e w2 ⟨rfl, hb2⟩
        go_wp2_with fail
        refine (HFm.out _ ((f.below hb1).below hb2)).mono ?_
        rintro e w3 ⟨rfl, hb3⟩
        go_wp2
        go_ret2
        exact ⟨rfl, Below.step (Below.step hb1 hb2) hb3⟩
  · have HA : Hid (∀ w, Facts w → Calls Tryd.prog 44 #[.string R] w fun e w' => (∃ (x : Int) (N : Nat), e = .returned (.tuple #[.int .i64 x, .iface 90 (.pointer (some ⟨N, 0, none⟩))])) ∧ Below w.heap.size w w') := fun w f => atoi_err R w hRs f fun v h => hok ⟨v, h⟩
    rw [show parseS s.data.toList p = (0, 3) from parseS_no _ _ hp fun u hu he => hok ⟨u, HF.out u hu he⟩]
    clear hok
    go_enter Tryd.func33, Tryd.ntmps33
    go_wp2_with fail
    refine (HR.out _ f).mono ?_
    rintro e w1 ⟨rfl, hb1⟩
    go_wp2_with fail
    refine (HA.out _ (f.below hb1)).mono ?_
    rintro e w2 ⟨⟨x, N, rfl⟩, hb2⟩
    go_wp2
    go_ret2
    exact ⟨rfl, Below.step hb1 hb2⟩
end Go.Proofs.YtjgajcabecklcaaDoor
