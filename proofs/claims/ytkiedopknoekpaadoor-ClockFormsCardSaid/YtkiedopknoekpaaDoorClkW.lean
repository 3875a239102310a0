/-
  The contract of Parse of package clock. Condition: strings of at most 100 bytes; Go's own tables and error values hold what the program's text lays.
-/
import Derived.Test.YtkiedopknoekpaaDoorClkV
import Derived.Test.YtkiedopknoekpaaDoorShelf
namespace Go.Proofs.YtkiedopknoekpaaDoor
open Go.RowKit
set_option linter.unusedVariables false

theorem below_bytes (w : World) (e : TypeId) (t : ByteArray) : Below w.heap.size w (Lib.bytesWorld w e t) :=
  ⟨rfl, rfl, rfl, by rw [Lib.bytesWorld_size]; omega, fun k hk => Lib.bytesWorld_at_old w e t k hk⟩
theorem atoi_bd {l : List UInt8} {v : Int} (h : Lib.atoiAll l = .ok v) : -9223372036854775808 ≤ v ∧ v ≤ 9223372036854775807 := by
  unfold Lib.atoiAll at h
  cases l with
  | nil => cases h
  | cons c r =>
    simp only at h
    generalize Lib.parseMag (if c.toNat = 43 ∨ c.toNat = 45 then r else c :: r) = x at h
    cases x
    · rename_i u
      simp only at h
      by_cases hn : c.toNat = 45
      · rw [if_neg (fun hh => hh.1 hn)] at h
        by_cases h2 : c.toNat = 45 ∧ 9223372036854775808 < u
        · rw [if_pos h2] at h; cases h
        · rw [if_neg h2, if_pos hn] at h
          cases h
          have : ¬ 9223372036854775808 < u := fun hh => h2 ⟨hn, hh⟩
          omega
      · by_cases h1 : ¬ c.toNat = 45 ∧ 9223372036854775808 ≤ u
        · rw [if_pos h1] at h; cases h
        · rw [if_neg h1, if_neg (fun hh => hn hh.1), if_neg hn] at h
          cases h
          have : ¬ 9223372036854775808 ≤ u := fun hh => h1 ⟨hn, hh⟩
          omega
    · cases h
    · cases h
theorem atoi_ok (s : ByteArray) (v : Int) (w : World) (hs : s.size ≤ 100) (h : Lib.atoiAll s.data.toList = .ok v) :
    Calls Tryd.prog 48 #[.string s] w fun e w' => e = .returned (.tuple #[.int .i64 v, .nilIface]) ∧ Below w.heap.size w w' :=
  (Tryd.strconv_Atoi_ok s (by omega) v h w).mono fun _ _ ⟨he, hw⟩ => ⟨he, by
    rcases hw with rfl | ⟨t, rfl⟩
    · exact Below.refl _ _
    · exact below_bytes _ _ _⟩
theorem atoi_err (s : ByteArray) (w : World) (hs : s.size ≤ 100) (f : Facts w) (h : ∀ v, Lib.atoiAll s.data.toList ≠ .ok v) :
    Calls Tryd.prog 48 #[.string s] w fun e w' => (∃ (x : Int) (N : Nat), e = .returned (.tuple #[.int .i64 x, .iface 71 (.pointer (some ⟨N, 0, none⟩))])) ∧ Below w.heap.size w w' := by
  cases hc : Lib.atoiAll s.data.toList
  · exact absurd hc (h _)
  · obtain ⟨tp, p, hv⟩ := f.syn
    exact (Any.strconv_Atoi_syntax Tryd.laysC172 s (by omega) hc _ w hv (Or.inr ⟨tp, p, rfl⟩)).mono fun _ _ ⟨N, he, _, _, hw⟩ => ⟨⟨_, N, he⟩, hw⟩
  · obtain ⟨tp, p, hv⟩ := f.rng
    exact (Any.strconv_Atoi_range Tryd.laysC172 s (by omega) hc _ w hv (Or.inr ⟨tp, p, rfl⟩)).mono fun _ _ ⟨N, he, _, _, hw⟩ => ⟨⟨_, N, he⟩, hw⟩
theorem toList_eq {a b : ByteArray} : (a.toList == b.toList) = decide (a.data.toList = b.data.toList) := by
  rw [Lib.toList_data, Lib.toList_data, Bool.eq_iff_iff]
  simp
theorem cut_any (s : ByteArray) (c : UInt8) (A B : List UInt8) (b : Bool) (w : World) (hs : s.size ≤ 100) (f : Facts w) (h : Lib.cut s.data.toList [c] = (A, B, b)) :
    Calls Tryd.prog 47 #[.string s, .string ⟨#[c]⟩] w fun e w' => e = .returned (.tuple #[.string (strOf A), .string (strOf B), .bool b]) ∧ ∃ n, w' = w.drewN n := by
  obtain ⟨m, hm⟩ := f.max
  have := Any.strings_Cut { Tryd.laysM145 with } s ⟨#[c]⟩ m w (by omega) hm
  have e : (⟨#[c]⟩ : ByteArray).data.toList = [c] := rfl
  rw [e, h] at this
  exact this
theorem cut_sizes (l : List UInt8) (c : UInt8) (h : l.length ≤ 100) : (Lib.cut l [c]).1.length ≤ 100 ∧ (Lib.cut l [c]).2.1.length ≤ 100 := by
  unfold Lib.cut
  split
  · simp only [List.length_take, List.length_drop]
    omega
  · simp only [List.length_nil]
    omega

/-- The four parts of a text, and what each counts. -/
def secs (k : Nat) : Int := if k = 0 then 86400 else if k = 1 then 3600 else if k = 2 then 60 else 1
theorem secs_bd (k : Nat) : 1 ≤ secs k ∧ secs k ≤ 86400 := by
  unfold secs
  split
  · omega
  · split
    · omega
    · split <;> omega
def tot (n : Nat → Nat) : Nat → Int
  | 0 => 0
  | k + 1 => tot n k + (n k : Int) * secs k

theorem drew_facts {w : World} (f : Facts w) (n : Nat) : Facts (w.drewN n) := f.below (below_drewN' w n)

/-- What a part of the string is: its number, if that may be one. -/
def partB (s : ByteArray) (n : Nat) : Prop := Lib.atoiAll s.data.toList = .ok (n : Int) ∧ n ≤ 49709
theorem part_any (s : ByteArray) (hs : s.size ≤ 100) : (∃ n, partB s n) ∨ (∃ v : Int, Lib.atoiAll s.data.toList = .ok v ∧ (v < 0 ∨ 49709 < v)) ∨ ∀ v, Lib.atoiAll s.data.toList ≠ .ok v := by
  by_cases h : ∃ v, Lib.atoiAll s.data.toList = .ok v
  · obtain ⟨v, hv⟩ := h
    by_cases h2 : v < 0 ∨ 49709 < v
    · exact Or.inr (Or.inl ⟨v, hv, h2⟩)
    · exact Or.inl ⟨v.toNat, by rw [hv]; congr 1; omega, by omega⟩
  · exact Or.inr (Or.inr fun v hv => h ⟨v, hv⟩)

/-- The way of Parse with these parts: r is what Text makes of the sum. -/
def GoesOn (s : ByteArray) (p : Nat → ByteArray) (R : Int × Int) : Prop :=
  (∀ n : Nat → Nat, (∀ k, k < 4 → partB (p k) (n k)) → ∃ T E, textS (tot n 4) = (T, E) ∧ ((E = 0 ∧ T = s ∧ R = (tot n 4, 0)) ∨ ((E ≠ 0 ∨ (T.toList == s.toList) = false) ∧ R = (0, 3)))) ∧
  ((∃ k, k < 4 ∧ ∀ n, ¬ partB (p k) n) → R = (0, 3))

theorem tot_bd (n : Nat → Nat) (k : Nat) (h : ∀ j, j < k → n j ≤ 49709) : 0 ≤ tot n k ∧ tot n k ≤ k * 4294857600 := by
  induction k with
  | zero => simp [tot]
  | succ k ih =>
    have i1 := ih fun j hj => h j (by omega)
    have hs := secs_bd k
    have hn := h k (by omega)
    have m1 : (n k : Int) * secs k ≤ 49709 * 86400 := by
      refine Int.mul_le_mul (by omega) hs.2 (by omega) (by omega)
    have m0 : 0 ≤ (n k : Int) * secs k := Int.mul_nonneg (by omega) (by omega)
    simp only [tot]
    push_cast
    omega

theorem nth4 (p : Nat → ByteArray) (k : Nat) (h : k < 4) : (#[Value.string (p 0), .string (p 1), .string (p 2), .string (p 3)] : Array Value)[k]? = some (.string (p k)) := by
  match k, h with
  | 0, _ => rfl
  | 1, _ => rfl
  | 2, _ => rfl
  | 3, _ => rfl

theorem idx4 (cs : Array Value) (k : Nat) (hk : k < 4) (v : ByteArray) (h : cs[k]? = some (.string v)) (w : World) : (Instr.index 51 (.agg cs) (.int .i64 (k : Int))).run Tryd.prog w = .ok (.string v) w := by
  have hn : (0 : Int) ≤ (k : Int) ∧ (k : Int) < 4 := by omega
  have hs : (Go.sizeOf 9).run Tryd.prog w = .ok 1 w := Tryd.sizeOf9 w
  simp [Instr.index, run_underlying Tryd.underlying51, asIntOf, hn, hs, part, h]
  intro h4
  omega
theorem tot_congr (n m : Nat → Nat) (k : Nat) (h : ∀ j, j < k → n j = m j) : tot n k = tot m k := by
  induction k with
  | zero => rfl
  | succ k ih => rw [tot, tot, ih fun j hj => h j (by omega), h k (by omega)]

set_option maxRecDepth 100000 in
set_option maxHeartbeats 4000000 in
theorem parse_walk (s r0 r1 : ByteArray) (p : Nat → ByteArray) (R1 R2 : Int) (w : World) (hp : ∀ k, k < 4 → (p k).size ≤ 100) (f : Facts w)
    (C1 : ∀ w, Facts w → ∃ b, Calls Tryd.prog 47 #[.string s, .string ⟨#[32]⟩] w fun e w' => e = .returned (.tuple #[.string (p 0), .string r0, .bool b]) ∧ ∃ n, w' = w.drewN n)
    (C2 : ∀ w, Facts w → ∃ b, Calls Tryd.prog 47 #[.string r0, .string ⟨#[58]⟩] w fun e w' => e = .returned (.tuple #[.string (p 1), .string r1, .bool b]) ∧ ∃ n, w' = w.drewN n)
    (C3 : ∀ w, Facts w → ∃ b, Calls Tryd.prog 47 #[.string r1, .string ⟨#[58]⟩] w fun e w' => e = .returned (.tuple #[.string (p 2), .string (p 3), .bool b]) ∧ ∃ n, w' = w.drewN n)
    (G : GoesOn s p (R1, R2)) :
    Calls Tryd.prog 32 #[.string s] w fun e w' => e = .returned (.tuple #[.int .i64 R1, .int .i64 R2]) ∧ Below w.heap.size w w' := by
  have H1 := Lib.hid C1
  have H2 := Lib.hid C2
  have H3 := Lib.hid C3
  have HG := Lib.hid G
  have HP := Lib.hid hp
  obtain ⟨p0, h0⟩ : ∃ x, p 0 = x := ⟨_, rfl⟩
  obtain ⟨p1, h1⟩ : ∃ x, p 1 = x := ⟨_, rfl⟩
  obtain ⟨p2, h2⟩ : ∃ x, p 2 = x := ⟨_, rfl⟩
  obtain ⟨p3, h3⟩ : ∃ x, p 3 = x := ⟨_, rfl⟩
  have hn := nth4 p
  rw [h0] at H1 hn
  rw [h1] at H2 hn
  rw [h2] at H3 hn
  rw [h3] at H3 hn
  have HN := Lib.hid hn
  clear C1 C2 C3 G hp h0 h1 h2 h3 hn
  go_enter Tryd.func32, Tryd.ntmps32
  go_wp2_with fail
  obtain ⟨b1, D1⟩ := H1.out _ f
  refine D1.mono ?_
  rintro e w1 ⟨rfl, n1, hw1⟩
  have hb1 : Below w.heap.size w w1 := by rw [hw1]; exact below_drewN' _ _
  clear D1 H1 hw1
  go_wp2_with fail
  obtain ⟨b2, D2⟩ := H2.out _ (f.below hb1)
  refine D2.mono ?_
  rintro e w2 ⟨rfl, n2, hw2⟩
  have hb2 : Below w.heap.size w w2 := Below.step hb1 (by rw [hw2]; exact below_drewN' _ _)
  clear D2 H2 hw2 hb1
  go_wp2_with fail
  obtain ⟨b3, D3⟩ := H3.out _ (f.below hb2)
  refine D3.mono ?_
  rintro e w3 ⟨rfl, n3, hw3⟩
  have hb3 : Below w.heap.size w w3 := Below.step hb2 (by rw [hw3]; exact below_drewN' _ _)
  clear D3 H3 hw3 hb2
  go_wp2_with fail
  have hb4 : Below w.heap.size w ((w3.alloc (.cells #[.string p0, .string p1, .string p2, .string p3] 51)).alloc (.cells #[.int .i64 86400, .int .i64 3600, .int .i64 60, .int .i64 1] 52)) :=
    (hb3.alloc hb3.size _).alloc (by have := hb3.size; simp; omega) _
  have hcell : ∀ k, k < 4 → ((w3.alloc (.cells #[.string p0, .string p1, .string p2, .string p3] 51)).alloc (.cells #[.int .i64 86400, .int .i64 3600, .int .i64 60, .int .i64 1] 52)).cell? ⟨w3.heap.size + 1, k, none⟩ = some (.int .i64 (secs k)) := fun k hk => by
    have e : w3.heap.size + 1 = (w3.alloc (.cells #[.string p0, .string p1, .string p2, .string p3] 51)).heap.size := by simp
    rw [e, World.cell?_alloc_new]
    match k, hk with
    | 0, _ => rfl
    | 1, _ => rfl
    | 2, _ => rfl
    | 3, _ => rfl
  have hlt4 : w3.heap.size + 1 < ((w3.alloc (.cells #[.string p0, .string p1, .string p2, .string p3] 51)).alloc (.cells #[.int .i64 86400, .int .i64 3600, .int .i64 60, .int .i64 1] 52)).heap.size := by simp
  generalize (w3.alloc (.cells #[.string p0, .string p1, .string p2, .string p3] 51)).alloc (.cells #[.int .i64 86400, .int .i64 3600, .int .i64 60, .int .i64 1] 52) = w4 at hb4 hcell hlt4 ⊢
  have HC := Lib.hid hcell
  clear hcell hb3
  generalize w3.heap.size + 1 = g at HC hlt4 ⊢
  go_loopw [14, 46] (fun vt vi wr => ∃ (k : Nat) (n : Nat → Nat), vi = .int .i64 (k : Int) ∧ vt = .int .i64 (tot n k) ∧ k ≤ 4 ∧ Hid (∀ j, j < k → partB (p j) (n j)) ∧ Below w4.heap.size w4 wr) (fun _ vi _ => 4 - (intOf vi).toNat)
  case atStart => exact ⟨0, fun _ => 0, rfl, rfl, by omega, Lib.hid (fun j hj => absurd hj (Nat.not_lt_zero j)), Below.refl _ _⟩
  case round =>
    obtain ⟨k, n, rfl, rfl, hk, hpt, hB⟩ := hrel
    have hbd := tot_bd n k (fun j hj => (hpt.out j hj).2)
    obtain ⟨T, hT⟩ : ∃ T, tot n k = T := ⟨_, rfl⟩
    rw [hT] at hbd ⊢
    have HT := Lib.hid hT
    clear hT
    have hB0 : Below w.heap.size w wr := hb4.trans (hB.mono hb4.size)
    by_cases hlt : k < 4
    · have zk : (k : Int) < 4 := by omega
      have hnk := idx4 _ k hlt _ (HN.out k hlt)
      have hc := HC.out k hlt
      have hsb := secs_bd k
      have hkp := HP.out k hlt
      obtain ⟨sk, hsk⟩ : ∃ x, secs k = x := ⟨_, rfl⟩
      rw [hsk] at hc hsb
      have HSK := Lib.hid hsk
      have hbd2 : T ≤ 4 * 4294857600 := by omega
      have hbd0 : 0 ≤ T := hbd.1
      clear hsk hbd hk
      rcases part_any (p k) hkp with ⟨v, hv⟩ | ⟨v, hv, hv2⟩ | hv
      · have hA := fun w => atoi_ok (p k) v w hkp hv.1
        have hvb : v ≤ 49709 := hv.2
        have HA := Lib.hid hA
        have HPT : Hid (∀ j, j < k + 1 → partB (p j) ((fun j => if j = k then v else n j) j)) := Lib.hid fun j hj => by
          by_cases c : j = k
          · rw [c]; simpa using hv
          · simp only [if_neg c]; exact hpt.out j (by omega)
        have HTT : Hid (tot (fun j => if j = k then v else n j) (k + 1) = T + (v : Int) * sk) := Lib.hid (by
          rw [tot, tot_congr (fun j => if j = k then v else n j) n k (fun j hj => by simp [show j ≠ k by omega]), HT.out, HSK.out]
          simp)
        generalize (fun j => if j = k then v else n j) = n2 at HPT HTT
        have m1 : (v : Int) * sk ≤ 49709 * 86400 := Int.mul_le_mul (by omega) hsb.2 (by omega) (by omega)
        have m0 : 0 ≤ (v : Int) * sk := Int.mul_nonneg (by omega) (by omega)
        generalize p k = pk at hnk HA
        clear hA hv hkp hpt
        go_wp2_with fail
        refine (HA.out _).mono ?_
        rintro e w5 ⟨rfl, hb5⟩
        have hB5 : Below w4.heap.size w4 w5 := Below.step hB hb5
        have hc5 : w5.cell? ⟨g, k, none⟩ = some (.int .i64 sk) := by rw [hB5.cell (p := ⟨g, k, none⟩) hlt4]; exact hc
        clear hb5 hc hB hB0 HA
        go_wp2_with fail
        go_roundw
        case rel => exact ⟨k + 1, n2, by go_num, val_int' HTT.out.symm, by omega, HPT, hB5⟩
        case measure => simp only [intOf]; omega
      · have hvb := atoi_bd hv
        have hA := fun w => atoi_ok (p k) v w hkp hv
        have hR : (R1, R2) = (0, 3) := HG.out.2 ⟨k, hlt, fun m hm => by
          have e := hm.1
          rw [hv] at e
          injection e with e
          have := hm.2
          omega⟩
        have hR1 : R1 = 0 := by injection hR
        have hR2 : R2 = 3 := by injection hR
        subst hR1 hR2
        have HA := Lib.hid hA
        generalize p k = pk at hnk HA
        clear hA hv hkp hpt hR HG
        by_cases hv0 : v < 0
        · go_wp2_with fail
          refine (HA.out _).mono ?_
          rintro e w5 ⟨rfl, hb5⟩
          go_wp2_with fail
          go_ret2
          exact ⟨rfl, Below.step hB0 hb5⟩
        · have hv1 : 49709 < v := by omega
          go_wp2_with fail
          refine (HA.out _).mono ?_
          rintro e w5 ⟨rfl, hb5⟩
          go_wp2_with fail
          go_ret2
          exact ⟨rfl, Below.step hB0 hb5⟩
      · have hA := fun w f => atoi_err (p k) w hkp f hv
        have hR : (R1, R2) = (0, 3) := HG.out.2 ⟨k, hlt, fun m hm => hv _ hm.1⟩
        have hR1 : R1 = 0 := by injection hR
        have hR2 : R2 = 3 := by injection hR
        subst hR1 hR2
        have HA := Lib.hid hA
        generalize p k = pk at hnk HA
        clear hA hv hkp hpt hR HG
        go_wp2_with fail
        refine (HA.out _ (f.below hB0)).mono ?_
        rintro e w5 ⟨⟨x, N, rfl⟩, hb5⟩
        go_wp2_with fail
        go_ret2
        exact ⟨rfl, Below.step hB0 hb5⟩
    · have zk : ¬ (k : Int) < 4 := by omega
      obtain rfl : k = 4 := by omega
      obtain ⟨Tt, E, hte, hcase⟩ := HG.out.1 n hpt.out
      have hx := fun w f => text_any T w (by omega) (by omega) f
      rw [HT.out] at hte hcase
      simp only [hte] at hx
      have HX := Lib.hid hx
      clear hx hte HG hpt HT HN HC HP hk
      rcases hcase with ⟨rfl, rfl, hR⟩ | ⟨hE, hR⟩
      · have hR1 : R1 = T := by injection hR
        have hR2 : R2 = 0 := by injection hR
        subst hR1 hR2
        have hss : (Tt.toList == Tt.toList) = true := by simp
        clear hR
        go_wp2_with fail
        refine (HX.out _ (f.below hB0)).mono ?_
        rintro e w5 ⟨rfl, hb5⟩
        go_wp2_with fail
        go_ret2
        exact ⟨rfl, Below.step hB0 hb5⟩
      · have hR1 : R1 = 0 := by injection hR
        have hR2 : R2 = 3 := by injection hR
        subst hR1 hR2
        clear hR
        by_cases hE0 : E = 0
        · subst hE0
          have hss : (Tt.toList == s.toList) = false := by
            rcases hE with h | h
            · exact absurd rfl h
            · exact h
          clear hE
          go_wp2_with fail
          refine (HX.out _ (f.below hB0)).mono ?_
          rintro e w5 ⟨rfl, hb5⟩
          go_wp2_with fail
          go_ret2
          exact ⟨rfl, Below.step hB0 hb5⟩
        · have hEb : (E == 0) = false := beq_eq_false_iff_ne.2 hE0
          clear hE
          go_wp2_with fail
          refine (HX.out _ (f.below hB0)).mono ?_
          rintro e w5 ⟨rfl, hb5⟩
          go_wp2_with fail
          go_ret2
          exact ⟨rfl, Below.step hB0 hb5⟩

/-- What Parse returns at a string. -/
def Pars (s : ByteArray) (R : Int × Int) : Prop := (∃ t : Nat, t ≤ 4294943999 ∧ s = strOf (momT t) ∧ R = ((t : Int), 0)) ∨ ((∀ t : Nat, t ≤ 4294943999 → s ≠ strOf (momT t)) ∧ R = (0, 3))
theorem pars_ex (s : ByteArray) : ∃ R, Pars s R := by
  by_cases h : ∃ t : Nat, t ≤ 4294943999 ∧ s = strOf (momT t)
  · obtain ⟨t, h1, h2⟩ := h
    exact ⟨_, Or.inl ⟨t, h1, h2, rfl⟩⟩
  · exact ⟨_, Or.inr ⟨fun t h1 h2 => h ⟨t, h1, h2⟩, rfl⟩⟩
theorem tot4 (t : Nat) (n : Nat → Nat) (h0 : n 0 = t / 86400) (h1 : n 1 = t % 86400 / 3600) (h2 : n 2 = t % 86400 % 3600 / 60) (h3 : n 3 = t % 60) : tot n 4 = t := by
  simp only [tot, h0, h1, h2, h3]
  simp only [secs]
  simp
  omega
theorem partB_inj {s : ByteArray} {n m : Nat} (h : partB s n) (h' : partB s m) : n = m := by
  have := h.1.symm.trans h'.1
  injection this with this
  omega

theorem parse_any (s : ByteArray) (R : Int × Int) (w : World) (hs : s.size ≤ 100) (f : Facts w) (hR : Pars s R) :
    Calls Tryd.prog 32 #[.string s] w fun e w' => e = .returned (.tuple #[.int .i64 R.1, .int .i64 R.2]) ∧ Below w.heap.size w w' := by
  have hl : s.data.toList.length ≤ 100 := by rw [← Lib.size_eq]; exact hs
  rcases hR with ⟨t, ht, rfl, rfl⟩ | ⟨hno, rfl⟩
  · -- the text of a moment
    have z0 : (Lib.decDigits (t / 86400)).length ≤ 5 := (day_len _ (by omega)).2
    refine parse_walk (strOf (momT t)) (strOf (restT t)) (strOf (dgs (t % 86400 % 3600 / 60) 2 ++ 58 :: dgs (t % 60) 2))
      (fun k => if k = 0 then strOf (Lib.decDigits (t / 86400)) else if k = 1 then strOf (dgs (t % 86400 / 3600) 2) else if k = 2 then strOf (dgs (t % 86400 % 3600 / 60) 2) else strOf (dgs (t % 60) 2)) t 0 w ?_ f ?_ ?_ ?_ ⟨?_, ?_⟩
    · intro k hk
      split
      · rw [strOf_size]; omega
      · split
        · rw [strOf_size, dgs_length]; omega
        · split
          · rw [strOf_size, dgs_length]; omega
          · rw [strOf_size, dgs_length]; omega
    · intro w f
      exact ⟨true, cut_any _ 32 _ _ _ w hs f (by rw [strOf_data]; exact cut_day t)⟩
    · intro w f
      exact ⟨true, cut_any _ 58 _ _ _ w (by rw [strOf_size, rest_len]; omega) f (by rw [strOf_data]; exact cut_hour t)⟩
    · intro w f
      exact ⟨true, cut_any _ 58 _ _ _ w (by rw [strOf_size]; simp [dgs_length]) f (by rw [strOf_data]; exact cut_minute t)⟩
    · intro n hn
      have p0 := hn 0 (by omega)
      have p1 := hn 1 (by omega)
      have p2 := hn 2 (by omega)
      have p3 := hn 3 (by omega)
      have q0 : partB (strOf (Lib.decDigits (t / 86400))) (t / 86400) := ⟨by rw [strOf_data]; exact atoi_day _ (by omega), by omega⟩
      have q1 : partB (strOf (dgs (t % 86400 / 3600) 2)) (t % 86400 / 3600) := ⟨by rw [strOf_data]; exact atoi_dgs _ 2 (by omega) (by omega) (by omega), by omega⟩
      have q2 : partB (strOf (dgs (t % 86400 % 3600 / 60) 2)) (t % 86400 % 3600 / 60) := ⟨by rw [strOf_data]; exact atoi_dgs _ 2 (by omega) (by omega) (by omega), by omega⟩
      have q3 : partB (strOf (dgs (t % 60) 2)) (t % 60) := ⟨by rw [strOf_data]; exact atoi_dgs _ 2 (by omega) (by omega) (by omega), by omega⟩
      have e := tot4 t n (partB_inj p0 q0) (partB_inj p1 q1) (partB_inj p2 q2) (partB_inj p3 q3)
      have hm : momB (t : Int) = true := by
        have : (0 : Int) ≤ t ∧ (t : Int) ≤ 4294943999 := by omega
        simp [momB, this]
      refine ⟨strOf (momT t), 0, ?_, Or.inl ⟨rfl, rfl, by rw [e]⟩⟩
      rw [e]
      simp [textS, hm]
    · rintro ⟨k, hk, hno⟩
      exfalso
      match k, hk with
      | 0, _ => exact hno (t / 86400) ⟨by show Lib.atoiAll (strOf _).data.toList = _; rw [strOf_data]; exact atoi_day _ (by omega), by omega⟩
      | 1, _ => exact hno (t % 86400 / 3600) ⟨by show Lib.atoiAll (strOf _).data.toList = _; rw [strOf_data]; exact atoi_dgs _ 2 (by omega) (by omega) (by omega), by omega⟩
      | 2, _ => exact hno (t % 86400 % 3600 / 60) ⟨by show Lib.atoiAll (strOf _).data.toList = _; rw [strOf_data]; exact atoi_dgs _ 2 (by omega) (by omega) (by omega), by omega⟩
      | 3, _ => exact hno (t % 60) ⟨by show Lib.atoiAll (strOf _).data.toList = _; rw [strOf_data]; exact atoi_dgs _ 2 (by omega) (by omega) (by omega), by omega⟩
  · obtain ⟨A0, B0, b0, c0⟩ : ∃ A B b, Lib.cut s.data.toList [32] = (A, B, b) := ⟨_, _, _, rfl⟩
    obtain ⟨A1, B1, b1, c1⟩ : ∃ A B b, Lib.cut B0 [58] = (A, B, b) := ⟨_, _, _, rfl⟩
    obtain ⟨A2, B2, b2, c2⟩ : ∃ A B b, Lib.cut B1 [58] = (A, B, b) := ⟨_, _, _, rfl⟩
    have s0 := cut_sizes s.data.toList 32 hl
    rw [c0] at s0
    have s1 := cut_sizes B0 58 s0.2
    rw [c1] at s1
    have s2 := cut_sizes B1 58 s1.2
    rw [c2] at s2
    refine parse_walk s (strOf B0) (strOf B1) (fun k => if k = 0 then strOf A0 else if k = 1 then strOf A1 else if k = 2 then strOf A2 else strOf B2) 0 3 w ?_ f ?_ ?_ ?_ ⟨?_, fun _ => rfl⟩
    · intro k hk
      split
      · rw [strOf_size]; exact s0.1
      · split
        · rw [strOf_size]; exact s1.1
        · split
          · rw [strOf_size]; exact s2.1
          · rw [strOf_size]; exact s2.2
    · intro w f
      exact ⟨b0, cut_any _ 32 _ _ _ w hs f c0⟩
    · intro w f
      exact ⟨b1, cut_any _ 58 _ _ _ w (by rw [strOf_size]; exact s0.2) f (by rw [strOf_data]; exact c1)⟩
    · intro w f
      exact ⟨b2, cut_any _ 58 _ _ _ w (by rw [strOf_size]; exact s1.2) f (by rw [strOf_data]; exact c2)⟩
    · intro n hn
      refine ⟨(textS (tot n 4)).1, (textS (tot n 4)).2, rfl, Or.inr ⟨?_, rfl⟩⟩
      cases hm : momB (tot n 4)
      · exact Or.inl (by simp [textS, hm])
      · refine Or.inr ?_
        have hb := momB_true hm
        rw [toList_eq, decide_eq_false_iff_not]
        intro he
        refine hno (tot n 4).toNat (by omega) ?_
        rw [← str_ext he]
        simp [textS, hm]
end Go.Proofs.YtkiedopknoekpaaDoor
