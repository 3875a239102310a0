/-
  The contracts of bytes.Clone, of both Seal, and of Same. Condition: at most 60000 bytes.
-/
import Derived.Test.YthafaococbdhoaaCrcB
namespace Go.Proofs.Ythafaococbdhoaa
open Go.RowKit Go.Maps
set_option linter.unusedVariables false

/-- An empty row that the call made. -/
theorem OwnB.empty (w : World) {base : Nat} (h : base ≤ w.heap.size) : OwnB (w.alloc (.cells #[] 5)) base (.slice (some ⟨w.heap.size, 0, none⟩) 0 0) [] :=
  ⟨rfl, Or.inr ⟨w.heap.size, 0, #[], rfl, h, heap_alloc_new w _, Nat.le_refl _, Nat.zero_le _, rfl, rfl⟩⟩

set_option maxRecDepth 100000 in
theorem clone_any (ab o : Nat) (l : List UInt8) (m c : Nat) (w : World) (hm : l.length = m) (hl : m ≤ 100000) (h : BytR w (some ⟨ab, o, none⟩) l) :
    Calls Try.prog 35 #[.slice (some ⟨ab, o, none⟩) m c] w fun e w' => ∃ v', e = .returned v' ∧ Hid (OwnB w' w.heap.size v' l) ∧ Below w.heap.size w w' := by
  have HR := Lib.hid h
  have HM := Lib.hid hm
  have HO := Lib.hid (OwnB.empty w (Nat.le_refl w.heap.size))
  have hB : Below w.heap.size w (w.alloc (.cells #[] 5)) := (Below.refl _ _).alloc (Nat.le_refl _) _
  have HR2 := Lib.hid (HR.out.below hB)
  have hsz := hB.size
  have hnn : ∀ w : World, (binOp .eql 22 (.slice (some ⟨ab, o, none⟩) m c) (.slice none 0 0)).run Try.prog w = .ok (.bool false) w := fun w => by kernel_rfl
  clear h hm HR
  go_enter Try.func35, Try.ntmps35
  go_wp2_with (at_builtin; refine wpList_append_bytes rfl _ _ rfl w.heap.size _ [] l rfl HO.out _ m c HM.out rfl HR2.out (by simp; omega) hsz ?_)
  intro v1 w1 hO1 hB1
  have HO1 : Hid (OwnB w1 w.heap.size v1 l) := Lib.hid (by simpa using hO1.out)
  have hB2 := hB.trans hB1
  clear hO1 hB1 hB
  go_wp2_with fail
  go_ret
  exact ⟨_, rfl, HO1, hB2⟩

/-- A row that lies in a block that is let alone. -/
theorem VsR.belowAt {w w' : World} {b o B : Nat} {vs : List Value} (h : VsR w (some ⟨b, o, none⟩) vs) (hb : Below B w w') (hB : b < B) : VsR w' (some ⟨b, o, none⟩) vs := fun hl => by
  obtain ⟨b', o', e, hlt, hc⟩ := h hl
  injection e with e
  injection e with e1 e2 e3
  subst e1 e2
  refine ⟨b, o, rfl, Nat.lt_of_lt_of_le hlt hb.size, fun k v hk => ?_⟩
  rw [hb.cell (p := ⟨b, o + k, none⟩) hB]
  exact hc k v hk
theorem BytR.belowAt {w w' : World} {b o B : Nat} {l : List UInt8} (h : BytR w (some ⟨b, o, none⟩) l) (hb : Below B w w') (hB : b < B) : BytR w' (some ⟨b, o, none⟩) l := VsR.belowAt h hb hB

theorem retSeal {v : Value} {E E' : Int} (h : E = E') : Ending.returned (.tuple #[v, .int .i64 E]) = .returned (.tuple #[v, .int .i64 E']) := by rw [h]

set_option maxRecDepth 100000 in
set_option maxHeartbeats 1000000 in
theorem seal_any (A : Option Addr) (l : List UInt8) (m c : Nat) (w : World) (hm : l.length = m) (hl : m ≤ 50000) (h : BytR w A l) :
    Calls Try.prog 14 #[.slice A m c] w fun e w' => ∃ v', e = .returned (.tuple #[v', .int .i64 0]) ∧ Hid (OwnB w' w.heap.size v' (fr l)) ∧ Below w.heap.size w w' := by
  have HR := Lib.hid h
  have HM := Lib.hid hm
  have hcs := cs_lt l
  have HTV := Lib.hid (tail_vals hcs)
  have HTE : Hid (tailV (cs l) = .agg ((tail (cs l)).map bc).toArray) := Lib.hid rfl
  have hle : ¬ (65536 : Int) < (m : Int) := by omega
  clear h hm
  go_enter Try.func14, Try.ntmps14
  go_wp2_with fail
  refine (newTable_any _).mono ?_
  rintro e w1 ⟨b, rfl, hT, hB⟩
  have HT := Lib.hid hT
  clear hT
  go_wp2_with fail
  refine (tsum_any b A l m c w1 HM.out (by omega) (HR.out.below hB) HT.out).mono ?_
  rintro e w2 ⟨rfl, rfl⟩
  go_wp2_with fail
  refine (sumBytes_any (cs l) _ hcs).mono ?_
  rintro e w2 ⟨rfl, hB2⟩
  rw [HTE.out, HTV.out]
  go_wp2_with fail
  obtain ⟨w3, hw3⟩ : ∃ w3, w2.alloc (.cells #[.int .u8 ((cs l : Int) % 256), .int .u8 ((cs l : Int) / 256 % 256), .int .u8 ((cs l : Int) / 65536 % 256), .int .u8 ((cs l : Int) / 16777216)] 46) = w3 := ⟨_, rfl⟩
  have hB3 := Below.step hB hB2
  have hB4 : Below w.heap.size w w3 := by
    rw [← hw3]
    exact hB3.alloc hB3.size _
  have HT4 : Hid (BytR w3 (some ⟨w2.heap.size, 0, none⟩) (tail (cs l)) ∧ w2.heap.size < w3.heap.size) := Lib.hid (by
    rw [← hw3]
    refine ⟨fun _ => ⟨_, 0, rfl, by simp, fun k v hk => ?_⟩, by simp⟩
    rw [Nat.zero_add, World.cell?_alloc_new, ← HTV.out]
    simpa using hk)
  obtain ⟨q, hq⟩ : ∃ q, w2.heap.size = q := ⟨_, rfl⟩
  rw [hq] at HT4
  rw [hw3, hq]
  have HP := Lib.hid (putInt_own none [] 0 0 (m : Int) w3 rfl (by decide) (by decide) (VsR.nil w3 _) (by omega) (by omega))
  clear hw3 hq hB hB2 hB3 HTE HT
  refine HP.out.mono ?_
  rintro e w5 ⟨v5, rfl, hO5, hB5⟩
  have hO5' := hO5.out
  rw [List.nil_append] at hO5'
  have HO5 := Lib.hid hO5'
  have hB6 := Below.step hB4 hB5
  have HT6 := Lib.hid (HT4.out.1.below hB5)
  have HQ := Lib.hid HT4.out.2
  have hsz5 := hB5.size
  have HS4 := Lib.hid hB4.size
  have HLEN : Hid ((enc (m : Int)).length ≤ 10) := Lib.hid (enc_ten (by omega) (by omega))
  clear hO5 hO5' hB4 hB5 HT4 HP
  go_wp2_with (at_builtin; refine wpList_append_bytes rfl _ _ rfl w3.heap.size _ (enc (m : Int)) l rfl HO5.out A m c HM.out rfl (HR.out.below hB6) (by have := HLEN.out; omega) hsz5 ?_)
  intro v7 w7 hO7 hB7
  have HT7 : Hid (BytR w7 (some ⟨q, 0, none⟩) (tail (cs l))) := Lib.hid (HT6.out.belowAt hB7 HQ.out)
  have HB8 := Lib.hid (hB6.trans (hB7.mono HS4.out))
  have hsz7 : w3.heap.size ≤ w7.heap.size := Nat.le_trans hsz5 hB7.size
  clear HT6 HO5 hB6 hB7
  go_wp2_with (at_builtin; refine wpList_append_bytes rfl _ _ rfl w3.heap.size _ (enc (m : Int) ++ l) (tail (cs l)) rfl hO7.out (some ⟨q, 0, none⟩) 4 4 rfl rfl HT7.out (by have := HLEN.out; have := HM.out; rw [List.length_append]; omega) hsz7 ?_)
  intro v9 w9 hO9 hB9
  have HO9 : Hid (OwnB w9 w.heap.size v9 (fr l)) := Lib.hid (by
    have := hO9.out.mono HS4.out
    try rw [List.append_assoc] at this
    unfold fr
    rw [HM.out]
    exact this)
  have hB10 := HB8.out.trans (hB9.mono HS4.out)
  clear hO9 hB9 HB8 hO7
  go_wp2_with fail
  go_ret2
  exact ⟨_, rfl, HO9, hB10⟩

set_option maxRecDepth 100000 in
set_option maxHeartbeats 1000000 in
theorem refSeal_any (A : Option Addr) (l : List UInt8) (m c : Nat) (w : World) (hm : l.length = m) (hl : m ≤ 50000) (h : BytR w A l) :
    Calls Try.prog 15 #[.slice A m c] w fun e w' => ∃ v', e = .returned (.tuple #[v', .int .i64 0]) ∧ Hid (OwnB w' w.heap.size v' (fr l)) ∧ Below w.heap.size w w' := by
  have HR := Lib.hid h
  have HM := Lib.hid hm
  have hcs := cs_lt l
  have hle : ¬ (65536 : Int) < (m : Int) := by omega
  have HP := Lib.hid (refPutInt_own none [] 0 0 (m : Int) w rfl (by decide) (VsR.nil w _) (by omega) (by omega))
  have HLEN : Hid ((enc (m : Int)).length ≤ 10) := Lib.hid (enc_ten (by omega) (by omega))
  clear h hm
  go_enter Try.func15, Try.ntmps15
  go_wp2_with fail
  refine HP.out.mono ?_
  rintro e w1 ⟨v1, rfl, hO1, hB1⟩
  have hO1' := hO1.out
  rw [List.nil_append] at hO1'
  have HO1 := Lib.hid hO1'
  have hsz1 := hB1.size
  clear hO1 hO1' HP
  go_wp2_with (at_builtin; refine wpList_append_bytes rfl _ _ rfl w.heap.size _ (enc (m : Int)) l rfl HO1.out A m c HM.out rfl (HR.out.below hB1) (by have := HLEN.out; omega) hsz1 ?_)
  intro v2 w2 hO2 hB2
  have hB3 := hB1.trans hB2
  clear hB1 hB2 HO1
  go_wp2_with fail
  refine (refSum_any A l m c w2 HM.out (by omega) (HR.out.below hB3)).mono ?_
  rintro e w3 ⟨rfl, rfl⟩
  go_wp2_with fail
  refine (tail_any (cs l) w2 hcs).mono ?_
  rintro e w3 ⟨B, rfl, hT, hB4⟩
  have HO3 := Lib.hid (hO2.out.below hB4)
  have hB5 := Below.step hB3 hB4
  have hsz5 := hB5.size
  clear hO2 hB3 hB4
  go_wp2_with (at_builtin; refine wpList_append_bytes rfl _ _ rfl w.heap.size _ (enc (m : Int) ++ l) (tail (cs l)) rfl HO3.out B 4 4 rfl rfl hT.out (by have := HLEN.out; have := HM.out; rw [List.length_append]; omega) hsz5 ?_)
  intro v9 w9 hO9 hB9
  have HO9 : Hid (OwnB w9 w.heap.size v9 (fr l)) := Lib.hid (by
    have := hO9.out
    try rw [List.append_assoc] at this
    unfold fr
    rw [HM.out]
    exact this)
  have hB10 := hB5.trans hB9
  clear hO9 hB9 hB5 HO3
  go_wp2_with fail
  go_ret2
  exact ⟨_, rfl, HO9, hB10⟩

/-- Same, whatever it finds. -/
theorem take_eq_succ {l l2 : List UInt8} {k : Nat} (h1 : k < l.length) (h2 : k < l2.length) (h : l.take k = l2.take k) (hx : l.getD k 0 = l2.getD k 0) : l.take (k + 1) = l2.take (k + 1) := by
  rw [take_snocB l k h1, take_snocB l2 k h2, h, hx]
set_option maxRecDepth 100000 in
set_option maxHeartbeats 1000000 in
theorem same_any (A : Option Addr) (m c : Nat) (B : Option Addr) (n d : Nat) (l l2 : List UInt8) (r : Bool) (w : World) (hr : (r = true) = (l = l2)) (hm : l.length = m) (hn : l2.length = n) (hl : m ≤ 1000000) (h : BytR w A l) (h2 : BytR w B l2) :
    Calls Try.prog 16 #[.slice A m c, .slice B n d] w fun e w' => e = .returned (.bool r) ∧ ∃ q, w' = w.drewN q := by
  by_cases hmn : m = n
  · subst hmn
    have HA := Lib.hid h
    have HB := Lib.hid h2
    have HM := Lib.hid hm
    have HN := Lib.hid hn
    have HRR := Lib.hid hr
    clear h h2 hm hn hr
    go_enter Try.func16, Try.ntmps16
    go_wp2_with fail
    go_loopw [5] (fun i wr => ∃ k q : Nat, k ≤ m ∧ i = .int .i64 (k : Int) ∧ Hid (l.take k = l2.take k) ∧ wr = w.drewN q) (fun i _ => m - (intOf i).toNat)
    case atStart => exact ⟨0, 0, by omega, rfl, Lib.hid (by rw [List.take_zero, List.take_zero]), rfl⟩
    case round =>
      obtain ⟨k, q, hk, rfl, htk, rfl⟩ := hrel
      by_cases hlt : k < m
      · have hkz : (k : Int) < (m : Int) := by omega
        have hkl : k < l.length := by rw [HM.out]; exact hlt
        have hkl2 : k < l2.length := by rw [HN.out]; exact hlt
        obtain ⟨b, o, rfl, _, hc⟩ := HA.out.at (by omega)
        obtain ⟨b2, o2, rfl, _, hc2⟩ := HB.out.at (by omega)
        have c1 := hc k hkl
        have c2 := hc2 k hkl2
        obtain ⟨W, hW⟩ : ∃ W, w.drewN q = W := ⟨_, rfl⟩
        have HW := Lib.hid hW
        obtain ⟨x, hx⟩ : ∃ x, l.getD k 0 = x := ⟨_, rfl⟩
        obtain ⟨y, hy⟩ : ∃ y, l2.getD k 0 = y := ⟨_, rfl⟩
        by_cases hxy : x = y
        · subst hxy
          have HT := Lib.hid (take_eq_succ hkl hkl2 htk.out (hx.trans hy.symm))
          rw [hx] at c1
          rw [hy] at c2
          have d1 : (w.drewN q).cell? ⟨b, o + k, none⟩ = some (.int .u8 (x.toNat : Int)) := c1
          have d2 : (w.drewN q).cell? ⟨b2, o2 + k, none⟩ = some (.int .u8 (x.toNat : Int)) := c2
          rw [hW] at d1 d2 ⊢
          clear c1 c2 hx hy hW hc hc2 hkl hkl2 htk
          go_wp2_with fail
          go_region
          all_goals go_wp2
          go_roundw
          case rel => exact ⟨k + 1, q + 1, by omega, by go_num, HT, by rw [← HW.out]; rfl⟩
          case measure => simp only [intOf]; omega
        · have hne : ¬ (x.toNat : Int) = (y.toNat : Int) := fun e => hxy (UInt8.toNat_inj.1 (by omega))
          have hne2 : ((x.toNat : Int) == (y.toNat : Int)) = false := by rw [beq_eq_false_iff_ne]; exact hne
          have hR : r = false := by
            have := HRR.out
            have hll : ¬ l = l2 := fun e => hxy (by rw [← hx, ← hy, e])
            rw [eq_false hll] at this
            simpa using this
          subst hR
          rw [hx] at c1
          rw [hy] at c2
          have d1 : (w.drewN q).cell? ⟨b, o + k, none⟩ = some (.int .u8 (x.toNat : Int)) := c1
          have d2 : (w.drewN q).cell? ⟨b2, o2 + k, none⟩ = some (.int .u8 (y.toNat : Int)) := c2
          rw [hW] at d1 d2 ⊢
          clear c1 c2 hx hy hW hc hc2 hkl hkl2 htk hxy
          go_wp2_with fail
          go_region
          all_goals go_wp2
          go_ret
          exact ⟨rfl, q + 1, by rw [← HW.out]; rfl⟩
      · obtain rfl : k = m := by omega
        have hR : r = true := by
          rw [HRR.out]
          have := htk.out
          rwa [List.take_of_length_le (by rw [HM.out]; exact Nat.le_refl _), List.take_of_length_le (by rw [HN.out]; exact Nat.le_refl _)] at this
        subst hR
        clear htk HRR
        go_wp2
        go_ret
        exact ⟨rfl, q, rfl⟩
  · have hmz : ¬ (m : Int) = (n : Int) := by omega
    have hR : r = false := by
      have hll : ¬ l = l2 := fun e => hmn (by rw [← hm, ← hn, e])
      rw [eq_false hll] at hr
      simpa using hr
    subst hR
    clear h h2 hm hn hr
    go_enter Try.func16, Try.ntmps16
    go_wp2_with fail
    go_ret
    exact ⟨rfl, 0, rfl⟩
end Go.Proofs.Ythafaococbdhoaa
