/-
  P6.3: MacPlaces: a sum does not depend on where the bytes are in memory, nor on what was computed before, and the bytes are not changed; for at most 500 bytes before, in and behind the argument; the tied card. Conditions: the row's own (the variable start of package mac holds what the program's text lays when the call begins).
-/
import Derived.Test.YthalnnhkeaanhaaDoorMacR
import Derived.IntWalk
import Derived.Deep.RegionHeld3
import Derived.StillTailTactics
namespace Go.Proofs.YthalnnhkeaanhaaDoor.macPlaces
open Go.ChangeShapes Go.WideShapes Go.ChangeAt Go.RowKit Go.Maps
set_option linter.unusedVariables false
set_option linter.unusedSimpArgs false

/-- A part of a row that the call made. -/
theorem own_part {w : World} {base : Nat} {v : Value} {L : List UInt8} (h : OwnB w base v L) (x y : Nat) (hx : x ≤ y) (hy : y ≤ L.length) :
    ∃ A' c', (∀ (w' : World) (i j : Int), i = x → j = y → (Instr.sliceAt 25 v (some (.int .i64 i)) (some (.int .i64 j)) none).run Tryd.prog w' = .ok (.slice A' (y - x) c') w') ∧ y - x ≤ c' ∧ BytR w A' ((L.drop x).take (y - x)) := by
  have hf := h.form
  obtain ⟨_, h⟩ := h
  rcases h with ⟨rfl, h2⟩ | ⟨g, cap, cur, rfl, hb, hg, hn, _⟩
  · obtain rfl : L = [] := List.eq_nil_of_length_eq_zero h2
    obtain rfl : y = 0 := by simpa using hy
    obtain rfl : x = 0 := by omega
    exact ⟨none, 0, fun w' i j hi hj => by subst hi hj; simp [go_sem], Nat.le_refl _, VsR.nil _ _⟩
  · obtain ⟨A, c, hv, hc, hr⟩ := hf
    simp only [Value.slice.injEq] at hv
    obtain ⟨rfl, _, rfl⟩ := hv
    by_cases e : cap = x
    · obtain rfl : y = x := by omega
      refine ⟨some ⟨g, 0, none⟩, cap - y, fun w' i j hi hj => ?_, by omega, by rw [Nat.sub_self, List.take_zero]; exact VsR.nil _ _⟩
      subst hi hj
      have z1 : (0 : Int) ≤ (y : Int) := by omega
      have z3 : (y : Int) ≤ (cap : Int) := by omega
      simp [go_sem, e, z1, z3]
    · refine ⟨some ⟨g, 0 + x, none⟩, cap - x, fun w' i j hi hj => ?_, by omega, hr.part x (y - x)⟩
      subst hi hj
      have z1 : (0 : Int) ≤ (x : Int) := by omega
      have z2 : (x : Int) ≤ (y : Int) := by omega
      have z3 : (y : Int) ≤ (cap : Int) := by omega
      simp [go_sem, e, z1, z2, z3]
theorem own_rest {w : World} {base : Nat} {v : Value} {L : List UInt8} (h : OwnB w base v L) (x : Nat) (hx : x ≤ L.length) :
    ∃ A' c', (∀ (w' : World) (i : Int), i = x → (Instr.sliceAt 25 v (some (.int .i64 i)) none none).run Tryd.prog w' = .ok (.slice A' (L.length - x) c') w') ∧ L.length - x ≤ c' ∧ BytR w A' (L.drop x) := by
  have hf := h.form
  obtain ⟨_, h⟩ := h
  rcases h with ⟨rfl, h2⟩ | ⟨g, cap, cur, rfl, hb, hg, hn, _⟩
  · obtain rfl : L = [] := List.eq_nil_of_length_eq_zero h2
    obtain rfl : x = 0 := by simpa using hx
    exact ⟨none, 0, fun w' i hi => by subst hi; simp [go_sem], Nat.le_refl _, VsR.nil _ _⟩
  · obtain ⟨A, c, hv, hc, hr⟩ := hf
    simp only [Value.slice.injEq] at hv
    obtain ⟨rfl, _, rfl⟩ := hv
    by_cases e : cap = x
    · have hxl : L.length = x := by omega
      refine ⟨some ⟨g, 0, none⟩, cap - x, fun w' i hi => ?_, by omega, by rw [List.drop_eq_nil_of_le (by omega)]; exact VsR.nil _ _⟩
      subst hi
      have z1 : (0 : Int) ≤ (x : Int) := by omega
      simp [go_sem, e, z1, hxl]
    · have hr2 := hr.part x (L.length - x)
      rw [List.take_of_length_le (by rw [List.length_drop]; omega)] at hr2
      refine ⟨some ⟨g, 0 + x, none⟩, cap - x, fun w' i hi => ?_, by omega, hr2⟩
      subst hi
      have z1 : (0 : Int) ≤ (x : Int) := by omega
      have z2 : (x : Int) ≤ (L.length : Int) := by omega
      have z3 : (L.length : Int) ≤ (cap : Int) := by omega
      simp [go_sem, e, z1, z2, z3]

attribute [local irreducible] Calls
set_option maxRecDepth 100000 in
set_option maxHeartbeats 16000000 in
/-- At most 500 bytes each. -/
theorem walk_main (w : World) (f : Facts w) (a0 b0 a1 b1 : Nat) (ha0 : a0 < 18446744073709551616) (hb0 : b0 < 18446744073709551616) (ha1 : a1 < 18446744073709551616) (hb1 : b1 < 18446744073709551616) (A2 A3 A4 : Option Addr) (l2 l3 l4 : List UInt8) (n2 n3 n4 c2 c3 c4 : Nat) (hn2 : l2.length = n2) (hn3 : l3.length = n3) (hn4 : l4.length = n4) (hl2 : n2 ≤ 500) (hl3 : n3 ≤ 500) (hl4 : n4 ≤ 500) (hc2 : n2 ≤ c2) (hc3 : n3 ≤ c3) (hc4 : n4 ≤ c4) (h2 : BytR w A2 l2) (h3 : BytR w A3 l3) (h4 : BytR w A4 l4) :
    Calls Tryd.prog 7 #[.agg #[.int .u64 (a0 : Int), .int .u64 (b0 : Int)], .agg #[.int .u64 (a1 : Int), .int .u64 (b1 : Int)], .slice A2 n2 c2, .slice A3 n3 c3, .slice A4 n4 c4] w fun e w' => e = .returned (.bool true) ∧ Below w.heap.size w w' := by
  have HF := Lib.hid f
  have HK0 : Hid (KeyR ((w.alloc (.cells #[.int .u64 (a0 : Int), .int .u64 (b0 : Int)] 24)).alloc (.cells #[.int .u64 (a1 : Int), .int .u64 (b1 : Int)] 24)) w.heap.size a0 b0) := Lib.hid (((Below.refl (w.heap.size + 1) (w.alloc (.cells #[.int .u64 (a0 : Int), .int .u64 (b0 : Int)] 24))).alloc (by simp) _).block w.heap.size (by omega) |>.trans (heap_alloc_new w _))
  have HK1 : Hid (KeyR ((w.alloc (.cells #[.int .u64 (a0 : Int), .int .u64 (b0 : Int)] 24)).alloc (.cells #[.int .u64 (a1 : Int), .int .u64 (b1 : Int)] 24)) (w.heap.size + 1) a1 b1) := Lib.hid (by
    have := heap_alloc_new (w.alloc (.cells #[.int .u64 (a0 : Int), .int .u64 (b0 : Int)] 24)) (.cells #[.int .u64 (a1 : Int), .int .u64 (b1 : Int)] 24)
    rwa [World.size_alloc] at this)
  have HB0 : Hid (Below w.heap.size w ((w.alloc (.cells #[.int .u64 (a0 : Int), .int .u64 (b0 : Int)] 24)).alloc (.cells #[.int .u64 (a1 : Int), .int .u64 (b1 : Int)] 24))) := Lib.hid (((Below.refl _ _).alloc (Nat.le_refl _) _).alloc (by simp) _)
  have hz2 : ¬ (500 : Int) < (n2 : Int) := by omega
  have hz3 : ¬ (500 : Int) < (n3 : Int) := by omega
  have hz4 : ¬ (500 : Int) < (n4 : Int) := by omega
  have HN2 := Lib.hid hn2
  have HN3 := Lib.hid hn3
  have HN4 := Lib.hid hn4
  have H2 := Lib.hid h2
  have H3 := Lib.hid h3
  have H4 := Lib.hid h4
  clear f hn2 hn3 hn4 h2 h3 h4
  obtain ⟨W0, hW0⟩ : ∃ W0, (w.alloc (.cells #[.int .u64 (a0 : Int), .int .u64 (b0 : Int)] 24)).alloc (.cells #[.int .u64 (a1 : Int), .int .u64 (b1 : Int)] 24) = W0 := ⟨_, rfl⟩
  have hsz0 : W0.heap.size = w.heap.size + 1 + 1 := by rw [← hW0]; simp
  rw [hW0] at HK0 HK1 HB0
  have HOa : Hid (OwnB (W0.alloc (.cells #[] 5)) W0.heap.size (.slice (some ⟨w.heap.size + 1 + 1, 0, none⟩) 0 0) []) := Lib.hid (by rw [← hsz0]; exact OwnB.empty W0 (Nat.le_refl _))
  have HOb : Hid (OwnB (W0.alloc (.cells #[] 5)) W0.heap.size (.slice (some ⟨W0.heap.size, 0, none⟩) 0 0) []) := Lib.hid (OwnB.empty W0 (Nat.le_refl _))
  have HBa : Hid (Below W0.heap.size W0 (W0.alloc (.cells #[] 5))) := Lib.hid ((Below.refl _ _).alloc (Nat.le_refl _) _)
  have HSZ := Lib.hid hsz0
  clear hsz0
  have q1 : Hid (([] : List UInt8).length + n2 ≤ 1000000) := Lib.hid (by simp; omega)
  have q2 : Hid (l2.length + n3 ≤ 1000000) := Lib.hid (by rw [HN2.out]; omega)
  have q3 : Hid ((l2 ++ l3).length + n4 ≤ 1000000) := Lib.hid (by rw [List.length_append, HN2.out, HN3.out]; omega)
  have H2a := Lib.hid (H2.out.below (Below.step HB0.out HBa.out))
  have HS0 : Hid (W0.heap.size ≤ (W0.alloc (.cells #[] 5)).heap.size) := Lib.hid (by simp)
  go_enter Tryd.func7, Tryd.ntmps7
  go_wp2_with (at_builtin; first | refine wpList_append_bytes rfl _ _ rfl W0.heap.size _ [] l2 rfl HOb.out A2 n2 c2 HN2.out rfl H2a.out q1.out HS0.out ?_ | refine wpList_append_bytes rfl _ _ rfl W0.heap.size _ [] l2 rfl HOa.out A2 n2 c2 HN2.out rfl H2a.out q1.out HS0.out ?_)
  intro v1 w1 hO1 hB1
  have HO1 : Hid (OwnB w1 W0.heap.size v1 l2) := Lib.hid (by simpa using hO1.out)
  have HB1 := Lib.hid (HBa.out.trans hB1)
  have H3a := Lib.hid (H3.out.below (Below.step HB0.out HB1.out))
  have HS1 := Lib.hid HB1.out.size
  clear hO1 hB1
  go_wp2_with (at_builtin; refine wpList_append_bytes rfl _ _ rfl W0.heap.size _ l2 l3 rfl HO1.out A3 n3 c3 HN3.out rfl H3a.out q2.out HS1.out ?_)
  intro v2 w2 hO2 hB2
  have HO2 := Lib.hid hO2.out
  have HB2 := Lib.hid (HB1.out.trans hB2)
  have H4a := Lib.hid (H4.out.below (Below.step HB0.out HB2.out))
  have HS2 := Lib.hid HB2.out.size
  clear hO2 hB2 HO1 HB1 H3a HS1
  go_wp2_with (at_builtin; refine wpList_append_bytes rfl _ _ rfl W0.heap.size _ (l2 ++ l3) l4 rfl HO2.out A4 n4 c4 HN4.out rfl H4a.out q3.out HS2.out ?_)
  intro v3 w3 hO3 hB3
  have HB3 := Lib.hid (HB2.out.trans hB3)
  have HO3 := Lib.hid hO3.out
  clear hO3 hB3 HO2 HB2 H4a HS2 q1 q2 q3 H2a HS0 HOa HOb HBa
  have HLL : Hid ((l2 ++ (l3 ++ l4)).length = n2 + n3 + n4) := Lib.hid (by rw [List.length_append, List.length_append, HN2.out, HN3.out, HN4.out]; omega)
  obtain ⟨Ap, cp, rp, hcp, hRp⟩ := own_part HO3.out n2 (n2 + n3) (by omega) (by rw [HLL.out]; omega)
  obtain ⟨Aq, cq, rq, hcq, hRq⟩ := own_rest HO3.out (n2 + n3) (by rw [HLL.out]; omega)
  have e3 : ((l2 ++ (l3 ++ l4)).drop n2).take (n2 + n3 - n2) = l3 := by
    rw [← HN2.out, List.drop_left, show l2.length + n3 - l2.length = l3.length by rw [HN3.out]; omega, List.take_left]
  have e4 : (l2 ++ (l3 ++ l4)).drop (n2 + n3) = l4 := by
    rw [← List.append_assoc, show n2 + n3 = (l2 ++ l3).length by rw [List.length_append, HN2.out, HN3.out], List.drop_left]
  rw [e3] at hRp
  rw [e4] at hRq
  rw [show n2 + n3 - n2 = n3 by omega] at rp hcp
  rw [HLL.out, show n2 + n3 + n4 - (n2 + n3) = n4 by omega] at rq hcq
  have hbs : (n2 : Int) + (n3 : Int) ≤ 1000 := by omega
  have rp : ∀ w' : World, (Instr.sliceAt 25 v3 (some (.int .i64 (n2 : Int))) (some (.int .i64 ((n2 : Int) + (n3 : Int)))) none).run Tryd.prog w' = .ok (.slice Ap n3 cp) w' := fun w' => rp w' _ _ rfl (by omega)
  have rq : ∀ w' : World, (Instr.sliceAt 25 v3 (some (.int .i64 ((n2 : Int) + (n3 : Int)))) none none).run Tryd.prog w' = .ok (.slice Aq n4 cq) w' := fun w' => rq w' _ (by omega)
  have HRp := Lib.hid hRp
  have HRq := Lib.hid hRq
  have HB3w := Lib.hid (Below.step HB0.out HB3.out)
  have HKa := Lib.hid (HK0.out.below HB3.out (by rw [HSZ.out]; omega))
  have HKb := Lib.hid (HK1.out.below HB3.out (by rw [HSZ.out]; omega))
  have k0 := HKa.out.c0
  have k1 := HKa.out.c1
  have k2 := HKb.out.c0
  have k3 := HKb.out.c1
  have hg3 : w.heap.size < w3.heap.size := World.block_lt_of_cell? _ _ k0
  have hg3' : w.heap.size + 1 < w3.heap.size := World.block_lt_of_cell? _ _ k2
  have HS1 := Lib.hid (sum_any a0 b0 Ap l3 n3 cp w3 (HF.out.step HB3w.out) ha0 hb0 HN3.out (by omega) hcp HRp.out)
  have HS2 := Lib.hid (fun w' (hb : Below w.heap.size w w') => sum_any a1 b1 A4 l4 n4 c4 w' (HF.out.step hb) ha1 hb1 HN4.out (by omega) hc4 (H4.out.below hb))
  have HS3 := Lib.hid (fun w' A c (hb : Below w.heap.size w w') hc (h : BytR w' A l3) => sum_any a0 b0 A l3 n3 c w' (HF.out.step hb) ha0 hb0 HN3.out (by omega) hc h)
  obtain ⟨T1, hT1⟩ : ∃ t, sumS a0 b0 l3 = t := ⟨_, rfl⟩
  obtain ⟨T3, hT3⟩ : ∃ t, sumS a0 b0 l3 = t := ⟨_, rfl⟩
  have e13 : ((T1 : Int) == (T3 : Int)) = true := by rw [← hT1, ← hT3]; exact beq_self_eq_true _
  rw [hT1] at HS1
  rw [hT3] at HS3
  generalize sumS a1 b1 l4 = T2 at HS2
  clear hT1 hT3 e3 e4 HO3 HLL hRp hRq HK0 HK1 HSZ HB0
  go_wp2_with fail
  refine HS1.out.mono ?_
  rintro e w4 ⟨rfl, hb4⟩
  have HB4 := Lib.hid (Below.step HB3w.out hb4)
  have HRp4 := Lib.hid (HRp.out.below hb4)
  have HRq4 := Lib.hid (HRq.out.below hb4)
  have HKa4 := Lib.hid (HKa.out.below hb4 hg3)
  have HKb4 := Lib.hid (HKb.out.below hb4 hg3')
  have hg4 := Nat.lt_of_lt_of_le hg3 hb4.size
  have hg4' := Nat.lt_of_lt_of_le hg3' hb4.size
  clear hb4 HRp HRq HKa HKb k0 k1 k2 k3 hg3 hg3' HS1 HB3 HB3w
  have k2 := HKb4.out.c0
  have k3 := HKb4.out.c1
  go_wp2_with fail
  refine (HS2.out w4 HB4.out).mono ?_
  rintro e w5 ⟨rfl, hb5⟩
  have HB5 := Lib.hid (Below.step HB4.out hb5)
  have HRp5 := Lib.hid (HRp4.out.below hb5)
  have HRq5 := Lib.hid (HRq4.out.below hb5)
  have HKa5 := Lib.hid (HKa4.out.below hb5 hg4)
  have hg5 := Nat.lt_of_lt_of_le hg4 hb5.size
  clear hb5 HRp4 HRq4 HKa4 HKb4 k2 k3 hg4 hg4' HS2 HB4
  go_wp2_with fail
  obtain ⟨S3p, h3p⟩ : ∃ s : ByteArray, (⟨l3.toArray⟩ : ByteArray) = s := ⟨_, rfl⟩
  obtain ⟨S3b, h3b⟩ : ∃ s : ByteArray, (⟨l3.toArray⟩ : ByteArray) = s := ⟨_, rfl⟩
  obtain ⟨S4p, h4p⟩ : ∃ s : ByteArray, (⟨l4.toArray⟩ : ByteArray) = s := ⟨_, rfl⟩
  obtain ⟨S4b, h4b⟩ : ∃ s : ByteArray, (⟨l4.toArray⟩ : ByteArray) = s := ⟨_, rfl⟩
  have q3 : (S3p.toList == S3b.toList) = true := by rw [← h3p, ← h3b]; exact beq_self_eq_true _
  have q4 : (S4p.toList == S4b.toList) = true := by rw [← h4p, ← h4b]; exact beq_self_eq_true _
  have hb5d : Below w.heap.size w w5.drew := HB5.out.drew
  have r3p : (convert 25 9 (.slice Ap n3 cp)).run Tryd.prog w5.drew = .ok (.string S3p) w5.drew := by rw [← h3p]; exact run_string_of w5.drew Ap l3 n3 cp HN3.out (HRp5.out.below ((Below.refl _ _).drew))
  have r3b : (convert 25 9 (.slice A3 n3 c3)).run Tryd.prog w5.drew = .ok (.string S3b) w5.drew := by rw [← h3b]; exact run_string_of w5.drew A3 l3 n3 c3 HN3.out (H3.out.below hb5d)
  have r4p : (convert 25 9 (.slice Aq n4 cq)).run Tryd.prog w5.drew = .ok (.string S4p) w5.drew := by rw [← h4p]; exact run_string_of w5.drew Aq l4 n4 cq HN4.out (HRq5.out.below ((Below.refl _ _).drew))
  have r4b : (convert 25 9 (.slice A4 n4 c4)).run Tryd.prog w5.drew = .ok (.string S4b) w5.drew := by rw [← h4b]; exact run_string_of w5.drew A4 l4 n4 c4 HN4.out (H4.out.below hb5d)
  clear h3p h3b h4p h4b
  have ew : IntKind.i64.wrap ((n2 : Int) + (n3 : Int)) = (n2 : Int) + (n3 : Int) := IntWalk.i64_in _ (by omega)
  go_still (by kernel_rfl)
  have HB6 := Lib.hid hb5d
  have HRp6 : Hid (BytR w5.drew Ap l3) := Lib.hid (HRp5.out.below ((Below.refl _ _).drew))
  have HKa6 : Hid (KeyR w5.drew w.heap.size a0 b0) := HKa5
  have hg6 : w.heap.size < w5.drew.heap.size := hg5
  change Exit.then _ _ _ _ w5.drew
  clear hb5d r3p r3b r4p r4b q3 q4 HB5 HRp5 HRq5 HKa5 hg5
  generalize w5.drew = w6 at HB6 HRp6 HKa6 hg6 ⊢
  go_wp2
  have hgW := hg6
  have HKK := Lib.hid (fun w' (hb : Below w6.heap.size w6 w') => And.intro (HKa6.out.below hb hgW).c0 (HKa6.out.below hb hgW).c1)
  have GS := Lib.hid (fun w' A c (hb : Below w6.heap.size w6 w') hc (h : BytR w' A l3) => (HS3.out w' A c (Below.step HB6.out hb) hc h).mono fun e w'' ⟨he, hb2⟩ => And.intro he (Below.step hb hb2))
  have GP := Lib.hid (fun w' (hb : Below w6.heap.size w6 w') => GS.out w' Ap cp hb hcp (HRp6.out.below hb))
  have GA := Lib.hid (fun w' (hb : Below w6.heap.size w6 w') => (awake_any w' (HF.out.step (Below.step HB6.out hb))).mono fun e w'' ⟨he, hb2⟩ => And.intro he (Below.step hb hb2))
  have HFORM : Hid (∀ w' v', OwnB w' w6.heap.size v' ([] ++ l3) → ∃ A9 c9, v' = .slice A9 n3 c9 ∧ n3 ≤ c9 ∧ BytR w' A9 l3) := Lib.hid (fun w' v' h => by
    obtain ⟨A9, c9, hv, hc, hr⟩ := h.form
    have e : ([] ++ l3).length = n3 := HN3.out
    exact ⟨A9, c9, by rw [hv, e], by rw [← e]; exact hc, hr⟩)
  have QL : Hid (([] : List UInt8).length + n3 ≤ 100000) := Lib.hid (by simp; omega)
  have HIR := Lib.hid (fun w' (hb : Below w6.heap.size w6 w') => H3.out.below (Below.step HB6.out hb))
  have hBR := Below.refl w6.heap.size w6
  clear hgW
  go_region_held3 (fun w' => w'.cell? ⟨w.heap.size, 0, none⟩ = some (.int .u64 (a0 : Int)) ∧ w'.cell? ⟨w.heap.size, 1, none⟩ = some (.int .u64 (b0 : Int)))
    (first | exact HKK.out _ (by first | exact hb3 | exact hb3.alloc hb3.size _ | exact hBR.drew | exact hBR | exact (hBR.alloc (Nat.le_refl _) _).drew | exact hBR.drew.alloc (Nat.le_refl _) _ | exact hBR.alloc (Nat.le_refl _) _ | fail) | go_keep)
    (first
      | (go_at_call 10; refine (GP.out _ (by first | exact hb3 | exact hb3.alloc hb3.size _ | exact hBR.drew | exact hBR | exact (hBR.alloc (Nat.le_refl _) _).drew | exact hBR.drew.alloc (Nat.le_refl _) _ | exact hBR.alloc (Nat.le_refl _) _ | fail)).mono ?_; rintro e w3 ⟨rfl, hb3⟩; obtain ⟨k0, k1⟩ := HKK.out w3 hb3)
      | (go_at_call 10; refine (GS.out _ _ _ (by first | exact hb3 | exact hb3.alloc hb3.size _ | exact hBR.drew | exact hBR | exact (hBR.alloc (Nat.le_refl _) _).drew | exact hBR.drew.alloc (Nat.le_refl _) _ | exact hBR.alloc (Nat.le_refl _) _ | fail) hc9 hR9).mono ?_; rintro e w3 ⟨rfl, hb3⟩; obtain ⟨k0, k1⟩ := HKK.out w3 hb3)
      | (go_at_call 9; refine (GA.out _ (by first | exact hb3 | exact hb3.alloc hb3.size _ | exact hBR.drew | exact hBR | exact (hBR.alloc (Nat.le_refl _) _).drew | exact hBR.drew.alloc (Nat.le_refl _) _ | exact hBR.alloc (Nat.le_refl _) _ | fail)).mono ?_; rintro e w3 ⟨rfl, hb3⟩; obtain ⟨k0, k1⟩ := HKK.out w3 hb3)
      | (refine step_append_bytes rfl (.tmp 70) (.tmp 71) rfl w6.heap.size _ [] l3 rfl (by first | exact OwnB.empty w6 (Nat.le_refl _) | exact OwnB.empty w6.drew (Nat.le_refl _)) A3 n3 c3 HN3.out rfl (HIR.out _ (by first | exact hb3 | exact hb3.alloc hb3.size _ | exact hBR.drew | exact hBR | exact (hBR.alloc (Nat.le_refl _) _).drew | exact hBR.drew.alloc (Nat.le_refl _) _ | exact hBR.alloc (Nat.le_refl _) _ | fail)) QL.out (Below.size (by first | exact hb3 | exact hb3.alloc hb3.size _ | exact hBR.drew | exact hBR | exact (hBR.alloc (Nat.le_refl _) _).drew | exact hBR.drew.alloc (Nat.le_refl _) _ | exact hBR.alloc (Nat.le_refl _) _ | fail)) ?_; intro v9 w9 hO9 hb9; obtain ⟨A9, c9, hv9, hc9, hR9⟩ := HFORM.out _ _ hO9.out; subst hv9; have hb3 : Below w6.heap.size w6 w9 := Below.trans (by first | exact hb3 | exact hb3.alloc hb3.size _ | exact hBR.drew | exact hBR | exact (hBR.alloc (Nat.le_refl _) _).drew | exact hBR.drew.alloc (Nat.le_refl _) _ | exact hBR.alloc (Nat.le_refl _) _ | fail) hb9; obtain ⟨k0, k1⟩ := HKK.out w9 hb3)
      | fail)
  all_goals
    go_wp2_with fail
    go_ret
    exact ⟨rfl, Below.step HB6.out hb3⟩

set_option maxRecDepth 100000 in
set_option maxHeartbeats 4000000 in
theorem walk (w : World) (f : Facts w) (a0 b0 : Nat) (ha0 : a0 < 18446744073709551616) (hb0 : b0 < 18446744073709551616) (a1 b1 : Nat) (ha1 : a1 < 18446744073709551616) (hb1 : b1 < 18446744073709551616) (A2 : Option Addr) (l2 : List UInt8) (c2 : Nat) (hi2 : BytR w A2 l2) (hc2 : l2.length ≤ c2) (hl2 : l2.length ≤ 9223372036854775807) (A3 : Option Addr) (l3 : List UInt8) (c3 : Nat) (hi3 : BytR w A3 l3) (hc3 : l3.length ≤ c3) (hl3 : l3.length ≤ 9223372036854775807) (A4 : Option Addr) (l4 : List UInt8) (c4 : Nat) (hi4 : BytR w A4 l4) (hc4 : l4.length ≤ c4) (hl4 : l4.length ≤ 9223372036854775807) :
    Calls Tryd.prog 7 #[.agg #[.int .u64 (a0 : Int), .int .u64 (b0 : Int)], .agg #[.int .u64 (a1 : Int), .int .u64 (b1 : Int)], .slice A2 l2.length c2, .slice A3 l3.length c3, .slice A4 l4.length c4] w fun e w' => e = .returned (.bool true) ∧ Below w.heap.size w w' := by
  obtain ⟨n2, hn2⟩ : ∃ n, l2.length = n := ⟨_, rfl⟩
  obtain ⟨n3, hn3⟩ : ∃ n, l3.length = n := ⟨_, rfl⟩
  obtain ⟨n4, hn4⟩ : ∃ n, l4.length = n := ⟨_, rfl⟩
  rw [hn2, hn3, hn4]
  have HB0 : Hid (Below w.heap.size w ((w.alloc (.cells #[.int .u64 (a0 : Int), .int .u64 (b0 : Int)] 24)).alloc (.cells #[.int .u64 (a1 : Int), .int .u64 (b1 : Int)] 24))) := Lib.hid (((Below.refl _ _).alloc (Nat.le_refl _) _).alloc (by simp) _)
  have HF := Lib.hid (f.step HB0.out)
  by_cases h2 : n2 ≤ 500
  · by_cases h3 : n3 ≤ 500
    · by_cases h4 : n4 ≤ 500
      · exact walk_main w f a0 b0 a1 b1 ha0 hb0 ha1 hb1 A2 A3 A4 l2 l3 l4 n2 n3 n4 c2 c3 c4 hn2 hn3 hn4 h2 h3 h4 (by omega) (by omega) (by omega) hi2 hi3 hi4
      · have hz2 : ¬ (500 : Int) < (n2 : Int) := by omega
        have hz3 : ¬ (500 : Int) < (n3 : Int) := by omega
        have hz4 : (500 : Int) < (n4 : Int) := by omega
        clear f hn2 hn3 hn4 hi2 hi3 hi4
        go_enter Tryd.func7, Tryd.ntmps7
        go_wp2_with fail
        refine (awake_any _ HF.out).mono ?_
        rintro e w2 ⟨rfl, hB2⟩
        go_wp2_with fail
        go_ret
        exact ⟨rfl, Below.step HB0.out hB2⟩
    · have hz2 : ¬ (500 : Int) < (n2 : Int) := by omega
      have hz3 : (500 : Int) < (n3 : Int) := by omega
      clear f hn2 hn3 hn4 hi2 hi3 hi4
      go_enter Tryd.func7, Tryd.ntmps7
      go_wp2_with fail
      refine (awake_any _ HF.out).mono ?_
      rintro e w2 ⟨rfl, hB2⟩
      go_wp2_with fail
      go_ret
      exact ⟨rfl, Below.step HB0.out hB2⟩
  · have hz2 : (500 : Int) < (n2 : Int) := by omega
    clear f hn2 hn3 hn4 hi2 hi3 hi4
    go_enter Tryd.func7, Tryd.ntmps7
    go_wp2_with fail
    refine (awake_any _ HF.out).mono ?_
    rintro e w2 ⟨rfl, hB2⟩
    go_wp2_with fail
    go_ret
    exact ⟨rfl, Below.step HB0.out hB2⟩

set_option maxRecDepth 100000 in
theorem lifted (os : Os) (started : os.Started) (H : Type) (enc : TypeId × Value → H) (F : Stop.Interp) :
    ReturnsInHanded {} Tryd.checked os 7 .any ((OpenSpec.ofChange Rows.macPlacesSpec).preRow enc Tryd.prog Tryd.f7 Rows.macPlacesRow.domain false Rows.macPlacesRow.laid) (((OpenSpec.ofChange Rows.macPlacesSpec).at F).post enc Tryd.prog Tryd.f7 false true false false) := by
  refine returnsInHanded_of_row (C := Tryd.checked) (s := OpenSpec.ofChange Rows.macPlacesSpec) own started (by kernel_rfl) Tryd.func7
    (ChangeSpec.witness_shaped (enc := enc) (C := Tryd.checked) (os := os) (X := fun w _ => laidMetH Tryd.prog Rows.macPlacesRow.laid w) false (World.laidAll Tryd.prog os Rows.macPlacesRow.laid) #[.agg #[.int .u64 0, .int .u64 0], .agg #[.int .u64 0, .int .u64 0], .slice none 0 0, .slice none 0 0, .slice none 0 0] 8 (World.laidAll_os _ _ _)
      (World.shaped_of_ZipB (by kernel_rfl) (by kernel_rfl)) (by kernel_rfl) (by kernel_rfl) (by kernel_rfl)
      (by rw [MakeChecks.laidMetH_plain _ _ _ (by kernel_rfl)]; exact laidMet_laidAll _ (by kernel_rfl) (by kernel_rfl))) ?_
  intro W base args ds gs before hval0 hW _ _ hsz0 hL hsh _
  have hval : ∀ (j : Nat) t v, Tryd.f7.params[j]? = some t → args[j]? = some v → Value.okWide Tryd.prog W .any base t v := hval0
  have hW' := hW
  obtain ⟨p, q, hA0, hV, rfl, hfz, hnd⟩ := hW
  have hA : DataW.TrodAll enc Tryd.prog W 0 (fun _ => true) true Tryd.f7.params.toList args.toList ds p := hA0
  rw [Tryd.params7] at hA hval
  obtain ⟨v0, vs0, d0, ds0, p0, q0, hargs, rfl, rfl, h0, r0⟩ := trodAll_cons hA
  obtain ⟨v1, vs1, d1, ds1, p1, q1, rfl, rfl, rfl, h1, r1⟩ := trodAll_cons r0
  obtain ⟨v2, vs2, d2, ds2, p2, q2, rfl, rfl, rfl, h2, r2⟩ := trodAll_cons r1
  obtain ⟨v3, vs3, d3, ds3, p3, q3, rfl, rfl, rfl, h3, r3⟩ := trodAll_cons r2
  obtain ⟨v4, vs4, d4, ds4, p4, q4, rfl, rfl, rfl, h4, r4⟩ := trodAll_cons r3
  obtain ⟨rfl, rfl, rfl⟩ := trodAll_nil r4
  obtain rfl : args = #[v0, v1, v2, v3, v4] := by cases args; simp_all
  obtain ⟨rfl, rfl⟩ := trodVars_none hV
  obtain ⟨a0, b0, rfl, ha0, hb0⟩ := key_open (hval 0 24 v0 rfl rfl) h0
  obtain ⟨a1, b1, rfl, ha1, hb1⟩ := key_open (hval 1 24 v1 rfl rfl) h1
  obtain ⟨A2, l2, c2, rfl, hi2, hc2, hl2⟩ := bytes_open (hval 2 25 v2 rfl rfl) h2
  obtain ⟨A3, l3, c3, rfl, hi3, hc3, hl3⟩ := bytes_open (hval 3 25 v3 rfl rfl) h3
  obtain ⟨A4, l4, c4, rfl, hi4, hc4, hl4⟩ := bytes_open (hval 4 25 v4 rfl rfl) h4
  clear hA0 hval0
  simp only [List.append_nil] at hW'
  have hlt0 : ∀ x ∈ p0, x.block < W.heap.size := fun x hx => by simpa using hW'.lt x (by simp [hx])
  have hargs0 : ∀ (W' : World), Below W.heap.size W W' → DataW.Trod enc Tryd.prog W' 0 (fun b => decide (b < W.heap.size)) true 24 (.agg #[.int .u64 (a0 : Int), .int .u64 (b0 : Int)]) d0 p0 := fun W' hn => Below.trod laidOut (by kernel_rfl) (of_decide_eq_true (by kernel_rfl)) h0 hn hlt0
  have hlt1 : ∀ x ∈ p1, x.block < W.heap.size := fun x hx => by simpa using hW'.lt x (by simp [hx])
  have hargs1 : ∀ (W' : World), Below W.heap.size W W' → DataW.Trod enc Tryd.prog W' 0 (fun b => decide (b < W.heap.size)) true 24 (.agg #[.int .u64 (a1 : Int), .int .u64 (b1 : Int)]) d1 p1 := fun W' hn => Below.trod laidOut (by kernel_rfl) (of_decide_eq_true (by kernel_rfl)) h1 hn hlt1
  have hlt2 : ∀ x ∈ p2, x.block < W.heap.size := fun x hx => by simpa using hW'.lt x (by simp [hx])
  have hargs2 : ∀ (W' : World), Below W.heap.size W W' → DataW.Trod enc Tryd.prog W' 0 (fun b => decide (b < W.heap.size)) true 25 (.slice A2 l2.length c2) d2 p2 := fun W' hn => Below.trod laidOut (by kernel_rfl) (of_decide_eq_true (by kernel_rfl)) h2 hn hlt2
  have hlt3 : ∀ x ∈ p3, x.block < W.heap.size := fun x hx => by simpa using hW'.lt x (by simp [hx])
  have hargs3 : ∀ (W' : World), Below W.heap.size W W' → DataW.Trod enc Tryd.prog W' 0 (fun b => decide (b < W.heap.size)) true 25 (.slice A3 l3.length c3) d3 p3 := fun W' hn => Below.trod laidOut (by kernel_rfl) (of_decide_eq_true (by kernel_rfl)) h3 hn hlt3
  have hlt4 : ∀ x ∈ p4, x.block < W.heap.size := fun x hx => by simpa using hW'.lt x (by simp [hx])
  have hargs4 : ∀ (W' : World), Below W.heap.size W W' → DataW.Trod enc Tryd.prog W' 0 (fun b => decide (b < W.heap.size)) true 25 (.slice A4 l4.length c4) d4 p4 := fun W' hn => Below.trod laidOut (by kernel_rfl) (of_decide_eq_true (by kernel_rfl)) h4 hn hlt4
  refine (walk W (facts_of W hL hsh) a0 b0 ha0 hb0 a1 b1 ha1 hb1 A2 l2 c2 hi2 hc2 hl2 A3 l3 c3 hi3 hc3 hl3 A4 l4 c4 hi4 hc4 hl4).mono fun e W' ⟨he, hb⟩ => ?_
  subst he
  exact ⟨_, rfl, _, _, _, [], p0 ++ (p1 ++ (p2 ++ (p3 ++ (p4 ++ ([]))))), [], hW', trodAll_mk1 (shut_bool Tryd.underlying4 _), (trodAll_cons_mk (hargs0 W' hb) (trodAll_cons_mk (hargs1 W' hb) (trodAll_cons_mk (hargs2 W' hb) (trodAll_cons_mk (hargs3 W' hb) (trodAll_cons_mk (hargs4 W' hb) trodAll_mk0))))), rfl, hb.frame _, fun h => by cases h⟩

theorem said : Rows.MacPlacesSaid :=
  OpenClaim.holds_of_cond 7 Tryd.f7 rfl rfl rfl rfl rfl rfl rfl ⟨rfl, rfl, rfl, rfl, rfl⟩ rfl rfl rfl rfl rfl (by kernel_rfl) Tryd.func7 (by kernel_rfl)
    (of_decide_eq_true (by kernel_rfl)) (by unfold Func.isWrapper; first | (rw [if_pos (by decide +kernel)]; kernel_rfl) | (rw [if_neg (by decide +kernel)]; exact ⟨rfl, rfl⟩))
    (fun os started H enc _ F => by rw [OpenClaim.pre_eq_preRow]; exact lifted os started H enc F)

theorem plain (f : FuncId) (fn : Func) (hf : Tryd.pinned.checked.prog.funcNamed "bikeshare/bikesharelaw06.MacPlaces" = some f) (hfn : Tryd.pinned.checked.prog.funcs[f]? = some fn) :
    false = Tryd.pinned.checked.prog.looks [] ∧ ∀ (j : Nat) t, fn.params[j]? = some t → Tryd.pinned.checked.prog.wantsStandIn t = false := by
  obtain rfl : f = 7 := Option.some.inj ((show Tryd.prog.funcNamed "bikeshare/bikesharelaw06.MacPlaces" = some 7 by kernel_rfl).symm.trans hf) |>.symm
  obtain rfl : fn = Tryd.f7 := (Option.some.inj (Tryd.func7.symm.trans hfn)).symm
  refine ⟨by kernel_rfl, fun j t ht => ?_⟩
  rw [Tryd.params7] at ht
  have hm : t ∈ [24, 24, 25, 25, 25] := by simpa using Array.mem_of_getElem? ht
  have hall : ([24, 24, 25, 25, 25].all fun u => !Tryd.prog.wantsStandIn u) = true := by kernel_rfl
  exact (show Tryd.prog.wantsStandIn t = false by simpa using List.all_eq_true.1 hall t hm)

/-- The card. -/
theorem card : Rows.MacPlacesCardSaid :=
  Claim7.holds_tied_plain_at .later [] _ _ _ _ said (fun _ h => by cases h) (by kernel_rfl) (fun _ h => by cases h) macPlaces_row_tie rfl ⟨rfl, rfl⟩ (by kernel_rfl) rfl plain (by kernel_rfl)
#print axioms card
end Go.Proofs.YthalnnhkeaanhaaDoor.macPlaces
