/-
  The contract of Sum. Condition: at most a million bytes; the variable start holds what the program's text lays.
-/
import Derived.Test.YthalnnhkeaanhaaDoorMacE
namespace Go.Proofs.YthalnnhkeaanhaaDoor
open Go.RowKit Go.Maps
set_option linter.unusedVariables false
set_option linter.unusedSimpArgs false

def slen : Value → Nat
  | .slice _ n _ => n
  | _ => 0
theorem run_from8 (w : World) (ab o m c : Nat) (hm : 8 ≤ m) (hc : m ≤ c) :
    (Instr.sliceAt 25 (.slice (some ⟨ab, o, none⟩) m c) (some (.int .i64 8)) none none).run Tryd.prog w = .ok (.slice (some (if c = 8 then ⟨ab, o, none⟩ else ⟨ab, o + 8, none⟩)) (m - 8) (c - 8)) w := by
  have z2 : (8 : Int) ≤ (m : Int) := by omega
  have z3 : (m : Int) ≤ (c : Int) := by omega
  by_cases h : c = 8
  · simp [go_sem, h, z2]
  · simp [go_sem, h, z2]
theorem run_array8 (w : World) (A : Option Addr) (n c : Nat) (h : 8 ≤ n) : (Instr.arrayAt 46 (.slice A n c)).run Tryd.prog w = .ok (.pointer A) w := by
  have hn : ¬ n < 8 := by omega
  simp [Instr.arrayAt, run_underlying Tryd.underlying46, hn]
theorem rest_step {w : World} {ab o c : Nat} {s : List UInt8} (h : BytR w (some ⟨ab, o, none⟩) s) (hc : s.length ≤ c) : BytR w (some (if c = 8 then ⟨ab, o, none⟩ else ⟨ab, o + 8, none⟩)) (s.drop 8) := by
  by_cases e : c = 8
  · rw [List.drop_eq_nil_of_le (by omega)]
    exact VsR.nil _ _
  · rw [if_neg e]
    have := h.part 8 (s.length - 8)
    rwa [List.take_of_length_le (by rw [List.length_drop]; omega)] at this
theorem sum_end (A B : Nat) (l : List UInt8) (k r : Nat) (h : 8 * k + r = l.length) (hr : r < 8) : endS (takeS (stS A B l k) (wd (lastF (l.drop (8 * k)) l.length) 8)) = sumS A B l := by
  rw [lastF_byt]
  unfold sumS
  rw [show l.length / 8 = k by omega, stS_succ]
  rfl

set_option maxRecDepth 100000 in
set_option maxHeartbeats 1000000 in
theorem sum_any (A0 B0 : Nat) (A : Option Addr) (l : List UInt8) (m c : Nat) (w : World) (f : Facts w) (ha : A0 < 18446744073709551616) (hb : B0 < 18446744073709551616) (hm : l.length = m) (hl : m ≤ 1000000) (hc : m ≤ c) (h : BytR w A l) :
    Calls Tryd.prog 10 #[.agg #[.int .u64 (A0 : Int), .int .u64 (B0 : Int)], .slice A m c] w fun e w' => e = .returned (.int .u64 (sumS A0 B0 l : Int)) ∧ Below w.heap.size w w' := by
  have HN := Lib.hid (fun w f => newState_any A0 B0 w f ha hb)
  have HT := Lib.hid (fun b v m w hs hm h => take_any b v m w hs hm h)
  have HE := Lib.hid (fun b v w hs h => end_any b v w hs h)
  have HLW := Lib.hid (fun A s m c N w hm hs hN h => lastWord_any A s m c N w hm hs hN h)
  have HW := Lib.hid (fun f w hf => word_any f w hf)
  have HS := Lib.hid (stS_sm ha hb l)
  have HEND := Lib.hid (fun k r h hr => sum_end A0 B0 l k r h hr)
  have HZ : Hid (stS A0 B0 l 0 = startS A0 B0) := Lib.hid rfl
  have HR := Lib.hid h
  have HM := Lib.hid hm
  have F0 : Hid (Facts (w.alloc (.cells #[.int .u64 (A0 : Int), .int .u64 (B0 : Int)] 24))) := Lib.hid (f.step ((Below.refl _ _).alloc (Nat.le_refl _) _))
  have hB0 : Below w.heap.size w (w.alloc (.cells #[.int .u64 (A0 : Int), .int .u64 (B0 : Int)] 24)) := (Below.refl _ _).alloc (Nat.le_refl _) _
  clear h hm f ha hb
  go_enter Tryd.func10, Tryd.ntmps10
  go_wp2_with fail
  refine (HN.out _ F0.out).mono ?_
  rintro e w1 ⟨rfl, hB1⟩
  have hB2 := Below.step hB0 hB1
  clear hB0 hB1 F0 HN
  have HF : Hid (four (startS A0 B0) = #[.int .u64 (startS A0 B0 0 : Int), .int .u64 (startS A0 B0 1 : Int), .int .u64 (startS A0 B0 2 : Int), .int .u64 (startS A0 B0 3 : Int)]) := Lib.hid rfl
  obtain ⟨v0, hv0⟩ : ∃ v, startS A0 B0 = v := ⟨_, rfl⟩
  rw [hv0] at HF HZ ⊢
  clear hv0
  rw [HF.out]
  go_wp2_with fail
  obtain ⟨g, hg⟩ : ∃ g, w1.heap.size = g := ⟨_, rfl⟩
  have HG : Hid (w.heap.size ≤ g) := Lib.hid (by rw [← hg]; exact hB2.size)
  have H3 : Hid (StR (w1.alloc (.cells #[.int .u64 (v0 0 : Int), .int .u64 (v0 1 : Int), .int .u64 (v0 2 : Int), .int .u64 (v0 3 : Int)] 42)) g 42 (stS A0 B0 l 0)) := Lib.hid (by rw [← hg, HZ.out]; exact heap_alloc_new w1 _)
  have hB3 := hB2.alloc hB2.size (.cells #[.int .u64 (v0 0 : Int), .int .u64 (v0 1 : Int), .int .u64 (v0 2 : Int), .int .u64 (v0 3 : Int)] 42)
  generalize w1.alloc (.cells #[.int .u64 (v0 0 : Int), .int .u64 (v0 1 : Int), .int .u64 (v0 2 : Int), .int .u64 (v0 3 : Int)] 42) = w2 at H3 hB3 ⊢
  rw [hg]
  clear hg hB2 HF HZ
  go_loopw [6] (fun v wr => ∃ (k r c' : Nat) (B : Option Addr), 8 * k + r = m ∧ r ≤ c' ∧ v = .slice B r c' ∧ Hid (BytR w B (l.drop (8 * k))) ∧ Hid (StR wr g 42 (stS A0 B0 l k)) ∧ Below w.heap.size w wr) (fun v _ => slen v)
  case atStart => exact ⟨0, m, c, A, by omega, hc, rfl, HR, H3, hB3⟩
  case round =>
    obtain ⟨k, r, c', B, hkr, hrc, rfl, HB, hT, hB⟩ := hrel
    have HDL : Hid ((l.drop (8 * k)).length = r) := Lib.hid (by rw [List.length_drop, HM.out]; omega)
    by_cases hlt : 8 ≤ r
    · have hltz : (8 : Int) ≤ (r : Int) := by omega
      obtain ⟨ab, o, rfl, hbl, hcells⟩ := (HB.out.below hB).at (by rw [HDL.out]; omega)
      have kk : ∀ i, i < 8 → wr.cell? ⟨ab, o + i, none⟩ = some (.int .u8 (byt l k i : Int)) := fun i hi => by
        rw [byt_in (by rw [HM.out]; omega), hcells i (by rw [HDL.out]; omega), List.getD_eq_getElem?_getD, List.getElem?_drop, List.getD_eq_getElem?_getD]
      have k0 : wr.cell? ⟨ab, o, none⟩ = some (.int .u8 (byt l k 0 : Int)) := kk 0 (by decide)
      have k1 := kk 1 (by decide)
      have k2 := kk 2 (by decide)
      have k3 := kk 3 (by decide)
      have k4 := kk 4 (by decide)
      have k5 := kk 5 (by decide)
      have k6 := kk 6 (by decide)
      have k7 := kk 7 (by decide)
      have r1 := fun w => run_array8 w (some ⟨ab, o, none⟩) r c' hlt
      have r2 := fun w => run_from8 w ab o r c' hlt hrc
      have HB2 : Hid (BytR w (some (if c' = 8 then ⟨ab, o, none⟩ else ⟨ab, o + 8, none⟩)) (l.drop (8 * (k + 1)))) := Lib.hid (by
        have := rest_step HB.out (c := c') (by rw [HDL.out]; omega)
        rwa [List.drop_drop, show 8 * k + 8 = 8 * (k + 1) by omega] at this)
      obtain ⟨B2, hB2e⟩ : ∃ B2, (if c' = 8 then (⟨ab, o, none⟩ : Addr) else ⟨ab, o + 8, none⟩) = B2 := ⟨_, rfl⟩
      rw [hB2e] at HB2
      simp only [hB2e] at r2
      have HW2 : Hid (Calls Tryd.prog 22 #[.agg #[.int .u8 (byt l k 0 : Int), .int .u8 (byt l k 1 : Int), .int .u8 (byt l k 2 : Int), .int .u8 (byt l k 3 : Int), .int .u8 (byt l k 4 : Int), .int .u8 (byt l k 5 : Int), .int .u8 (byt l k 6 : Int), .int .u8 (byt l k 7 : Int)]] wr fun e w' => e = .returned (.int .u64 (wrd l k : Int)) ∧ Below wr.heap.size wr w') := Lib.hid (HW.out (byt l k) wr (byt_lt l k))
      clear kk hcells hB2e hbl
      go_wp2_with fail
      refine HW2.out.mono ?_
      rintro e w4 ⟨rfl, hB4⟩
      have HT4 := Lib.hid (hT.out.below hB4 hT.out.lt)
      have hB5 := Below.step hB hB4
      have HT5 := Lib.hid (HT.out g (stS A0 B0 l k) (wrd l k) w4 (HS.out k) (wrd_lt l k) HT4.out)
      clear hB4 HT4 hT hB HW2 k0 k1 k2 k3 k4 k5 k6 k7
      obtain ⟨wk, hwk⟩ : ∃ x, wrd l k = x := ⟨_, rfl⟩
      rw [hwk] at HT5 ⊢
      have HWK := Lib.hid hwk
      clear hwk
      go_wp2_with fail
      refine HT5.out.mono ?_
      rintro e w6 ⟨rfl, hT6, hB6⟩
      have HT6 : Hid (StR w6 g 42 (stS A0 B0 l (k + 1))) := Lib.hid (by rw [stS_succ, HWK.out]; exact hT6)
      have hB7 := hB5.trans (hB6.mono HG.out)
      clear hT6 hB6 hB5 HT5 r1
      go_wp2_with fail
      go_roundw
      case rel => exact ⟨k + 1, r - 8, c' - 8, some B2, by omega, by omega, rfl, HB2, HT6, hB7⟩
      case measure => simp only [slen]; omega
    · have hnlt : ¬ (8 : Int) ≤ (r : Int) := by omega
      have HLW2 := Lib.hid (HLW.out B (l.drop (8 * k)) r c' m wr HDL.out (by omega) hl (HB.out.below hB))
      have HX := Lib.hid (HEND.out k r (by rw [HM.out]; exact hkr) (by omega))
      rw [HM.out] at HX
      have HWL : Hid (wd (lastF (l.drop (8 * k)) m) 8 < 18446744073709551616) := Lib.hid (wd_lt (lastF_lt _ _) 8 (by decide))
      generalize wd (lastF (l.drop (8 * k)) m) 8 = wk at HLW2 HX HWL
      have S := Lib.hid (HS.out k)
      generalize stS A0 B0 l k = vk at hT HX S
      go_wp2_with fail
      refine HLW2.out.mono ?_
      rintro e w4 ⟨rfl, hB4⟩
      have HT4 := Lib.hid (hT.out.below hB4 hT.out.lt)
      have hB5 := Below.step hB hB4
      have HT5 := Lib.hid (HT.out g vk wk w4 S.out HWL.out HT4.out)
      clear hB4 HT4 hT hB
      go_wp2_with fail
      refine HT5.out.mono ?_
      rintro e w6 ⟨rfl, hT6, hB6⟩
      have hB7 := hB5.trans (hB6.mono HG.out)
      have HE2 := Lib.hid (HE.out g _ w6 (takeS_sm S.out HWL.out) hT6)
      clear hB6 hB5 hT6 HT5
      rw [HX.out] at HE2
      go_wp2_with fail
      refine HE2.out.mono ?_
      rintro e w8 ⟨rfl, hB8⟩
      have hB9 := hB7.trans (hB8.mono HG.out)
      clear hB8 hB7
      go_wp2_with fail
      go_ret
      exact ⟨rfl, hB9⟩
end Go.Proofs.YthalnnhkeaanhaaDoor
