/-
  The contract of the specification's Sum. Condition: at most a million bytes.
-/
import Derived.Test.YthalnnhkeaanhaaDoorMacH
namespace Go.Proofs.YthalnnhkeaanhaaDoor
open Go.RowKit Go.Maps
set_option linter.unusedVariables false

theorem four_put (v : Nat → Nat) (i x : Nat) (h : i < 4) : four (up v i x) = (four v).setIfInBounds i (.int .u64 (x : Int)) := (four_set v x h).symm
theorem four_lit (v : Nat → Nat) : four v = #[.int .u64 (v 0 : Int), .int .u64 (v 1 : Int), .int .u64 (v 2 : Int), .int .u64 (v 3 : Int)] := rfl
theorem four_three (v : Nat → Nat) (x : Nat) : four (up v 3 x) = #[.int .u64 (v 0 : Int), .int .u64 (v 1 : Int), .int .u64 (v 2 : Int), .int .u64 (x : Int)] := rfl
theorem four_two (v : Nat → Nat) (x : Nat) : four (up v 2 x) = #[.int .u64 (v 0 : Int), .int .u64 (v 1 : Int), .int .u64 (x : Int), .int .u64 (v 3 : Int)] := rfl
theorem StR.all {w : World} {b : Nat} {T : TypeId} {v : Nat → Nat} (h : StR w b T v) (u : Nat → Nat) :
    StR ((((w.setCell ⟨b, 0, none⟩ (.int .u64 (u 0 : Int))).setCell ⟨b, 1, none⟩ (.int .u64 (u 1 : Int))).setCell ⟨b, 2, none⟩ (.int .u64 (u 2 : Int))).setCell ⟨b, 3, none⟩ (.int .u64 (u 3 : Int))) b T u := by
  have := (((h.set (u 0) (k := 0) (by decide)).set (u 1) (k := 1) (by decide)).set (u 2) (k := 2) (by decide)).set (u 3) (k := 3) (by decide)
  unfold StR at *
  rw [this, four_lit, four_lit u]
  rfl
theorem ref_end (A B : Nat) (l : List UInt8) (k m : Nat) (hm : l.length = m) (h : ¬ 8 * k ≤ m) (hk : 8 * k ≤ m + 8) : fourS (rep (xorS (stS A B l k) 2 255) 4) = sumS A B l := by
  unfold sumS
  rw [show l.length / 8 + 1 = k by omega]
  rfl

set_option maxRecDepth 100000 in
set_option maxHeartbeats 1000000 in
theorem refSum_any (A0 B0 : Nat) (A : Option Addr) (l : List UInt8) (m c : Nat) (w : World) (ha : A0 < 18446744073709551616) (hb : B0 < 18446744073709551616) (hm : l.length = m) (hl : m ≤ 1000000) (hc : m ≤ c) (h : BytR w A l) :
    Calls Tryd.prog 11 #[.agg #[.int .u64 (A0 : Int), .int .u64 (B0 : Int)], .slice A m c] w fun e w' => e = .returned (.int .u64 (sumS A0 B0 l : Int)) ∧ Below w.heap.size w w' := by
  have HRd := Lib.hid (fun v w hs => refRound_any v w hs)
  have HW := Lib.hid (fun k w hk h => refWord_any A l m c k w hm hl hk h)
  have HS := Lib.hid (stS_sm ha hb l)
  have HZ := Lib.hid (four_start A0 B0)
  have HST : Hid (stS A0 B0 l 0 = startS A0 B0) := Lib.hid rfl
  have x0 := u64_xor_nat A0 8317987319222330741 ha (by decide)
  have x1 := u64_xor_nat B0 7237128888997146477 hb (by decide)
  have x2 := u64_xor_nat A0 7816392313619706465 ha (by decide)
  have x3 := u64_xor_nat B0 8387220255154660723 hb (by decide)
  generalize A0 ^^^ 8317987319222330741 = y0 at x0 HZ
  generalize B0 ^^^ 7237128888997146477 = y1 at x1 HZ
  generalize A0 ^^^ 7816392313619706465 = y2 at x2 HZ
  generalize B0 ^^^ 8387220255154660723 = y3 at x3 HZ
  have x0 : bits .xor .u64 (A0 : Int) 8317987319222330741 = (y0 : Int) := x0
  have x1 : bits .xor .u64 (B0 : Int) 7237128888997146477 = (y1 : Int) := x1
  have x2 : bits .xor .u64 (A0 : Int) 7816392313619706465 = (y2 : Int) := x2
  have x3 : bits .xor .u64 (B0 : Int) 8387220255154660723 = (y3 : Int) := x3
  have HEND := Lib.hid (fun k h hk => ref_end A0 B0 l k m hm h hk)
  have HM := Lib.hid hm
  have HR := Lib.hid h
  clear h hm ha hb
  go_enter Tryd.func11, Tryd.ntmps11
  go_wp2_with fail
  have hB0 : Below w.heap.size w ((w.alloc (.cells #[.int .u64 (A0 : Int), .int .u64 (B0 : Int)] 24)).alloc (.cells #[.int .u64 (y0 : Int), .int .u64 (y1 : Int), .int .u64 (y2 : Int), .int .u64 (y3 : Int)] 41)) := ((Below.refl _ _).alloc (Nat.le_refl _) _).alloc (by simp) _
  have H0 : Hid (StR ((w.alloc (.cells #[.int .u64 (A0 : Int), .int .u64 (B0 : Int)] 24)).alloc (.cells #[.int .u64 (y0 : Int), .int .u64 (y1 : Int), .int .u64 (y2 : Int), .int .u64 (y3 : Int)] 41)) (w.heap.size + 1) 41 (stS A0 B0 l 0)) := Lib.hid (by
    show _ = _
    rw [HST.out, HZ.out]
    have := heap_alloc_new (w.alloc (.cells #[.int .u64 (A0 : Int), .int .u64 (B0 : Int)] 24)) (.cells #[.int .u64 (y0 : Int), .int .u64 (y1 : Int), .int .u64 (y2 : Int), .int .u64 (y3 : Int)] 41)
    rwa [World.size_alloc] at this)
  have HG : Hid (w.heap.size ≤ w.heap.size + 1) := Lib.hid (by omega)
  generalize (w.alloc (.cells #[.int .u64 (A0 : Int), .int .u64 (B0 : Int)] 24)).alloc (.cells #[.int .u64 (y0 : Int), .int .u64 (y1 : Int), .int .u64 (y2 : Int), .int .u64 (y3 : Int)] 41) = w1 at hB0 H0 ⊢
  generalize w.heap.size + 1 = g at H0 HG ⊢
  clear HZ HST x0 x1 x2 x3
  go_loopw [6] (fun i wr => ∃ k : Nat, 8 * k ≤ m + 8 ∧ i = .int .i64 (k : Int) ∧ Hid (StR wr g 41 (stS A0 B0 l k)) ∧ Below w.heap.size w wr) (fun i _ => m + 8 - (intOf i).toNat)
  case atStart => exact ⟨0, by omega, rfl, H0, hB0⟩
  case round =>
    obtain ⟨k, hk, rfl, hT, hB⟩ := hrel
    by_cases hlt : 8 * k ≤ m
    · have hltz : (k : Int) ≤ (m : Int) / 8 := by omega
      have HW2 := Lib.hid (HW.out k wr hlt (HR.out.below hB))
      have HSU : Hid (stS A0 B0 l (k + 1) = xorS (roundS (roundS (xorS (stS A0 B0 l k) 3 (wrd l k)))) 0 (wrd l k)) := Lib.hid rfl
      have S := Lib.hid (HS.out k)
      have hwk := wrd_lt l k
      generalize wrd l k = wk at HW2 HSU hwk
      generalize stS A0 B0 l k = v at hT HSU S
      have HWK := Lib.hid hwk
      clear hwk
      have c0 := hT.out.cell (k := 0) (by decide)
      have c1 := hT.out.cell (k := 1) (by decide)
      have c2 := hT.out.cell (k := 2) (by decide)
      have c3 := hT.out.cell (k := 3) (by decide)
      have f3 := hT.out.frozen 3
      have hx := u64_xor_nat (v 3) wk (S.out 3) HWK.out
      have HX3 := Lib.hid (xorS_sm S.out 3 HWK.out)
      have HE1 : Hid (∀ x, v 3 ^^^ wk = x → xorS v 3 wk = up v 3 x) := Lib.hid (fun x hx => by rw [← hx]; rfl)
      obtain ⟨x, hxx⟩ : ∃ x, v 3 ^^^ wk = x := ⟨_, rfl⟩
      rw [hxx] at hx
      have HE1 := Lib.hid (HE1.out x hxx)
      clear hxx
      have HA := Lib.hid (HRd.out (xorS v 3 wk) (wr.setCell ⟨g, 3, none⟩ (.int .u64 (x : Int))) HX3.out)
      have HA2 := Lib.hid (fun w => HRd.out _ w (roundS_sm HX3.out))
      have SF := Lib.hid (roundS_sm (roundS_sm HX3.out))
      rw [HE1.out] at HA HSU HA2 SF
      rw [four_three] at HA
      have HT2 := Lib.hid (hT.out.set x (k := 3) (by decide))
      have hB2 := hB.setCell (p := ⟨g, 3, none⟩) HG.out (.int .u64 (x : Int))
      clear HE1 HX3
      generalize roundS (up v 3 x) = v2 at HA HA2 HSU SF
      generalize up v 3 x = v1 at HT2
      go_wp2_with fail
      refine HW2.out.mono ?_
      rintro e w3 ⟨rfl, rfl⟩
      clear HW2
      go_wp2_with fail
      refine HA.out.mono ?_
      rintro e w4 ⟨rfl, hB4⟩
      have HT4 := Lib.hid (HT2.out.below hB4 HT2.out.lt)
      have hB5 := Below.step hB2 hB4
      clear HA hB4 HT2 hB2 hT hB c0 c1 c2 c3 f3 hx
      go_wp2_with fail
      refine (HA2.out _).mono ?_
      rintro e w6 ⟨rfl, hB6⟩
      have HT6 := Lib.hid (HT4.out.below hB6 HT4.out.lt)
      have hB7 := Below.step hB5 hB6
      clear HA2 hB6 HT4 hB5
      generalize roundS v2 = u at HSU SF ⊢
      rw [four_lit u]
      have c0 := HT6.out.cell (k := 0) (by decide)
      have c1 := HT6.out.cell (k := 1) (by decide)
      have c2 := HT6.out.cell (k := 2) (by decide)
      have c3 := HT6.out.cell (k := 3) (by decide)
      have f0 := HT6.out.frozen 0
      have f1 := HT6.out.frozen 1
      have f2 := HT6.out.frozen 2
      have f3 := HT6.out.frozen 3
      have hx := u64_xor_nat (u 0) wk (SF.out 0) HWK.out
      have HE1 : Hid (∀ y, u 0 ^^^ wk = y → xorS u 0 wk = up u 0 y) := Lib.hid (fun y hy => by rw [← hy]; rfl)
      obtain ⟨y, hyy⟩ : ∃ y, u 0 ^^^ wk = y := ⟨_, rfl⟩
      rw [hyy] at hx
      rw [HE1.out y hyy] at HSU
      clear hyy HE1
      have HT8 := Lib.hid ((HT6.out.all u).set y (k := 0) (by decide))
      have hB8 := ((((hB7.setCell (p := ⟨g, 0, none⟩) HG.out (.int .u64 (u 0 : Int))).setCell (p := ⟨g, 1, none⟩) HG.out (.int .u64 (u 1 : Int))).setCell (p := ⟨g, 2, none⟩) HG.out (.int .u64 (u 2 : Int))).setCell (p := ⟨g, 3, none⟩) HG.out (.int .u64 (u 3 : Int))).setCell (p := ⟨g, 0, none⟩) HG.out (.int .u64 (y : Int))
      go_wp2_with fail
      go_roundw
      case rel => exact ⟨k + 1, by omega, by go_num, by rw [HSU.out]; exact HT8, hB8⟩
      case measure => simp only [intOf]; omega
    · have hnlt : ¬ (k : Int) ≤ (m : Int) / 8 := by omega
      have HE := Lib.hid (HEND.out k hlt hk)
      have S := Lib.hid (HS.out k)
      generalize stS A0 B0 l k = v at hT HE S
      have c0 := hT.out.cell (k := 0) (by decide)
      have c1 := hT.out.cell (k := 1) (by decide)
      have c2 := hT.out.cell (k := 2) (by decide)
      have c3 := hT.out.cell (k := 3) (by decide)
      have f2 := hT.out.frozen 2
      have hx : bits .xor .u64 (v 2 : Int) 255 = ((v 2 ^^^ 255 : Nat) : Int) := u64_xor_nat (v 2) 255 (S.out 2) (by decide)
      have HX2 := Lib.hid (xorS_sm (m := 255) S.out 2 (by decide))
      have HE1 : Hid (∀ x, v 2 ^^^ 255 = x → xorS v 2 255 = up v 2 x) := Lib.hid (fun x hx => by rw [← hx]; rfl)
      obtain ⟨x, hxx⟩ : ∃ x, v 2 ^^^ 255 = x := ⟨_, rfl⟩
      rw [hxx] at hx
      have HE1 := Lib.hid (HE1.out x hxx)
      clear hxx
      rw [HE1.out] at HX2 HE
      clear HE1
      have HA := Lib.hid (HRd.out (up v 2 x) (wr.setCell ⟨g, 2, none⟩ (.int .u64 (x : Int))) HX2.out)
      rw [four_two] at HA
      have HT2 := Lib.hid (hT.out.set x (k := 2) (by decide))
      have hB2 := hB.setCell (p := ⟨g, 2, none⟩) HG.out (.int .u64 (x : Int))
      have SR := Lib.hid (fun k => rep_sm HX2.out k)
      have HR1 : Hid (roundS (up v 2 x) = rep (up v 2 x) 1) := Lib.hid rfl
      rw [HR1.out] at HA
      generalize up v 2 x = v1 at HT2 SR HE HA
      clear HX2 HR1
      go_wp2_with fail
      refine HA.out.mono ?_
      rintro e w4 ⟨rfl, hB4⟩
      have HT4 := Lib.hid (HT2.out.below hB4 HT2.out.lt)
      have hB5 := Below.step hB2 hB4
      have HA2 := Lib.hid (fun w => HRd.out _ w (SR.out 1))
      rw [← rep_succ] at HA2
      clear HA hB4 HT2 hB2 hT hB c0 c1 c2 c3 f2 hx
      go_wp2_with fail
      refine (HA2.out _).mono ?_
      rintro e w6 ⟨rfl, hB6⟩
      have HT6 := Lib.hid (HT4.out.below hB6 HT4.out.lt)
      have hB7 := Below.step hB5 hB6
      have HA3 := Lib.hid (fun w => HRd.out _ w (SR.out 2))
      rw [← rep_succ] at HA3
      clear HA2 hB6 HT4 hB5
      go_wp2_with fail
      refine (HA3.out _).mono ?_
      rintro e w8 ⟨rfl, hB8⟩
      have HT8 := Lib.hid (HT6.out.below hB8 HT6.out.lt)
      have hB9 := Below.step hB7 hB8
      have HA4 := Lib.hid (fun w => HRd.out _ w (SR.out 3))
      rw [← rep_succ] at HA4
      clear HA3 hB8 HT6 hB7
      go_wp2_with fail
      refine (HA4.out _).mono ?_
      rintro e w10 ⟨rfl, hB10⟩
      have HT10 := Lib.hid (HT8.out.below hB10 HT8.out.lt)
      have hB11 := Below.step hB9 hB10
      have s := SR.out 4
      obtain ⟨u, hu⟩ : ∃ u, rep v1 4 = u := ⟨_, rfl⟩
      have hu : rep v1 (3 + 1) = u := hu
      have HE : Hid (fourS (rep v1 (3 + 1)) = sumS A0 B0 l) := HE
      have s : Sm (rep v1 (3 + 1)) := s
      rw [hu] at s HE ⊢
      clear hu SR HA4 hB10 HT8 hB9
      have HE : Hid (u 0 ^^^ u 1 ^^^ u 2 ^^^ u 3 = sumS A0 B0 l) := HE
      rw [four_lit u]
      have c0 := HT10.out.cell (k := 0) (by decide)
      have c1 := HT10.out.cell (k := 1) (by decide)
      have c2 := HT10.out.cell (k := 2) (by decide)
      have c3 := HT10.out.cell (k := 3) (by decide)
      have f0 := HT10.out.frozen 0
      have f1 := HT10.out.frozen 1
      have f2 := HT10.out.frozen 2
      have f3 := HT10.out.frozen 3
      have s0 := s 0
      have s1 := s 1
      have s2 := s 2
      have s3 := s 3
      have hB12 := (((hB11.setCell (p := ⟨g, 0, none⟩) HG.out (.int .u64 (u 0 : Int))).setCell (p := ⟨g, 1, none⟩) HG.out (.int .u64 (u 1 : Int))).setCell (p := ⟨g, 2, none⟩) HG.out (.int .u64 (u 2 : Int))).setCell (p := ⟨g, 3, none⟩) HG.out (.int .u64 (u 3 : Int))
      clear s HT10 hB11
      generalize u 0 = u0 at HE s0 hB12 ⊢
      generalize u 1 = u1 at HE s1 hB12 ⊢
      generalize u 2 = u2 at HE s2 hB12 ⊢
      generalize u 3 = u3 at HE s3 hB12 ⊢
      have x1 := u64_xor_nat u0 u1 s0 s1
      have x2 := u64_xor_nat (u0 ^^^ u1) u2 (xor_lt64 s0 s1) s2
      have x3 := u64_xor_nat (u0 ^^^ u1 ^^^ u2) u3 (xor_lt64 (xor_lt64 s0 s1) s2) s3
      rw [HE.out] at x3
      generalize u0 ^^^ u1 ^^^ u2 = y2 at x2 x3
      generalize u0 ^^^ u1 = y1 at x1 x2
      clear HE
      go_wp2_with fail
      go_ret
      exact ⟨rfl, hB12⟩
end Go.Proofs.YthalnnhkeaanhaaDoor
