/-
  The contract of symMergeCmpFunc, of the library's stable sort, over a row of indices: two runs, each in order, become one.
-/
import Derived.Test.YtjgajcabecklcaaDoorNumS
import Derived.Deep.DeepCutAuto
namespace Go.Proofs.YtjgajcabecklcaaDoor
open Go.RowKit
set_option linter.unusedVariables false

theorem Srt.congr {k : Nat → Int} {f g : Nat → Nat} {a b : Nat} (h : Srt k f a b) (e : ∀ x, a ≤ x → x < b → g x = f x) : Srt k g a b := fun x y c1 c2 c3 => by
  rw [e x c1 (by omega), e y (by omega) c3]
  exact h x y c1 c2 c3
theorem Low.congr {f g : Nat → Nat} {a m b : Nat} (h : Low f a m b) (h1 : a ≤ m) (h2 : m ≤ b) (e : ∀ x, a ≤ x → x < b → g x = f x) : Low g a m b := fun x y c1 c2 c3 c4 => by
  rw [e x c1 (by omega), e y (by omega) c4]
  exact h x y c1 c2 c3 c4

/-- What the recursion gives, at ranges shorter than N. -/
def SymAt (n : Nat) (w0 : World) (blk cap gf : Nat) (cb : Array Value) (k : Nat → Int) (N : Nat) : Prop :=
  ∀ (f : Nat → Nat) (w : World) (a m b : Nat), b - a < N → a < m → m < b → b ≤ n → St n w0 blk f w → In n f → Srt k f a m → Srt k f m b → Low f a m b →
    Calls Tryd.prog 82 #[.slice (some ⟨blk, 0, none⟩) n cap, .int .i64 a, .int .i64 m, .int .i64 b, .func (.func gf) #[] cb] w fun e w' => e = .returned (.tuple #[]) ∧ ∃ g, Merged k f g a b ∧ St n w0 blk g w'

/-- The state behind the rotation. -/
structure Cutd (n : Nat) (k : Nat → Int) (f g : Nat → Nat) (a s mid e b : Nat) : Prop where
  inn : In n g
  same : Same f g a b
  p1 : Srt k g a s
  p2 : Srt k g s mid
  p3 : Low g a s mid
  p4 : Srt k g mid e
  p5 : Srt k g e b
  p6 : Low g mid e b
  p7 : ∀ x y, a ≤ x → x < mid → mid ≤ y → y < b → bef k (g x) (g y)
theorem cutd_of {n : Nat} {k : Nat → Int} {f : Nat → Nat} {a s m mid e b : Nat} (hv : In n f) (hb : b ≤ n) (h1 : a ≤ s) (h2 : s ≤ m) (h3 : m ≤ e) (h4 : e ≤ b) (hm : s + e = mid + m) (L : Srt k f a m) (R : Srt k f m b) (lo : Low f a m b)
    (hA : a < s → e < b → bef k (f (s - 1)) (f e)) (hB : s < m → m < e → bef k (f (e - 1)) (f s)) : Cutd n k f (rotF f s m e) a s mid e b := by
  obtain ⟨p1, p2, p3, p4, p5, p6, p7⟩ := merge_split k f a s m e b h1 h2 h3 h4 L R lo hA hB
  have em : s + (e - m) = mid := by omega
  rw [em] at p2 p3 p4 p6 p7
  exact ⟨In.same hv (Same.rot f s m e h2 h3) (by omega), (Same.rot f s m e h2 h3).wide h1 h4, p1, p2, p3, p4, p5, p6, p7⟩
section
variable {n : Nat} {k : Nat → Int} {f g g1 g2 : Nat → Nat} {a s mid e b : Nat}
theorem Cutd.leftZ (C : Cutd n k f g a s mid e b) (h : s ≤ a) : Merged k g g a mid := ⟨fun x y c1 c2 c3 => C.p2 x y (by omega) c2 c3, Same.refl _ _ _⟩
theorem Cutd.leftY (C : Cutd n k f g a s mid e b) (h : mid ≤ s) : Merged k g g a mid := ⟨fun x y c1 c2 c3 => C.p1 x y c1 c2 (by omega), Same.refl _ _ _⟩
theorem Cutd.r1 (C : Cutd n k f g a s mid e b) (M : Merged k g g1 a mid) : Srt k g1 mid e := C.p4.congr fun x c1 c2 => M.2.out x (Or.inr c1)
theorem Cutd.r2 (C : Cutd n k f g a s mid e b) (M : Merged k g g1 a mid) (h : mid ≤ e) : Srt k g1 e b := C.p5.congr fun x c1 c2 => M.2.out x (Or.inr (by omega))
theorem Cutd.r3 (C : Cutd n k f g a s mid e b) (M : Merged k g g1 a mid) (h : mid ≤ e) (h2 : e ≤ b) : Low g1 mid e b := C.p6.congr h h2 fun x c1 c2 => M.2.out x (Or.inr c1)
theorem Cutd.rightX (C : Cutd n k f g a s mid e b) (M : Merged k g g1 a mid) (h : e ≤ mid) (h2 : mid ≤ e) : Merged k g1 g1 mid b := ⟨fun x y c1 c2 c3 => C.r2 M h2 x y (by omega) c2 c3, Same.refl _ _ _⟩
theorem Cutd.rightW (C : Cutd n k f g a s mid e b) (M : Merged k g g1 a mid) (h : b ≤ e) : Merged k g1 g1 mid b := ⟨fun x y c1 c2 c3 => C.r1 M x y c1 c2 (by omega), Same.refl _ _ _⟩
theorem Cutd.fin (C : Cutd n k f g a s mid e b) (h1 : a ≤ mid) (h2 : mid ≤ b) (M : Merged k g g1 a mid) (M2 : Merged k g1 g2 mid b) : Merged k f g2 a b := merge_join k f g g1 g2 a mid b h1 h2 C.same M M2 C.p7
end

set_option maxRecDepth 100000 in
set_option maxHeartbeats 16000000 in
theorem symMerge_both (n : Nat) (w0 : World) (blk cap gf : Nat) (cb : Array Value) (k : Nat → Int) (cf : Nat → Nat → Int) (C : CmpN n w0 blk gf cb k cf) (R : RowN n w0 blk) (hn : n ≤ 4096)
    (f : Nat → Nat) (w : World) (S : St n w0 blk f w) (hv : In n f) (a m b : Nat) (h1 : a + 2 ≤ m) (h2 : m + 2 ≤ b) (h3 : b ≤ n) (hL : Srt k f a m) (hR : Srt k f m b) (lo : Low f a m b) (IH : SymAt n w0 blk cap gf cb k (b - a)) :
    Calls Tryd.prog 82 #[.slice (some ⟨blk, 0, none⟩) n cap, .int .i64 a, .int .i64 m, .int .i64 b, .func (.func gf) #[] cb] w fun e w' => e = .returned (.tuple #[]) ∧ ∃ g, Merged k f g a b ∧ St n w0 blk g w' := by
  have mixed := mixed_prog
  have eg := C.eg
  have HC := Lib.hid C
  have HR := Lib.hid R
  have HV := Lib.hid hv
  have HS : Hid (St n w0 blk f w) := Lib.hid S
  have HLL := Lib.hid hL
  have HRR := Lib.hid hR
  have HLO := Lib.hid lo
  have HIH := Lib.hid IH
  obtain ⟨d1, hd1⟩ : ∃ d, m - a = d := ⟨_, rfl⟩
  obtain ⟨d2, hd2⟩ : ∃ d, b - m = d := ⟨_, rfl⟩
  obtain ⟨mid, hmid⟩ : ∃ d, (a + b) / 2 = d := ⟨_, rfl⟩
  obtain ⟨nn, hnn⟩ : ∃ d, mid + m = d := ⟨_, rfl⟩
  obtain ⟨pp, hpp⟩ : ∃ d, nn - 1 = d := ⟨_, rfl⟩
  obtain ⟨s0, r0, hsr⟩ : ∃ s r : Nat, (mid < m ∧ nn = s + b ∧ r = mid) ∨ (m ≤ mid ∧ s = a ∧ r = m) := by
    by_cases c : mid < m
    · exact ⟨nn - b, mid, Or.inl ⟨c, by omega, rfl⟩⟩
    · exact ⟨a, m, Or.inr ⟨by omega, rfl, rfl⟩⟩
  have u1 : a ≤ s0 ∧ s0 ≤ r0 ∧ r0 ≤ m ∧ r0 ≤ mid ∧ m + r0 ≤ nn ∧ nn ≤ s0 + b := by omega
  obtain ⟨u1, u2, u3, u4, u5, u6⟩ := u1
  have u7 : s0 ≤ a ∨ s0 + b ≤ nn := by omega
  have u8 : m ≤ r0 ∨ nn ≤ r0 + m := by omega
  have t1 : a + 2 ≤ mid ∧ mid + 2 ≤ b := by omega
  obtain ⟨t1, t2⟩ := t1
  have t3 : mid + m ≤ nn ∧ nn ≤ mid + m := by omega
  obtain ⟨t3, t4⟩ := t3
  have t5 : nn ≤ pp + 1 ∧ pp + 1 ≤ nn := by omega
  obtain ⟨t5, t6⟩ := t5
  have z0 : (m : Int) - (a : Int) = (d1 : Int) := by omega
  have z0' : ((d1 : Int) == 1) = false := by rw [beq_eq_false_iff_ne]; omega
  have z0'' : ¬ (d1 : Int) = 1 := by omega
  have z1 : (b : Int) - (m : Int) = (d2 : Int) := by omega
  have z1' : ((d2 : Int) == 1) = false := by rw [beq_eq_false_iff_ne]; omega
  have z1'' : ¬ (d2 : Int) = 1 := by omega
  have z2 : ((a : Int) + (b : Int)) / 2 = (mid : Int) := by omega
  have z3 : (mid : Int) + (m : Int) = (nn : Int) := by omega
  have z4 : (nn : Int) - 1 = (pp : Int) := by omega
  have HSR := Lib.hid hsr
  clear C R hv S hL hR lo hd1 hd2 hmid hnn hpp hsr IH
  go_enter Tryd.func82, Tryd.ntmps82
  go_upto_if 140 with fail
  go_cut [20, 21] (fun x y wx => x = .int .i64 (s0 : Int) ∧ y = .int .i64 (r0 : Int) ∧ w = wx)
  case first =>
    by_cases c : mid < m
    · have cz : (mid : Int) < (m : Int) := by omega
      have zs : (nn : Int) - (b : Int) = (s0 : Int) := by
        have := HSR.out
        omega
      have er : mid = r0 := by
        have := HSR.out
        omega
      have ER := Lib.hid er
      clear er
      go_wp2_with fail
      go_meet
      case rel => exact ⟨rfl, by rw [ER.out], rfl⟩
    · have cz : ¬ (mid : Int) < (m : Int) := by omega
      have er : m = r0 := by
        have := HSR.out
        omega
      have es : a = s0 := by
        have := HSR.out
        omega
      have ER := Lib.hid er
      have ES := Lib.hid es
      clear er es
      go_wp2_with fail
      go_meet
      case rel => exact ⟨by rw [ES.out], by rw [ER.out], rfl⟩
  case rest =>
  obtain ⟨rfl, rfl, rfl⟩ := hcut
  go_wp2
  go_loopw [20, 21] (fun vs vr wr => ∃ (s r : Nat), vs = .int .i64 s ∧ vr = .int .i64 r ∧ s0 ≤ s ∧ s ≤ r ∧ r ≤ r0 ∧ Hid (St n w0 blk f wr) ∧ Hid (s0 < s → bef k (f (s - 1)) (f (nn - s))) ∧ Hid (r < r0 → bef k (f (nn - 1 - r)) (f r))) (fun vs vr _ => (intOf vr - intOf vs).toNat)
  case atStart => exact ⟨s0, r0, rfl, rfl, Nat.le_refl _, u2, Nat.le_refl _, HS, Lib.hid (fun h => by omega), Lib.hid (fun h => by omega)⟩
  case round =>
    obtain ⟨s, r, rfl, rfl, hs, hsr, hr, HSG, HI, HJ⟩ := hrel
    by_cases c : s < r
    · have hcz : (s : Int) < (r : Int) := by omega
      obtain ⟨h, hh⟩ : ∃ q, (s + r) / 2 = q := ⟨_, rfl⟩
      have ⟨b1, b2⟩ := half_lt c
      rw [hh] at b1 b2
      have zh : ((s : Int) + (r : Int)) / 2 = (h : Int) := by omega
      obtain ⟨d, hd⟩ : ∃ q, nn - 1 - h = q := ⟨_, rfl⟩
      have zd : (pp : Int) - (h : Int) = (d : Int) := by omega
      have dm : m ≤ d := by omega
      have db : d < b := by omega
      have ch := HSG.out.cell HR.out HV.out h (by omega)
      have ca := HSG.out.cell HR.out HV.out d (by omega)
      have hc := fun q => HC.out.call f _ (HSG.out.drewN q) (f d) (f h) (HV.out d (by omega)) (HV.out h (by omega))
      obtain ⟨x, hx⟩ : ∃ x, f h = x := ⟨_, rfl⟩
      obtain ⟨y, hy⟩ : ∃ x, f d = x := ⟨_, rfl⟩
      rw [hx] at ch
      rw [hy] at ca
      simp only [hx, hy] at hc
      have HX := Lib.hid hx
      have HY := Lib.hid hy
      have HD := Lib.hid hd
      have hhn : (h : Int) < (n : Int) := by omega
      have hdn : (d : Int) < (n : Int) := by omega
      have hsays := HC.out.says (f d) (f h) (HV.out d (by omega)) (HV.out h (by omega))
      rw [HX.out, HY.out] at hsays
      have HSY := Lib.hid hsays
      clear hx hy hh hd hsays
      by_cases hlt : cf y x < 0
      · have hdl : decide (cf y x < 0) = true := decide_eq_true hlt
        have HN : Hid (h < r0 → bef k (f (nn - 1 - h)) (f h)) := Lib.hid (fun _ => by
          rw [HD.out, HX.out, HY.out]
          exact Or.inl (HSY.out.1 hlt))
        have hwr : IntKind.i64.wrap ((pp : Int) - (h : Int)) = (d : Int) := by rw [IntKind.wrap_i64]; omega
        go_wp2_with fail
        go_quiet ((go_at_fn gf; refine Calls.quiet_of (hc _)))
        have HS2 := Lib.hid (SW.drewN HSG.out nq)
        clear HSG ch ca hc hwr
        generalize wr.drewN nq = w2 at HS2 ⊢
        go_wp2
        go_roundw
        case rel => exact ⟨s, h, rfl, rfl, hs, by omega, by omega, HS2, HI, HN⟩
        case measure => simp only [intOf]; omega
      · have hdl : decide (cf y x < 0) = false := decide_eq_false hlt
        have HN : Hid (s0 < h + 1 → bef k (f (h + 1 - 1)) (f (nn - (h + 1)))) := Lib.hid (fun _ => by
          have h1 := (not_congr HSY.out).1 hlt
          have h2 := HLO.out h d (by omega) (by omega) dm db
          rw [Nat.add_sub_cancel, show nn - (h + 1) = d by have := HD.out; omega]
          rw [HX.out, HY.out] at h2 ⊢
          unfold bef
          omega)
        have hwr : IntKind.i64.wrap ((pp : Int) - (h : Int)) = (d : Int) := by rw [IntKind.wrap_i64]; omega
        go_wp2_with fail
        go_quiet ((go_at_fn gf; refine Calls.quiet_of (hc _)))
        have HS2 := Lib.hid (SW.drewN HSG.out nq)
        clear HSG ch ca hc hwr
        generalize wr.drewN nq = w2 at HS2 ⊢
        go_wp2
        go_roundw
        case rel => exact ⟨h + 1, r, val_int' (by omega), rfl, by omega, by omega, hr, HS2, HN, HJ⟩
        case measure => simp only [intOf]; omega
    · have esr : s = r := by omega
      subst esr
      obtain ⟨e, he⟩ : ∃ q, nn - s = q := ⟨_, rfl⟩
      have ze : (nn : Int) - (s : Int) = (e : Int) := by omega
      have hcut : Cutd n k f (rotF f s m e) a s mid e b := cutd_of HV.out h3 (by omega) (by omega) (by omega) (by omega) (by omega) HLL.out HRR.out HLO.out
        (fun c1 c2 => by
          rw [← he]
          exact HI.out (by omega))
        (fun c1 c2 => by
          rw [show e - 1 = nn - 1 - s by omega]
          exact HJ.out (by omega))
      have HCUT := Lib.hid hcut
      have e1 : e + s ≤ nn ∧ nn ≤ e + s := by omega
      obtain ⟨e1, e2⟩ := e1
      have e3 : m ≤ e ∧ e ≤ b ∧ mid ≤ e ∧ s ≤ mid := by omega
      obtain ⟨e3, e4, e5, e6⟩ := e3
      clear he hcut HI HJ HLL HRR HLO
      by_cases cX : s < m
      · by_cases cY : m < e
        · have x1 : (s : Int) < (m : Int) := by omega
          have x2 : (mid : Int) < (e : Int) := by omega
          have y1 : (m : Int) < (e : Int) := by omega
          have y2 : (s : Int) < (mid : Int) := by omega
          have hrot := rotate_any n w0 blk cap f wr s m e (.func (.func gf) #[] cb) HR.out HSG.out HV.out hn (by omega) (by omega) (by omega)
          have HROT := Lib.hid hrot
          clear hrot HSG
          go_wp2_with fail
          refine HROT.out.mono ?_
          rintro q w2 ⟨rfl, hq⟩
          have HS2 : Hid (St n w0 blk (rotF f s m e) w2) := Lib.hid hq
          clear HROT hq
          by_cases cz : a < s
          · have z5 : (a : Int) < (s : Int) := by omega
            have hl := HIH.out (rotF f s m e) w2 a s mid (by omega) cz (by omega) (by omega) HS2.out HCUT.out.inn HCUT.out.p1 HCUT.out.p2 HCUT.out.p3
            have HLEFT := Lib.hid hl
            clear hl HS2
            go_wp2_with fail
            refine HLEFT.out.mono ?_
            rintro q w3 ⟨rfl, g1, hm1, hq⟩
            have HS3 : Hid (St n w0 blk g1 w3) := Lib.hid hq
            have HM1 := Lib.hid hm1
            clear hq hm1 HLEFT
            by_cases cw : e < b
            · have z6 : (e : Int) < (b : Int) := by omega
              have hin1 : In n g1 := In.same HCUT.out.inn HM1.out.2 (by omega)
              have hr2 := HIH.out g1 w3 mid e b (by omega) (by omega) cw h3 HS3.out hin1 (HCUT.out.r1 HM1.out) (HCUT.out.r2 HM1.out e5) (HCUT.out.r3 HM1.out e5 e4)
              have HRIGHT := Lib.hid hr2
              clear hr2 HS3 hin1
              go_wp2_with fail
              refine HRIGHT.out.mono ?_
              rintro q w4 ⟨rfl, g2, hm2, hq⟩
              have HS4 : Hid (St n w0 blk g2 w4) := Lib.hid hq
              have HM2 := Lib.hid hm2
              clear hq hm2 HRIGHT
              go_wp2
              go_end0
              exact ⟨rfl, g2, HCUT.out.fin (by omega) (by omega) HM1.out HM2.out, HS4.out⟩
            · have z6 : ¬ (e : Int) < (b : Int) := by omega
              go_wp2
              go_end0
              exact ⟨rfl, g1, HCUT.out.fin (by omega) (by omega) HM1.out (HCUT.out.rightW HM1.out (by omega)), HS3.out⟩
          · have z5 : ¬ (a : Int) < (s : Int) := by omega
            obtain ⟨g1, hg1⟩ : ∃ g, rotF f s m e = g := ⟨_, rfl⟩
            have HM1 : Hid (Merged k (rotF f s m e) g1 a mid) := Lib.hid (by rw [← hg1]; exact HCUT.out.leftZ (by omega))
            have HS3 : Hid (St n w0 blk g1 w2) := Lib.hid (by rw [← hg1]; exact HS2.out)
            clear hg1 HS2
            by_cases cw : e < b
            · have z6 : (e : Int) < (b : Int) := by omega
              have hin1 : In n g1 := In.same HCUT.out.inn HM1.out.2 (by omega)
              have hr2 := HIH.out g1 w2 mid e b (by omega) (by omega) cw h3 HS3.out hin1 (HCUT.out.r1 HM1.out) (HCUT.out.r2 HM1.out e5) (HCUT.out.r3 HM1.out e5 e4)
              have HRIGHT := Lib.hid hr2
              clear hr2 HS3 hin1
              go_wp2_with fail
              refine HRIGHT.out.mono ?_
              rintro q w4 ⟨rfl, g2, hm2, hq⟩
              have HS4 : Hid (St n w0 blk g2 w4) := Lib.hid hq
              have HM2 := Lib.hid hm2
              clear hq hm2 HRIGHT
              go_wp2
              go_end0
              exact ⟨rfl, g2, HCUT.out.fin (by omega) (by omega) HM1.out HM2.out, HS4.out⟩
            · have z6 : ¬ (e : Int) < (b : Int) := by omega
              go_wp2
              go_end0
              exact ⟨rfl, g1, HCUT.out.fin (by omega) (by omega) HM1.out (HCUT.out.rightW HM1.out (by omega)), HS3.out⟩
        · have x1 : (s : Int) < (m : Int) := by omega
          have x2 : (mid : Int) < (e : Int) := by omega
          have y1 : ¬ (m : Int) < (e : Int) := by omega
          have y2 : ¬ (s : Int) < (mid : Int) := by omega
          have HS2 : Hid (St n w0 blk (rotF f s m e) wr) := Lib.hid (by
            have es : e = m := by omega
            rw [es, rot_none2 f s m (by omega)]
            exact HSG.out)
          clear HSG
          by_cases cz : a < s
          · have z5 : (a : Int) < (s : Int) := by omega
            obtain ⟨g1, hg1⟩ : ∃ g, rotF f s m e = g := ⟨_, rfl⟩
            have HM1 : Hid (Merged k (rotF f s m e) g1 a mid) := Lib.hid (by rw [← hg1]; exact HCUT.out.leftY (by omega))
            have HS3 : Hid (St n w0 blk g1 wr) := Lib.hid (by rw [← hg1]; exact HS2.out)
            clear hg1 HS2
            by_cases cw : e < b
            · have z6 : (e : Int) < (b : Int) := by omega
              have hin1 : In n g1 := In.same HCUT.out.inn HM1.out.2 (by omega)
              have hr2 := HIH.out g1 wr mid e b (by omega) (by omega) cw h3 HS3.out hin1 (HCUT.out.r1 HM1.out) (HCUT.out.r2 HM1.out e5) (HCUT.out.r3 HM1.out e5 e4)
              have HRIGHT := Lib.hid hr2
              clear hr2 HS3 hin1
              go_wp2_with fail
              refine HRIGHT.out.mono ?_
              rintro q w4 ⟨rfl, g2, hm2, hq⟩
              have HS4 : Hid (St n w0 blk g2 w4) := Lib.hid hq
              have HM2 := Lib.hid hm2
              clear hq hm2 HRIGHT
              go_wp2
              go_end0
              exact ⟨rfl, g2, HCUT.out.fin (by omega) (by omega) HM1.out HM2.out, HS4.out⟩
            · have z6 : ¬ (e : Int) < (b : Int) := by omega
              go_wp2
              go_end0
              exact ⟨rfl, g1, HCUT.out.fin (by omega) (by omega) HM1.out (HCUT.out.rightW HM1.out (by omega)), HS3.out⟩
          · have z5 : ¬ (a : Int) < (s : Int) := by omega
            obtain ⟨g1, hg1⟩ : ∃ g, rotF f s m e = g := ⟨_, rfl⟩
            have HM1 : Hid (Merged k (rotF f s m e) g1 a mid) := Lib.hid (by rw [← hg1]; exact HCUT.out.leftZ (by omega))
            have HS3 : Hid (St n w0 blk g1 wr) := Lib.hid (by rw [← hg1]; exact HS2.out)
            clear hg1 HS2
            by_cases cw : e < b
            · have z6 : (e : Int) < (b : Int) := by omega
              have hin1 : In n g1 := In.same HCUT.out.inn HM1.out.2 (by omega)
              have hr2 := HIH.out g1 wr mid e b (by omega) (by omega) cw h3 HS3.out hin1 (HCUT.out.r1 HM1.out) (HCUT.out.r2 HM1.out e5) (HCUT.out.r3 HM1.out e5 e4)
              have HRIGHT := Lib.hid hr2
              clear hr2 HS3 hin1
              go_wp2_with fail
              refine HRIGHT.out.mono ?_
              rintro q w4 ⟨rfl, g2, hm2, hq⟩
              have HS4 : Hid (St n w0 blk g2 w4) := Lib.hid hq
              have HM2 := Lib.hid hm2
              clear hq hm2 HRIGHT
              go_wp2
              go_end0
              exact ⟨rfl, g2, HCUT.out.fin (by omega) (by omega) HM1.out HM2.out, HS4.out⟩
            · have z6 : ¬ (e : Int) < (b : Int) := by omega
              go_wp2
              go_end0
              exact ⟨rfl, g1, HCUT.out.fin (by omega) (by omega) HM1.out (HCUT.out.rightW HM1.out (by omega)), HS3.out⟩
      · by_cases cY : m < e
        · have x1 : ¬ (s : Int) < (m : Int) := by omega
          have x2 : ¬ (mid : Int) < (e : Int) := by omega
          have y1 : (m : Int) < (e : Int) := by omega
          have y2 : (s : Int) < (mid : Int) := by omega
          have HS2 : Hid (St n w0 blk (rotF f s m e) wr) := Lib.hid (by
            have es : s = m := by omega
            rw [es, rot_none1]
            exact HSG.out)
          clear HSG
          by_cases cz : a < s
          · have z5 : (a : Int) < (s : Int) := by omega
            have hl := HIH.out (rotF f s m e) wr a s mid (by omega) cz (by omega) (by omega) HS2.out HCUT.out.inn HCUT.out.p1 HCUT.out.p2 HCUT.out.p3
            have HLEFT := Lib.hid hl
            clear hl HS2
            go_wp2_with fail
            refine HLEFT.out.mono ?_
            rintro q w3 ⟨rfl, g1, hm1, hq⟩
            have HS3 : Hid (St n w0 blk g1 w3) := Lib.hid hq
            have HM1 := Lib.hid hm1
            clear hq hm1 HLEFT
            go_wp2
            go_end0
            exact ⟨rfl, g1, HCUT.out.fin (by omega) (by omega) HM1.out (HCUT.out.rightX HM1.out (by omega) (by omega)), HS3.out⟩
          · have z5 : ¬ (a : Int) < (s : Int) := by omega
            obtain ⟨g1, hg1⟩ : ∃ g, rotF f s m e = g := ⟨_, rfl⟩
            have HM1 : Hid (Merged k (rotF f s m e) g1 a mid) := Lib.hid (by rw [← hg1]; exact HCUT.out.leftZ (by omega))
            have HS3 : Hid (St n w0 blk g1 wr) := Lib.hid (by rw [← hg1]; exact HS2.out)
            clear hg1 HS2
            go_wp2
            go_end0
            exact ⟨rfl, g1, HCUT.out.fin (by omega) (by omega) HM1.out (HCUT.out.rightX HM1.out (by omega) (by omega)), HS3.out⟩
        · have x1 : ¬ (s : Int) < (m : Int) := by omega
          have x2 : ¬ (mid : Int) < (e : Int) := by omega
          have y1 : ¬ (m : Int) < (e : Int) := by omega
          have y2 : ¬ (s : Int) < (mid : Int) := by omega
          have HS2 : Hid (St n w0 blk (rotF f s m e) wr) := Lib.hid (by
            have es : s = m := by omega
            rw [es, rot_none1]
            exact HSG.out)
          clear HSG
          by_cases cz : a < s
          · have z5 : (a : Int) < (s : Int) := by omega
            obtain ⟨g1, hg1⟩ : ∃ g, rotF f s m e = g := ⟨_, rfl⟩
            have HM1 : Hid (Merged k (rotF f s m e) g1 a mid) := Lib.hid (by rw [← hg1]; exact HCUT.out.leftY (by omega))
            have HS3 : Hid (St n w0 blk g1 wr) := Lib.hid (by rw [← hg1]; exact HS2.out)
            clear hg1 HS2
            go_wp2
            go_end0
            exact ⟨rfl, g1, HCUT.out.fin (by omega) (by omega) HM1.out (HCUT.out.rightX HM1.out (by omega) (by omega)), HS3.out⟩
          · have z5 : ¬ (a : Int) < (s : Int) := by omega
            obtain ⟨g1, hg1⟩ : ∃ g, rotF f s m e = g := ⟨_, rfl⟩
            have HM1 : Hid (Merged k (rotF f s m e) g1 a mid) := Lib.hid (by rw [← hg1]; exact HCUT.out.leftZ (by omega))
            have HS3 : Hid (St n w0 blk g1 wr) := Lib.hid (by rw [← hg1]; exact HS2.out)
            clear hg1 HS2
            go_wp2
            go_end0
            exact ⟨rfl, g1, HCUT.out.fin (by omega) (by omega) HM1.out (HCUT.out.rightX HM1.out (by omega) (by omega)), HS3.out⟩

/-- Two runs, each in order, the left one's indices below the right one's, become one run in order. -/
theorem symMerge_any (n : Nat) (w0 : World) (blk cap gf : Nat) (cb : Array Value) (k : Nat → Int) (cf : Nat → Nat → Int) (C : CmpN n w0 blk gf cb k cf) (R : RowN n w0 blk) (hn : n ≤ 4096) : ∀ N, SymAt n w0 blk cap gf cb k N := by
  intro N
  induction N with
  | zero => intro f w a m b h; omega
  | succ N ih =>
    intro f w a m b h h1 h2 h3 S hv hL hR lo
    have IH : SymAt n w0 blk cap gf cb k (b - a) := fun f' w' a' m' b' h' => ih f' w' a' m' b' (by omega)
    by_cases c1 : m ≤ a + 1
    · exact symMerge_left1 n w0 blk cap gf cb k cf C R hn f w S hv a m b c1 h1 h2 h3 hR lo
    · by_cases c2 : b ≤ m + 1
      · exact symMerge_right1 n w0 blk cap gf cb k cf C R hn f w S hv a m b (by omega) c2 h2 h3 hL lo
      · exact symMerge_both n w0 blk cap gf cb k cf C R hn f w S hv a m b (by omega) (by omega) h3 hL hR lo IH
end Go.Proofs.YtjgajcabecklcaaDoor
