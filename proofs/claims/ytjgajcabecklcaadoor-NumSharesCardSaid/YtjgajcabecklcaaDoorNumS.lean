/-
  The contract of symMergeCmpFunc, of the library's stable sort, over a row of indices: one of the two runs has one element.
-/
import Derived.Test.YtjgajcabecklcaaDoorNumR
namespace Go.Proofs.YtjgajcabecklcaaDoor
open Go.RowKit
set_option linter.unusedVariables false

/-- The comparison, as the library's stable sort calls it. -/
structure CmpN (n : Nat) (w0 : World) (blk gf : Nat) (cb : Array Value) (k : Nat → Int) (cf : Nat → Nat → Int) : Prop where
  eg : ∀ args w, (callFunc gf args).run Tryd.prog w = .ok (.enter gf args) w
  says : ∀ x y, x < n → y < n → (cf x y < 0 ↔ k y < k x)
  call : ∀ g w, St n w0 blk g w → ∀ x y, x < n → y < n → Calls Tryd.prog gf (#[.int .i64 (x : Int), .int .i64 (y : Int)] ++ cb) w fun e w' => e = .returned (.int .i64 (cf x y)) ∧ ∃ q, w' = w.drewN q

theorem merged_one1 (k : Nat → Int) (f : Nat → Nat) (a m i b : Nat) (h1 : m ≤ a + 1) (h1' : a + 1 ≤ m) (h2 : m < b) (hmi : m ≤ i) (hib : i ≤ b) (hR : Srt k f m b) (lo : Low f a m b)
    (hI : m < i → bef k (f (i - 1)) (f a)) (hJ : i < b → bef k (f a) (f i)) : Merged k f (rotF f a m i) a b := by
  obtain rfl : m = a + 1 := by omega
  obtain ⟨p1, p2, p3, p4, p5, p6, p7⟩ := merge_split k f a a (a + 1) i b (Nat.le_refl _) (by omega) hmi hib (fun x y c1 c2 c3 => by omega) hR lo (fun c => by omega) (fun _ c => hI c)
  refine merge_join k f (rotF f a (a + 1) i) _ _ a (a + (i - (a + 1))) b (by omega) (by omega) ((Same.rot f a (a + 1) i (by omega) hmi).wide (Nat.le_refl _) hib) ⟨p2, Same.refl _ _ _⟩ ⟨?_, Same.refl _ _ _⟩ p7
  intro x y c1 c2 c3
  by_cases d1 : y < i
  · exact p4 x y c1 c2 d1
  · by_cases d2 : i ≤ x
    · exact p5 x y d2 c2 c3
    · rw [rotF_at2 _ _ _ _ _ (by omega) (by omega), rotF_at3 _ _ _ _ _ (by omega) (by omega) (Or.inr (by omega)), show x - (i - (a + 1)) = a by omega]
      have t1 := hJ (by omega)
      by_cases d3 : y = i
      · rw [d3]; exact t1
      · exact t1.trans (hR i y (by omega) (by omega) c3)
theorem merged_one2 (k : Nat → Int) (f : Nat → Nat) (a m i b : Nat) (h1 : b ≤ m + 1) (h1' : m + 1 ≤ b) (h2 : a < m) (hai : a ≤ i) (him : i ≤ m) (hL : Srt k f a m) (lo : Low f a m b)
    (hI : a < i → bef k (f (i - 1)) (f m)) (hJ : i < m → bef k (f m) (f i)) : Merged k f (rotF f i m b) a b := by
  obtain rfl : b = m + 1 := by omega
  obtain ⟨p1, p2, p3, p4, p5, p6, p7⟩ := merge_split k f a i m (m + 1) (m + 1) hai him (by omega) (Nat.le_refl _) hL (fun x y c1 c2 c3 => by omega) lo (fun _ c => by omega) (fun c _ => by rw [Nat.add_sub_cancel]; exact hJ c)
  refine merge_join k f (rotF f i m (m + 1)) _ _ a (i + (m + 1 - m)) (m + 1) (by omega) (by omega) ((Same.rot f i m (m + 1) him (by omega)).wide hai (Nat.le_refl _)) ⟨?_, Same.refl _ _ _⟩ ⟨p4, Same.refl _ _ _⟩ p7
  intro x y c1 c2 c3
  by_cases d1 : y < i
  · exact p1 x y c1 c2 d1
  · rw [rotF_at3 _ _ _ _ _ him (by omega) (Or.inl (by omega)), rotF_at1 _ _ _ _ _ (by omega), show y + (m - i) = m by omega]
    have t1 := hI (by omega)
    by_cases d3 : x = i - 1
    · rw [d3]; exact t1
    · exact (hL x (i - 1) c1 (by omega) (by omega)).trans t1

theorem half_lt {i j : Nat} (h : i < j) : i ≤ (i + j) / 2 ∧ (i + j) / 2 < j := by omega

set_option maxRecDepth 100000 in
set_option maxHeartbeats 4000000 in
theorem symMerge_left1 (n : Nat) (w0 : World) (blk cap gf : Nat) (cb : Array Value) (k : Nat → Int) (cf : Nat → Nat → Int) (C : CmpN n w0 blk gf cb k cf) (R : RowN n w0 blk) (hn : n ≤ 4096)
    (f : Nat → Nat) (w : World) (S : St n w0 blk f w) (hv : In n f) (a m b : Nat) (h1 : m ≤ a + 1) (h1' : a + 1 ≤ m) (h2 : m < b) (h3 : b ≤ n) (hR : Srt k f m b) (lo : Low f a m b) :
    Calls Tryd.prog 82 #[.slice (some ⟨blk, 0, none⟩) n cap, .int .i64 a, .int .i64 m, .int .i64 b, .func (.func gf) #[] cb] w fun e w' => e = .returned (.tuple #[]) ∧ ∃ g, Merged k f g a b ∧ St n w0 blk g w' := by
  have mixed := mixed_prog
  have eg := C.eg
  have HC := Lib.hid C
  have HR := Lib.hid R
  have HV := Lib.hid hv
  have HS : Hid (St n w0 blk f w) := Lib.hid S
  have HRR := Lib.hid hR
  have HLO := Lib.hid lo
  have z1 : (m : Int) - (a : Int) = 1 := by omega
  have han : (a : Int) < (n : Int) := by omega
  clear C R hv S hR lo
  go_enter Tryd.func82, Tryd.ntmps82
  go_wp2
  go_loopw [10, 11] (fun vi vj wr => ∃ (i j : Nat), vi = .int .i64 i ∧ vj = .int .i64 j ∧ m ≤ i ∧ i ≤ j ∧ j ≤ b ∧ Hid (St n w0 blk f wr) ∧ Hid (m < i → bef k (f (i - 1)) (f a)) ∧ Hid (j < b → bef k (f a) (f j))) (fun vi vj _ => (intOf vj - intOf vi).toNat)
  case atStart => exact ⟨m, b, rfl, rfl, Nat.le_refl _, by omega, Nat.le_refl _, HS, Lib.hid (fun h => by omega), Lib.hid (fun h => by omega)⟩
  case round =>
    obtain ⟨i, j, rfl, rfl, hmi, hij, hjb, HSG, HI, HJ⟩ := hrel
    by_cases c : i < j
    · have hcz : (i : Int) < (j : Int) := by omega
      obtain ⟨h, hh⟩ : ∃ q, (i + j) / 2 = q := ⟨_, rfl⟩
      have ⟨b1, b2⟩ := half_lt c
      rw [hh] at b1 b2
      have zh : ((i : Int) + (j : Int)) / 2 = (h : Int) := by omega
      have ch := HSG.out.cell HR.out HV.out h (by omega)
      have ca := HSG.out.cell HR.out HV.out a (by omega)
      have hc := fun q => HC.out.call f _ (HSG.out.drewN q) (f h) (f a) (HV.out h (by omega)) (HV.out a (by omega))
      obtain ⟨x, hx⟩ : ∃ x, f h = x := ⟨_, rfl⟩
      obtain ⟨y, hy⟩ : ∃ x, f a = x := ⟨_, rfl⟩
      rw [hx] at ch
      rw [hy] at ca
      simp only [hx, hy] at hc
      have HX := Lib.hid hx
      have HY := Lib.hid hy
      have hhn : (h : Int) < (n : Int) := by omega
      clear hx hy hh
      by_cases hlt : cf x y < 0
      · have hd : decide (cf x y < 0) = true := decide_eq_true hlt
        have HN : Hid (m < h + 1 → bef k (f (h + 1 - 1)) (f a)) := Lib.hid (fun _ => by
          have := (HC.out.says (f h) (f a) (HV.out h (by omega)) (HV.out a (by omega))).1 (by rw [HX.out, HY.out]; exact hlt)
          rw [Nat.add_sub_cancel]
          exact Or.inl this)
        go_wp2_with fail
        go_quiet ((go_at_fn gf; refine Calls.quiet_of (hc _)))
        have HS2 := Lib.hid (SW.drewN HSG.out nq)
        clear HSG ch ca hc
        generalize wr.drewN nq = w2 at HS2 ⊢
        go_wp2
        go_roundw
        case rel => exact ⟨h + 1, j, val_int' (by omega), rfl, by omega, by omega, hjb, HS2, HN, HJ⟩
        case measure => simp only [intOf]; omega
      · have hd : decide (cf x y < 0) = false := decide_eq_false hlt
        have HN : Hid (h < b → bef k (f a) (f h)) := Lib.hid (fun _ => by
          have h1 := (not_congr (HC.out.says (f h) (f a) (HV.out h (by omega)) (HV.out a (by omega)))).1 (by rw [HX.out, HY.out]; exact hlt)
          have h2 := HLO.out a h (Nat.le_refl _) (by omega) (by omega) (by omega)
          unfold bef
          omega)
        go_wp2_with fail
        go_quiet ((go_at_fn gf; refine Calls.quiet_of (hc _)))
        have HS2 := Lib.hid (SW.drewN HSG.out nq)
        clear HSG ch ca hc
        generalize wr.drewN nq = w2 at HS2 ⊢
        go_wp2
        go_roundw
        case rel => exact ⟨i, h, rfl, rfl, hmi, by omega, by omega, HS2, HI, HN⟩
        case measure => simp only [intOf]; omega
    · obtain rfl : i = j := by omega
      have hM : Merged k f (rotF f a m i) a b := by
        exact merged_one1 k f a m i b h1 h1' h2 hmi hjb HRR.out HLO.out HI.out HJ.out
      have HM := Lib.hid hM
      have HR2 := HRR
      clear hM HI HJ HLO HRR
      go_wp2
      go_loopw [13] (fun vt wr => ∃ t : Nat, vt = .int .i64 t ∧ a ≤ t ∧ t + 1 ≤ i ∧ Hid (St n w0 blk (rotF f a m (t + 1)) wr)) (fun vt _ => ((i : Int) - intOf vt).toNat)
      case atStart => exact ⟨a, rfl, Nat.le_refl _, by omega, Lib.hid (by
        have : m = a + 1 := by omega
        subst this
        rw [rot_none2 f a (a + 1) (by omega)]
        exact HSG.out)⟩
      case round =>
        obtain ⟨t, rfl, hat, hti, HST⟩ := hrel
        by_cases c2 : t + 1 < i
        · have hcz : (t : Int) < (i : Int) - 1 := by omega
          obtain ⟨u, hu⟩ : ∃ u, t + 1 = u := ⟨_, rfl⟩
          have zu : (t : Int) + 1 = (u : Int) := by omega
          have hvt : In n (rotF f a m (t + 1)) := In.same HV.out (Same.rot f a m (t + 1) (by omega) (by omega)) (by omega)
          have ct := HST.out.cell HR.out hvt t (by omega)
          have cu := HST.out.cell HR.out hvt u (by omega)
          have ft := HST.out.froz HR.out t (by omega)
          have fu := HST.out.froz HR.out u (by omega)
          have S2 := HST.out.swap HR.out hvt t u (by omega) (by omega)
          have hnext : swf (rotF f a m (t + 1)) t u = rotF f a m (u + 1) := by
            have : m = a + 1 := by omega
            subst this
            rw [← hu]
            exact rot_up f a t hat
          rw [hnext] at S2
          obtain ⟨x, hx⟩ : ∃ x, rotF f a m (t + 1) t = x := ⟨_, rfl⟩
          obtain ⟨y, hy⟩ : ∃ x, rotF f a m (t + 1) u = x := ⟨_, rfl⟩
          rw [hx] at ct S2
          rw [hy] at cu S2
          obtain ⟨v, cv⟩ := HST.out.second HR.out hvt t u (by omega) (.int .i64 (y : Int))
          have htn : (t : Int) < (n : Int) := by omega
          have hun : (u : Int) < (n : Int) := by omega
          have HS2 := Lib.hid S2
          clear hnext hx hy hvt S2 HST hu
          go_wp2_with fail
          go_big_region_o
          have HS3 := Lib.hid (SW.drew HS2.out)
          clear ct cu ft fu cv HS2
          generalize ((wr.setCell ⟨blk, t, none⟩ (.int .i64 (y : Int))).setCell ⟨blk, u, none⟩ (.int .i64 (x : Int))).drew = w3 at HS3 ⊢
          go_wp2
          go_roundw
          case rel => exact ⟨u, rfl, by omega, by omega, HS3⟩
          case measure => simp only [intOf]; omega
        · have hcz : ¬ (t : Int) < (i : Int) - 1 := by omega
          have hti2 : t + 1 = i := by omega
          rw [hti2] at HST
          clear hti2 hcz
          go_wp2
          ((try simp only [Exit.inBlock, Exit.then]); refine bodyPost_ret (results_none rfl _ _ _) rfl ?_)
          exact ⟨rfl, _, HM.out, HST.out⟩

set_option maxRecDepth 100000 in
set_option maxHeartbeats 4000000 in
theorem symMerge_right1 (n : Nat) (w0 : World) (blk cap gf : Nat) (cb : Array Value) (k : Nat → Int) (cf : Nat → Nat → Int) (C : CmpN n w0 blk gf cb k cf) (R : RowN n w0 blk) (hn : n ≤ 4096)
    (f : Nat → Nat) (w : World) (S : St n w0 blk f w) (hv : In n f) (a m b : Nat) (h0 : a + 2 ≤ m) (h1 : b ≤ m + 1) (h1' : m + 1 ≤ b) (h3 : b ≤ n) (hL : Srt k f a m) (lo : Low f a m b) :
    Calls Tryd.prog 82 #[.slice (some ⟨blk, 0, none⟩) n cap, .int .i64 a, .int .i64 m, .int .i64 b, .func (.func gf) #[] cb] w fun e w' => e = .returned (.tuple #[]) ∧ ∃ g, Merged k f g a b ∧ St n w0 blk g w' := by
  have mixed := mixed_prog
  have eg := C.eg
  have HC := Lib.hid C
  have HR := Lib.hid R
  have HV := Lib.hid hv
  have HS : Hid (St n w0 blk f w) := Lib.hid S
  have HLL := Lib.hid hL
  have HLO := Lib.hid lo
  obtain ⟨d1, hd1⟩ : ∃ d, m - a = d := ⟨_, rfl⟩
  have z0 : (m : Int) - (a : Int) = (d1 : Int) := by omega
  have z0' : ((d1 : Int) == 1) = false := by rw [beq_eq_false_iff_ne]; omega
  have z0'' : ¬ (d1 : Int) = 1 := by omega
  have z1 : (b : Int) - (m : Int) = 1 := by omega
  have hmn : (m : Int) < (n : Int) := by omega
  clear C R hv S hL lo hd1
  go_enter Tryd.func82, Tryd.ntmps82
  go_wp2
  go_loopw [14, 15] (fun vi vj wr => ∃ (i j : Nat), vi = .int .i64 i ∧ vj = .int .i64 j ∧ a ≤ i ∧ i ≤ j ∧ j ≤ m ∧ Hid (St n w0 blk f wr) ∧ Hid (a < i → bef k (f (i - 1)) (f m)) ∧ Hid (j < m → bef k (f m) (f j))) (fun vi vj _ => (intOf vj - intOf vi).toNat)
  case atStart => exact ⟨a, m, rfl, rfl, Nat.le_refl _, by omega, Nat.le_refl _, HS, Lib.hid (fun h => by omega), Lib.hid (fun h => by omega)⟩
  case round =>
    obtain ⟨i, j, rfl, rfl, hmi, hij, hjb, HSG, HI, HJ⟩ := hrel
    by_cases c : i < j
    · have hcz : (i : Int) < (j : Int) := by omega
      obtain ⟨h, hh⟩ : ∃ q, (i + j) / 2 = q := ⟨_, rfl⟩
      have ⟨b1, b2⟩ := half_lt c
      rw [hh] at b1 b2
      have zh : ((i : Int) + (j : Int)) / 2 = (h : Int) := by omega
      have ch := HSG.out.cell HR.out HV.out h (by omega)
      have ca := HSG.out.cell HR.out HV.out m (by omega)
      have hc := fun q => HC.out.call f _ (HSG.out.drewN q) (f m) (f h) (HV.out m (by omega)) (HV.out h (by omega))
      obtain ⟨x, hx⟩ : ∃ x, f h = x := ⟨_, rfl⟩
      obtain ⟨y, hy⟩ : ∃ x, f m = x := ⟨_, rfl⟩
      rw [hx] at ch
      rw [hy] at ca
      simp only [hx, hy] at hc
      have HX := Lib.hid hx
      have HY := Lib.hid hy
      have hhn : (h : Int) < (n : Int) := by omega
      clear hx hy hh
      by_cases hlt : cf y x < 0
      · have hd : decide (cf y x < 0) = true := decide_eq_true hlt
        have HN : Hid (h < m → bef k (f m) (f h)) := Lib.hid (fun _ => by
          have := (HC.out.says (f m) (f h) (HV.out m (by omega)) (HV.out h (by omega))).1 (by rw [HX.out, HY.out]; exact hlt)
          exact Or.inl this)
        go_wp2_with fail
        go_quiet ((go_at_fn gf; refine Calls.quiet_of (hc _)))
        have HS2 := Lib.hid (SW.drewN HSG.out nq)
        clear HSG ch ca hc
        generalize wr.drewN nq = w2 at HS2 ⊢
        go_wp2
        go_roundw
        case rel => exact ⟨i, h, rfl, rfl, hmi, by omega, by omega, HS2, HI, HN⟩
        case measure => simp only [intOf]; omega
      · have hd : decide (cf y x < 0) = false := decide_eq_false hlt
        have HN : Hid (a < h + 1 → bef k (f (h + 1 - 1)) (f m)) := Lib.hid (fun _ => by
          have h1 := (not_congr (HC.out.says (f m) (f h) (HV.out m (by omega)) (HV.out h (by omega)))).1 (by rw [HX.out, HY.out]; exact hlt)
          have h2 := HLO.out h m (by omega) (by omega) (Nat.le_refl _) (by omega)
          rw [Nat.add_sub_cancel]
          unfold bef
          omega)
        go_wp2_with fail
        go_quiet ((go_at_fn gf; refine Calls.quiet_of (hc _)))
        have HS2 := Lib.hid (SW.drewN HSG.out nq)
        clear HSG ch ca hc
        generalize wr.drewN nq = w2 at HS2 ⊢
        go_wp2
        go_roundw
        case rel => exact ⟨h + 1, j, val_int' (by omega), rfl, by omega, by omega, hjb, HS2, HN, HJ⟩
        case measure => simp only [intOf]; omega
    · obtain rfl : i = j := by omega
      have hM : Merged k f (rotF f i m b) a b := merged_one2 k f a m i b h1 h1' (by omega) hmi hjb HLL.out HLO.out HI.out HJ.out
      have HM := Lib.hid hM
      clear hM HI HJ HLO HLL
      go_wp2
      go_loopw [17] (fun vt wr => ∃ t : Nat, vt = .int .i64 t ∧ i ≤ t ∧ t ≤ m ∧ Hid (St n w0 blk (rotF f t m b) wr)) (fun vt _ => (intOf vt).toNat)
      case atStart => exact ⟨m, rfl, by omega, Nat.le_refl _, Lib.hid (by
        rw [rot_none1 f m b]
        exact HSG.out)⟩
      case round =>
        obtain ⟨t, rfl, hat, hti, HST⟩ := hrel
        by_cases c2 : i < t
        · have hcz : (i : Int) < (t : Int) := by omega
          obtain ⟨u, hu⟩ : ∃ u, t - 1 = u := ⟨_, rfl⟩
          have zu : (t : Int) - 1 = (u : Int) := by omega
          have hvt : In n (rotF f t m b) := In.same HV.out (Same.rot f t m b (by omega) (by omega)) (by omega)
          have ct := HST.out.cell HR.out hvt t (by omega)
          have cu := HST.out.cell HR.out hvt u (by omega)
          have ft := HST.out.froz HR.out t (by omega)
          have fu := HST.out.froz HR.out u (by omega)
          have S2 := HST.out.swap HR.out hvt t u (by omega) (by omega)
          have hnext : swf (rotF f t m b) t u = rotF f u m b := by
            have e1 : b = m + 1 := by omega
            have e2 : t = u + 1 := by omega
            rw [e1, e2]
            exact rot_down f u m (by omega)
          rw [hnext] at S2
          obtain ⟨x, hx⟩ : ∃ x, rotF f t m b t = x := ⟨_, rfl⟩
          obtain ⟨y, hy⟩ : ∃ x, rotF f t m b u = x := ⟨_, rfl⟩
          rw [hx] at ct S2
          rw [hy] at cu S2
          obtain ⟨v, cv⟩ := HST.out.second HR.out hvt t u (by omega) (.int .i64 (y : Int))
          have htn : (t : Int) < (n : Int) := by omega
          have hun : (u : Int) < (n : Int) := by omega
          have HS2 := Lib.hid S2
          clear hnext hx hy hvt S2 HST hu
          go_wp2_with fail
          go_big_region_o
          have HS3 := Lib.hid (SW.drew HS2.out)
          clear ct cu ft fu cv HS2
          generalize ((wr.setCell ⟨blk, t, none⟩ (.int .i64 (y : Int))).setCell ⟨blk, u, none⟩ (.int .i64 (x : Int))).drew = w3 at HS3 ⊢
          go_wp2
          go_roundw
          case rel => exact ⟨u, rfl, by omega, by omega, HS3⟩
          case measure => simp only [intOf]; omega
        · obtain rfl : i = t := by omega
          go_wp2
          ((try simp only [Exit.inBlock, Exit.then]); refine bodyPost_ret (results_none rfl _ _ _) rfl ?_)
          exact ⟨rfl, _, HM.out, HST.out⟩
end Go.Proofs.YtjgajcabecklcaaDoor
