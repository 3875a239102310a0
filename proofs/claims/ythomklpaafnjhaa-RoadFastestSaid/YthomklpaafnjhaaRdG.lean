/-
  The contract of lengths. Condition: a network that Check passes.
-/
import Derived.Test.YthomklpaafnjhaaRdF
namespace Go.Proofs.Ythomklpaafnjhaa
open Go.RowKit
set_option linter.unusedVariables false

theorem hdV_cons (x : It) (V : List It) : hdV (x :: V) = .tuple #[.agg #[.int .i64 x.1, .int .i64 (xS x.2), .int .i64 (xE x.2)], .bool true] := rfl
theorem xS_ne (n : Nat) : ¬ xS n = -1 := by
  unfold xS; omega
set_option linter.unusedSimpArgs false in
set_option maxRecDepth 100000 in
set_option maxHeartbeats 4000000 in
theorem lengths_any (N g0 a m : Nat) (D : Nat → Option Nat) (l : List Ed) (w : World) (h1 : 1 ≤ N) (hN : N ≤ 64) (hm : l.length = m) (hm5 : m ≤ 512) (hO : OkL N l) (ha : a < N) (hD : Ds (arcs l) a D) (hX : XsR w g0 N (fun v => exT l (v : Int) m)) :
    Calls Try.prog 25 #[.slice (some ⟨g0, 0, none⟩) N N, .int .i64 (a : Int)] w fun e w' => ∃ g, e = .returned (.slice (some ⟨g, 0, none⟩) N N) ∧ LenR w' g N D ∧ w.heap.size ≤ g ∧ Below w.heap.size w w' := by
  have HM := Lib.hid hm
  have HO := Lib.hid hO
  have HD := Lib.hid hD
  have HX := Lib.hid hX
  have HREP := Lib.hid (fun (W : World) blk c h0 h1' => repeat_any N h1 hN blk c W h0 h1')
  clear hm hO hD hX
  go_enter Try.func25, Try.ntmps25
  go_wp2_with fail
  refine (HREP.out _ _ _ ?r0 ?r1).mono ?_
  case r0 => rw [World.cell?_alloc_new]; rfl
  case r1 => rw [World.cell?_alloc_new]; rfl
  rintro e w1 ⟨g, rfl, hL1, hg1, hB1⟩
  have HL1 := Lib.hid hL1
  have HB1 : Hid (Below w.heap.size w w1) := Lib.hid (Below.step (b := w.alloc _) (below_alloc _ _) hB1)
  have HG : Hid (w.heap.size ≤ g ∧ g < w1.heap.size) := Lib.hid ⟨by simp at hg1; omega, Blk.lt hL1⟩
  clear hL1 hg1 hB1 HREP
  go_wp2_with fail
  refine (new_any false w1).mono ?_
  rintro e w2 ⟨b, S, rfl, hq2, hs2, hB2⟩
  have HQ2 := Lib.hid hq2
  have HS2 := Lib.hid hs2
  have HB2 := Lib.hid hB2
  have HPUSH := Lib.hid (push_any b S false 0 [] ((a : Int), 0) w2 hq2 (by omega))
  rw [x_zero.1, x_zero.2] at HPUSH
  clear hq2 hs2 hB2
  go_wp2_with fail
  refine HPUSH.out.mono ?_
  rintro e w3 ⟨rfl, S3, hq3, hk3, hs3⟩
  have HQ3 : Hid (QR w3 b S3 false 1 [((a : Int), 0)]) := Lib.hid hq3
  have HK3 := Lib.hid hk3
  have HS3 := Lib.hid hs3
  have HPOP := pop_some b S3 false 1 ((a : Int), 0) [] w3 hq3 (by omega)
  rw [hdV_cons, x_zero.1, x_zero.2] at HPOP
  have HPOP := Lib.hid HPOP
  clear hq3 hk3 hs3 HPUSH
  go_wp2_with fail
  refine HPOP.out.mono ?_
  rintro e w4 ⟨rfl, hq4, hk4⟩
  have hk14 : Keep (fun k => w1.heap.size ≤ k) w1 w4 := ((Keep.ofBelow (S := fun k => w1.heap.size ≤ k) HB2.out).trans HK3.out (fun k e => Or.inl (HS2.out k e))).trans hk4 (fun k e => by
    rcases HS3.out k e with h | h
    · exact Or.inl (HS2.out k h)
    · exact Or.inl (Nat.le_trans HB2.out.size h))
  have hs14 := hk14.size
  have hS3 : ∀ k, S3 k → w1.heap.size ≤ k := fun k e => by
    rcases HS3.out k e with h | h
    · exact HS2.out k h
    · exact Nat.le_trans HB2.out.size h
  have hw1 := HB1.out.size
  have HM0 : Hid (∀ W', Below w4.heap.size w4 W' → w4.heap.size < W'.heap.size → Mid w b g w4.heap.size N a m l D W' [((a : Int), 0)] S3 1 (fun _ => none)) := Lib.hid (fun W' hb hlt =>
    ⟨hq4.below hb, Dj.begin _ _ _ _, ((Blk.keep HL1.out hk14 (by have := HG.out.2; omega)).below hb : LenR _ _ _ _), by have := unT_le l (fun _ => none) m; omega, HB1.out.trans ((hk14.below (fun k e => Nat.le_trans hw1 e) hw1).trans (hb.mono (by omega))), fun k e => ⟨Nat.le_trans hw1 (hS3 k e), by have := hS3 k e; have := HG.out.2; omega⟩, ⟨by omega, fun e => by have := hq4.lt _ e; omega, by have := HG.out.2; omega, hlt⟩, HG.out.1⟩)
  have HV0 : Hid (VarW (w4.alloc (.cells #[.int .i64 (a : Int), .int .i64 0, .int .i64 0] 65)) w4.heap.size ((a : Int), 0)) := Lib.hid (by
    have := VarW.made w4 ((a : Int), 0) 65
    simp only [x_zero.1, x_zero.2] at this
    exact this)
  clear hq4 hk4 hk14 hs14 hS3 hw1 HPOP HQ2 HQ3 HL1 HS2 HS3 HK3 HB2
  go_wp2_with fail
  go_loopg [7, 8] (1 + m) (fun gk v7 v8 wr => ∃ (cur : List It) (S : Nat → Prop) (p r : Nat) (L : Nat → Option Nat), cur.length + unT l L m ≤ gk ∧ v7 = .pointer (some ⟨r, 0, none⟩) ∧ v8 = .bool (!cur.isEmpty) ∧ Hid (VarW wr r (hdI cur)) ∧ Hid (Mid w b g r N a m l D wr cur S p L))
  case atStart =>
    refine ⟨[((a : Int), 0)], S3, 1, w4.heap.size, fun _ => none, ?_, rfl, rfl, HV0, Lib.hid (HM0.out _ (below_alloc _ _) (by simp))⟩
    have := unT_le l (fun _ => none) m
    simp only [List.length_singleton]
    omega
  case round =>
    obtain ⟨cur, S, p, r, L, hgk, rfl, rfl, HVR, HMID⟩ := hrel
    cases cur with
    | nil =>
      rw [show (!([] : List It).isEmpty) = false from rfl]
      have HLD : Hid (LenR wr g N D) := Lib.hid (HMID.out.dj.done HD.out ▸ HMID.out.len)
      go_wp2_with fail
      go_ret
      exact ⟨g, rfl, HLD.out, HG.out.1, HMID.out.bel⟩
    | cons x V =>
      rw [show (!(x :: V).isEmpty) = true from rfl]
      have HVR' : Hid (VarW wr r x) := HVR
      obtain ⟨b0, b1⟩ := HMID.out.dj.bound HO.out ha List.mem_cons_self
      obtain ⟨x0, n⟩ := x
      obtain ⟨q, rfl⟩ : ∃ q : Nat, x0 = (q : Int) := ⟨x0.toNat, by simp only at b0; omega⟩
      have hq : q < N := by simp only at b1; omega
      have hqz : (q : Int) < (N : Int) := by omega
      obtain ⟨u0, u1, u2, u3, u4, u5⟩ := HVR'.out
      obtain ⟨l0, l1⟩ := LenR.at HMID.out.len hq
      have hgkl : V.length + 1 + unT l L m ≤ gk := hgk
      clear HVR b0 b1 hgk
      cases hL : L q with
      | some n0 =>
        rw [hL] at l0
        have l0' : wr.cell? ⟨g, q * 2, none⟩ = some (.int .i64 (xS n0)) := l0
        have hne := xS_ne n0
        have HQ2 : Hid (QR wr b S false p V) := Lib.hid HMID.out.q
        have HLEN2 := Lib.hid HMID.out.len
        have HBEL2 := Lib.hid HMID.out.bel
        have HSS2 := Lib.hid HMID.out.sS
        have HCNT2 := Lib.hid HMID.out.cnt
        have HDJ2 : Hid (Dj l N a D L V) := Lib.hid (HMID.out.dj.skip (n0 := n0) hL)
        have HGK2 := Lib.hid (show V.length + unT l L m ≤ gk - 1 by omega)
        clear l0 l1 HMID HVR'
        simp only at u0 u1 u2
        have HPOP := Lib.hid (pop_any b S false p V (wr.alloc (.cells #[.int .i64 (q : Int), .int .i64 (xS n), .int .i64 (xE n)] 65)) (HQ2.out.below (below_alloc _ _)) (by have := HCNT2.out; omega))
        rw [hdV_eq] at HPOP
        obtain ⟨⟨y0, yk⟩, hy⟩ : ∃ y, hdI V = y := ⟨_, rfl⟩
        obtain ⟨bo, hbo⟩ : ∃ y, (!V.isEmpty) = y := ⟨_, rfl⟩
        rw [hy, hbo] at HPOP
        have HY := Lib.hid hy
        have HBO := Lib.hid hbo
        clear hy hbo
        go_wp2_with fail
        refine HPOP.out.mono ?_
        rintro e w5 ⟨rfl, hq5, hk5⟩
        have HMV := Lib.hid (Mid.pop (r := r) (x := ((q : Int), n)) (w4 := w5) HQ2.out HLEN2.out HBEL2.out HSS2.out HG.out.1 HCNT2.out HDJ2.out hq5 hk5)
        rw [HY.out] at HMV
        obtain ⟨v0, v1, v2, f0, f1, f2⟩ := VarW.keep (VarW.made wr ((q : Int), n) 65) hk5 (fun e => by have := HQ2.out.lt _ e; omega)
        simp only [putW] at v0 v1 v2 HMV
        clear hq5 hk5 HPOP
        go_wp2_with fail
        go_roundg (gk - 1)
        case measure => omega
        case rel => exact ⟨V, S, p, wr.heap.size, L, by have := HGK2.out; omega, rfl, by rw [HBO.out], Lib.hid (by rw [HY.out]; exact HMV.out.2), Lib.hid HMV.out.1⟩
      | none =>
        rw [hL] at l0 l1
        have l0' : wr.cell? ⟨g, q * 2, none⟩ = some (.int .i64 (-1)) := l0
        have l1' : wr.cell? ⟨g, q * 2 + 1, none⟩ = some (.int .i64 0) := l1
        have f0 := Blk.frozen HMID.out.len (q * 2)
        have f1 := Blk.frozen HMID.out.len (q * 2 + 1)
        simp only at u0 u1 u2
        have hrg := HMID.out.sr.2.2.1
        have hgr := Ne.symm hrg
        have hXw := HX.out.below HMID.out.bel
        obtain ⟨A, cap, hrow, hEd⟩ := hXw.2 q hq
        have hg0 : g0 < w.heap.size := HX.out.1
        have hg0g : ¬ g0 = g := by have := HG.out.1; omega
        have hgg0 : ¬ g = g0 := by have := HG.out.1; omega
        obtain ⟨xs, hxs⟩ : ∃ xs, exT l (q : Int) m = xs := ⟨_, rfl⟩
        simp only at hrow hEd
        rw [hxs] at hrow hEd
        obtain ⟨nx, hnx⟩ : ∃ nx, xs.length = nx := ⟨_, rfl⟩
        rw [hnx] at hrow
        have HXS := Lib.hid hxs
        have HNX := Lib.hid hnx
        have HED := Lib.hid hEd
        have hset := HMID.out.dj.settle HD.out (x := ((q : Int), n)) hL
        have hset' : D q = some n := hset
        obtain ⟨n0, n1, n2, n3, n4⟩ := dist_bound HO.out hN ha HD.out hset'
        have HN4 := Lib.hid n4
        have hun := unT_next HO.out (L := L) (v := (q : Int)) (by omega) hL n m (by rw [HM.out]; exact Nat.le_refl m)
        rw [hxs, hnx] at hun
        have hun' : unT l (upd L q (some n)) m + nx = unT l L m := hun
        have hcnt := HMID.out.cnt
        have hpb : p + nx ≤ 1000 := by omega
        have HDJN : Hid (Dj l N a D (upd L q (some n)) (pushX n V xs)) := Lib.hid (by
          have h := HMID.out.dj.next HO.out ha HD.out (x := ((q : Int), n)) hL
          rw [HM.out] at h
          simp only [Int.toNat_natCast] at h
          rwa [hxs] at h)
        have HBD : Hid (∀ e ∈ xs, 0 ≤ e.t ∧ e.t < (N : Int) ∧ 1 ≤ e.s ∧ e.s ≤ 1000) := Lib.hid (fun e he => by
          rw [← hxs] at he
          obtain ⟨i, hi, _, rfl⟩ := exT_mem.1 he
          have := HO.out i (by rw [HM.out]; exact hi)
          exact ⟨this.2.2.1, this.2.2.2.1, this.2.2.2.2.1, this.2.2.2.2.2⟩)
        clear hXw hxs hnx hEd hset hset' n4 hun l0 l1
        obtain ⟨W1, hW1⟩ : ∃ W1, (wr.setCell ⟨g, q * 2, none⟩ (.int .i64 (xS n))).setCell ⟨g, q * 2 + 1, none⟩ (.int .i64 (xE n)) = W1 := ⟨_, rfl⟩
        have k1 : Keep (fun k => k = g) wr W1 := hW1 ▸ (((Keep.refl (fun k => k = g) wr).set _ _ rfl).set _ _ rfl)
        have HLN : Hid (LenR W1 g N (upd L q (some n))) := Lib.hid (hW1 ▸ LenR.put HMID.out.len hq n)
        have HQ1 : Hid (QR W1 b S false p V) := Lib.hid (QR.keep (V := V) HMID.out.q k1 (fun k e e2 => (HMID.out.sS k e).2 e2))
        have HV1 : Hid (VarW W1 r ((q : Int), n)) := Lib.hid (HVR'.out.keep k1 hrg)
        have HED1 : Hid (EdR W1 A xs ∧ ∀ a, A = some a → 0 < xs.length → a.block < w.heap.size) := Lib.hid (by
          obtain ⟨A2, cap2, hrow2, hEd2⟩ := HX.out.2 q hq
          have e2 : wr.cell? ⟨g0, q, none⟩ = some (.slice A2 (exT l (q : Int) m).length cap2) := by rw [HMID.out.bel.cell (p := ⟨g0, q, none⟩) hg0]; exact hrow2
          rw [hrow] at e2
          injection e2 with e2
          injection e2 with e2 _ _
          subst e2
          simp only at hEd2
          rw [HXS.out] at hEd2
          have hA : ∀ a, A = some a → 0 < xs.length → a.block < w.heap.size := fun a ha h0 => by
            obtain ⟨b2, o2, e3, hlt, _⟩ := hEd2 h0
            rw [ha] at e3; cases e3; exact hlt
          refine ⟨fun h0 => ?_, hA⟩
          exact (HED.out.keep k1 (fun a ha e => by have := hA a ha h0; have := HG.out.1; omega)) h0)
        have HB1W : Hid (Below w.heap.size w W1) := Lib.hid (HMID.out.bel.trans (k1.below (fun k e => by rw [e]; exact HG.out.1) HMID.out.bel.size))
        have HSS := Lib.hid HMID.out.sS
        have HSR := Lib.hid HMID.out.sr
        have hsW1 : wr.heap.size ≤ W1.heap.size := k1.size
        have hgW1 : g < W1.heap.size := Blk.lt HLN.out
        have hrow1 : W1.cell? ⟨g0, q, none⟩ = some (.slice A nx cap) := by rw [k1.cell (p := ⟨g0, q, none⟩) (Nat.lt_of_lt_of_le hg0 HMID.out.bel.size) hg0g]; exact hrow
        obtain ⟨y0, y1, y2, _⟩ := HV1.out
        simp only at y0 y1 y2
        clear k1
        go_wp2_with fail
        clear hW1 u0 u1 u2 u3 u4 u5 l0' l1' f0 f1 hrow HED HMID HVR' y0 y1 y2 hrow1
        go_loopw [51] (fun i wt => ∃ (j : Nat) (S' : Nat → Prop), j ≤ nx ∧ i = .int .i64 (j : Int) ∧ Hid (QR wt b S' false (p + j) (pushX n V (xs.take j))) ∧ Hid (Keep S W1 wt) ∧ Hid (∀ k, S' k → S k ∨ W1.heap.size ≤ k)) (fun i _ => nx - (intOf i).toNat)
        case atStart => exact ⟨0, S, by omega, rfl, HQ1, Lib.hid (Keep.refl _ _), Lib.hid (fun k e => Or.inl e)⟩
        case round =>
          obtain ⟨wt, rfl⟩ : ∃ x, x = wr := ⟨_, rfl⟩
          obtain ⟨j, S', hj, rfl, HQT, HKT, HST⟩ := hrel
          have hnSr : ¬ S r := HSR.out.2.1
          have hrW1 : r < W1.heap.size := HV1.out.lt
          have HVT : Hid (VarW wt r ((q : Int), n)) := Lib.hid (HV1.out.keep HKT.out hnSr)
          have hsT : W1.heap.size ≤ wt.heap.size := HKT.out.size
          by_cases hlt : j < nx
          · have hjz : (j : Int) < (nx : Int) := by omega
            have hjl : j < xs.length := by rw [HNX.out]; exact hlt
            have hET : EdR wt A xs := fun h0 => (HED1.out.1.keep HKT.out (fun a ha e => by have := HED1.out.2 a ha h0; have := (HSS.out _ e).1; omega)) h0
            obtain ⟨bx, ox, rfl, hbx, c0, c1, c2⟩ := hET.at hjl
            have hin : xs.getD j ed0 ∈ xs := by simp [hjl]
            obtain ⟨t0, t1, s0, s1⟩ := HBD.out _ hin
            have htk : xs.take (j + 1) = xs.take j ++ [xs.getD j ed0] := by rw [List.take_succ_eq_append_getElem hjl]; simp [hjl]
            have HSN := Lib.hid (pushX_snoc n V (xs.take j) (xs.getD j ed0))
            rw [← htk] at HSN
            obtain ⟨⟨ef, et, es0⟩, he⟩ : ∃ y, xs.getD j ed0 = y := ⟨_, rfl⟩
            rw [he] at c0 c1 c2 t0 t1 s0 s1 HSN
            simp only at c0 c1 c2 t0 t1 s0 s1 HSN
            obtain ⟨es, rfl⟩ : ∃ es : Nat, es0 = (es : Int) := ⟨es0.toNat, by omega⟩
            rw [Int.toNat_natCast] at HSN
            have hes : es ≤ 1000 := by omega
            obtain ⟨e5, e6⟩ := HN4.out es hes
            have HWITH := Lib.hid (fun W => with_any (xS n) (xE n) ef et (es : Int) n0 (by omega) n2 (by omega) (by omega) (by omega) W)
            have HPUSH := Lib.hid (fun W (hb : Below wt.heap.size wt W) => push_any b S' false (p + j) _ (et, up1 n es) W (HQT.out.below hb) (by omega))
            simp only [e5, e6] at HPUSH
            obtain ⟨u0, u1, u2, u3, u4, u5⟩ := HVT.out
            simp only at u0 u1 u2
            have hrT : r < wt.heap.size := HVT.out.lt
            clear hin htk he e5 e6 hET t0 t1 s0 s1
            go_wp2_with fail
            obtain ⟨W2, hW2⟩ : ∃ W2, wt.alloc (.cells #[.int .i64 ef, .int .i64 et, .int .i64 (es : Int)] 73) = W2 := ⟨_, rfl⟩
            obtain ⟨z, hz⟩ : ∃ z, wt.heap.size = z := ⟨_, rfl⟩
            have hB2 : Below wt.heap.size wt W2 := hW2 ▸ below_alloc _ _
            obtain ⟨d0, d1, d2⟩ : TriR W2 z ⟨ef, et, (es : Int)⟩ := hW2 ▸ hz ▸ TriR.made wt ef et (es : Int) _
            have hzW : z < W2.heap.size := World.block_lt_of_cell? _ _ d0
            have g1 : W2.cell? ⟨r, 1, none⟩ = some (.int .i64 (xS n)) := by rw [hB2.cell (p := ⟨r, 1, none⟩) hrT]; exact u1
            have g2 : W2.cell? ⟨r, 2, none⟩ = some (.int .i64 (xE n)) := by rw [hB2.cell (p := ⟨r, 2, none⟩) hrT]; exact u2
            have hrW2 : r < W2.heap.size := World.block_lt_of_cell? _ _ g1
            have HB2 := Lib.hid hB2
            simp only at d0 d1 d2
            rw [hW2, hz]
            clear hW2 hz c0 c1 c2 u0 u1 u2 u3 u4 u5 hB2
            refine wp_region_lastL (S := (fun w' => w'.cell? ⟨z, 0, none⟩ = some (.int .i64 ef) ∧ w'.cell? ⟨z, 1, none⟩ = some (.int .i64 et) ∧ w'.cell? ⟨z, 2, none⟩ = some (.int .i64 (es : Int)) ∧ w'.cell? ⟨r, 1, none⟩ = some (.int .i64 (xS n)) ∧ w'.cell? ⟨r, 2, none⟩ = some (.int .i64 (xE n)))) (by kernel_rfl) (by dsimp only [List.dropLast]) (by simp only [List.getLast?_cons_cons, List.getLast?_singleton]; rfl) (by kernel_rfl) ?_ (fun hHeld => ?_)
            · exact ⟨d0, d1, d2, g1, g2⟩
            refine wpAnyH_take (i := 0) (v := ?v0) rfl (by kernel_rfl) (by kernel_rfl) (by kernel_rfl) (fun _ _ _ h => h) (Or.inl ⟨by rfl, ?h0⟩) (by assumption) ?r0
            rotate_left
            · intro w hSw; (try dsimp only at hSw); go_simp; (try with_reducible rfl)
            try simp only [Act.put, List.getElem_toArray, List.getElem_cons_zero, List.getElem_cons_succ, List.setIfInBounds_toArray, List.set_cons_zero, List.set_cons_succ]
            refine wpAnyH_take (i := 1) (v := ?v1) rfl (by kernel_rfl) (by kernel_rfl) (by kernel_rfl) (fun _ _ _ h => h) (Or.inl ⟨by rfl, ?h1⟩) (by assumption) ?r1
            rotate_left
            · intro w hSw; (try dsimp only at hSw); go_simp; (try with_reducible rfl)
            try simp only [Act.put, List.getElem_toArray, List.getElem_cons_zero, List.getElem_cons_succ, List.setIfInBounds_toArray, List.set_cons_zero, List.set_cons_succ]
            refine wpAnyH_take (i := 2) (v := ?v2) rfl (by kernel_rfl) (by kernel_rfl) (by kernel_rfl) (fun _ _ _ h => h) (Or.inl ⟨by rfl, ?h2⟩) (by assumption) ?r2
            rotate_left
            · intro w hSw; (try dsimp only at hSw); go_simp; (try with_reducible rfl)
            try simp only [Act.put, List.getElem_toArray, List.getElem_cons_zero, List.getElem_cons_succ, List.setIfInBounds_toArray, List.set_cons_zero, List.set_cons_succ]
            refine wpAnyH_take (i := 3) (v := ?v3) rfl (by kernel_rfl) (by kernel_rfl) (by kernel_rfl) (fun _ _ _ h => h) (Or.inl ⟨by rfl, ?h3⟩) (by assumption) ?r3
            rotate_left
            · intro w hSw; (try dsimp only at hSw); go_simp; (try with_reducible rfl)
            try simp only [Act.put, List.getElem_toArray, List.getElem_cons_zero, List.getElem_cons_succ, List.setIfInBounds_toArray, List.set_cons_zero, List.set_cons_succ]
            refine wpAnyH_take (i := 4) (v := ?v4) rfl (by kernel_rfl) (by kernel_rfl) (by kernel_rfl) (fun _ _ _ h => h) (Or.inl ⟨by rfl, ?h4⟩) (by assumption) ?r4
            rotate_left
            · intro w hSw; (try dsimp only at hSw); go_simp; (try with_reducible rfl)
            try simp only [Act.put, List.getElem_toArray, List.getElem_cons_zero, List.getElem_cons_succ, List.setIfInBounds_toArray, List.set_cons_zero, List.set_cons_succ]
            refine wpAnyH_take (i := 5) (v := ?v5) rfl (by kernel_rfl) (by kernel_rfl) (by kernel_rfl) (fun _ _ _ h => h) (Or.inl ⟨by rfl, ?h5⟩) (by assumption) ?r5
            rotate_left
            · intro w hSw; (try dsimp only at hSw); go_simp; (try with_reducible rfl)
            try simp only [Act.put, List.getElem_toArray, List.getElem_cons_zero, List.getElem_cons_succ, List.setIfInBounds_toArray, List.set_cons_zero, List.set_cons_succ]
            refine wpAnyH_ready (rs := [6]) (by kernel_rfl) (by simp) ?_
            refine AllReadyH.cons rfl (fun K hK => ?_) AllReadyH.nil
            (go_simp; refine (HWITH.out _).mono ?_; rintro e w3 ⟨rfl, hB3⟩)
            refine hK.out _ _ ?_ (fun hHeld => ?_)
            · exact ⟨by rw [hB3.cell (p := ⟨z, 0, none⟩) hzW]; exact d0, by rw [hB3.cell (p := ⟨z, 1, none⟩) hzW]; exact d1, by rw [hB3.cell (p := ⟨z, 2, none⟩) hzW]; exact d2, by rw [hB3.cell (p := ⟨r, 1, none⟩) hrW2]; exact g1, by rw [hB3.cell (p := ⟨r, 2, none⟩) hrW2]; exact g2⟩
            clear hK K
            try simp only [Act.put, List.getElem_toArray, List.getElem_cons_zero, List.getElem_cons_succ, List.setIfInBounds_toArray, List.set_cons_zero, List.set_cons_succ]
            refine wpAnyH_take (i := 7) (v := ?v7) rfl (by kernel_rfl) (by kernel_rfl) (by kernel_rfl) (fun _ _ _ h => h) (Or.inl ⟨by rfl, ?h7⟩) (by assumption) ?r7
            rotate_left
            · intro w hSw; (try dsimp only at hSw); go_simp; (try with_reducible rfl)
            try simp only [Act.put, List.getElem_toArray, List.getElem_cons_zero, List.getElem_cons_succ, List.setIfInBounds_toArray, List.set_cons_zero, List.set_cons_succ]
            refine wpAnyH_done (by kernel_rfl) ?_ _
            simp only [LastQ]
            go_simp
            have hB4 : Below wt.heap.size wt w3 := HB2.out.drew.trans (hB3.mono HB2.out.size)
            refine (HPUSH.out w3 hB4).mono ?_
            rintro e w6 ⟨rfl, S6, hq6, hk6, hs6⟩
            have HQ6 : Hid (QR w6 b S6 false (p + (j + 1)) (pushX n V (xs.take (j + 1)))) := Lib.hid (by rw [HSN.out]; exact hq6)
            have HK6 : Hid (Keep S W1 w6) := Lib.hid ((HKT.out.on hB4).trans hk6 (fun k e => by
              rcases HST.out k e with h | h
              · exact Or.inl h
              · exact Or.inr h))
            have HS6 : Hid (∀ k, S6 k → S k ∨ W1.heap.size ≤ k) := Lib.hid (fun k e => by
              rcases hs6 k e with h | h
              · exact HST.out k h
              · exact Or.inr (by have := hB4.size; omega))
            clear hq6 hk6 hs6 hB3 hB4 hHeld d0 d1 d2 g1 g2
            go_wp2_with fail
            go_roundw
            case rel => exact ⟨j + 1, S6, by omega, by go_num, HQ6, HK6, HS6⟩
            case measure => simp only [intOf]; omega
          · obtain rfl : j = nx := by omega
            have hnlt : ¬ (j : Int) < (j : Int) := by omega
            have HQ2 : Hid (QR wt b S' false (p + j) (pushX n V xs)) := Lib.hid (by
              have := HQT.out
              rwa [List.take_of_length_le (by rw [HNX.out]; exact Nat.le_refl _)] at this)
            have HLEN2 : Hid (LenR wt g N (upd L q (some n))) := Lib.hid (Blk.keep HLN.out HKT.out (fun e => (HSS.out g e).2 rfl))
            have HBEL2 : Hid (Below w.heap.size w wt) := Lib.hid (HB1W.out.trans (HKT.out.below (fun k e => (HSS.out k e).1) HB1W.out.size))
            have HSS2 : Hid (∀ k, S' k → w.heap.size ≤ k ∧ k ≠ g) := Lib.hid (fun k e => by
              rcases HST.out k e with h | h
              · exact HSS.out k h
              · exact ⟨Nat.le_trans HB1W.out.size h, by omega⟩)
            have HCNT2 : Hid (p + j + unT l (upd L q (some n)) m ≤ 1 + m) := Lib.hid (by omega)
            have HDJ2 := HDJN
            have HGK2 : Hid ((pushX n V xs).length + unT l (upd L q (some n)) m ≤ gk - 1) := Lib.hid (by rw [pushX_length, HNX.out]; omega)
            obtain ⟨u0, u1, u2, u3, u4, u5⟩ := HVT.out
            simp only at u0 u1 u2
            have hrT : r < wt.heap.size := HVT.out.lt
            clear HQT HDJN HLN HQ1 HV1 HED1 hun'
            have HPOP := Lib.hid (pop_any b S' false (p + j) (pushX n V xs) (wt.alloc (.cells #[.int .i64 (q : Int), .int .i64 (xS n), .int .i64 (xE n)] 65)) (HQ2.out.below (below_alloc _ _)) (by have := HCNT2.out; omega))
            rw [hdV_eq] at HPOP
            obtain ⟨⟨y0, yk⟩, hy⟩ : ∃ y, hdI (pushX n V xs) = y := ⟨_, rfl⟩
            obtain ⟨bo, hbo⟩ : ∃ y, (!(pushX n V xs).isEmpty) = y := ⟨_, rfl⟩
            rw [hy, hbo] at HPOP
            have HY := Lib.hid hy
            have HBO := Lib.hid hbo
            clear hy hbo
            go_wp2_with fail
            refine HPOP.out.mono ?_
            rintro e w5 ⟨rfl, hq5, hk5⟩
            have HMV := Lib.hid (Mid.pop (r := r) (x := ((q : Int), n)) (w4 := w5) HQ2.out HLEN2.out HBEL2.out HSS2.out HG.out.1 HCNT2.out HDJ2.out hq5 hk5)
            rw [HY.out] at HMV
            obtain ⟨v0, v1, v2, f0, f1, f2⟩ := VarW.keep (VarW.made wt ((q : Int), n) 65) hk5 (fun e => by have := HQ2.out.lt _ e; omega)
            simp only [putW] at v0 v1 v2 HMV
            clear hq5 hk5 HPOP
            go_wp2_with fail
            go_roundg (gk - 1)
            case measure => omega
            case rel => exact ⟨(pushX n V xs), S', (p + j), wt.heap.size, (upd L q (some n)), by have := HGK2.out; omega, rfl, by rw [HBO.out], Lib.hid (by rw [HY.out]; exact HMV.out.2), Lib.hid HMV.out.1⟩
end Go.Proofs.Ythomklpaafnjhaa
