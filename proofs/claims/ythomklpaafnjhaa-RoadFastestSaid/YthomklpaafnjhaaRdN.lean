/-
  The contract of follow. Condition: a network that Check passes, and a way.
-/
import Derived.Test.YthomklpaafnjhaaRdM
import Derived.Deep.LoopGhost
import Derived.WalkMore
import Derived.Lib.QuietBelow
import Derived.ScopeJumps
namespace Go.Proofs.Ythomklpaafnjhaa
open Go.RowKit
set_option linter.unusedVariables false

theorem take_none (f : Ed → Bool) (xs : List Ed) : (xs.take 0).find? f = none := rfl
theorem rest_bd {N a t n : Nat} {l : List Ed} {D : Nat → Option Nat} (hN : OkL N l) (h64 : N ≤ 64) (ha : a < N) (hD : Ds (rev (arcs l)) a D) (h : D t = some n) :
    0 ≤ xS n ∧ xS n ≤ 63000 ∧ 0 ≤ xE n ∧ xE n ≤ 63 ∧ ∀ w, w ≤ 1000 → xS (up1 n w) = xS n + (w : Int) ∧ xE (up1 n w) = xE n + 1 := by
  have h3 := hD t
  rw [h] at h3
  obtain ⟨s, k, _, rfl, h4, h5⟩ := h3.form hN.net.rev ha
  rw [ln_S (by omega), ln_E (by omega)]
  refine ⟨by omega, by omega, by omega, by omega, fun w hw => ?_⟩
  rw [up1_ln, ln_S (by omega), ln_E (by omega)]
  omega
/-- The cells that the choice of an exit reads. -/
structure SevR (w : World) (z gr t u : Nat) (ef tt es a b c d : Int) : Prop where
  d0 : w.cell? ⟨z, 0, none⟩ = some (.int .i64 ef)
  d1 : w.cell? ⟨z, 1, none⟩ = some (.int .i64 tt)
  d2 : w.cell? ⟨z, 2, none⟩ = some (.int .i64 es)
  a0 : w.cell? ⟨gr, t * 2, none⟩ = some (.int .i64 a)
  a1 : w.cell? ⟨gr, t * 2 + 1, none⟩ = some (.int .i64 b)
  b0 : w.cell? ⟨gr, u * 2, none⟩ = some (.int .i64 c)
  b1 : w.cell? ⟨gr, u * 2 + 1, none⟩ = some (.int .i64 d)
theorem SevR.below {w w' : World} {z gr t u : Nat} {ef tt es a b c d : Int} (h : SevR w z gr t u ef tt es a b c d) (hb : Below w.heap.size w w') : SevR w' z gr t u ef tt es a b c d := by
  have hz : z < w.heap.size := World.block_lt_of_cell? _ _ h.d0
  have hg : gr < w.heap.size := World.block_lt_of_cell? _ _ h.a0
  refine ⟨?_, ?_, ?_, ?_, ?_, ?_, ?_⟩
  · rw [hb.cell (p := ⟨z, 0, none⟩) hz]; exact h.d0
  · rw [hb.cell (p := ⟨z, 1, none⟩) hz]; exact h.d1
  · rw [hb.cell (p := ⟨z, 2, none⟩) hz]; exact h.d2
  · rw [hb.cell (p := ⟨gr, t * 2, none⟩) hg]; exact h.a0
  · rw [hb.cell (p := ⟨gr, t * 2 + 1, none⟩) hg]; exact h.a1
  · rw [hb.cell (p := ⟨gr, u * 2, none⟩) hg]; exact h.b0
  · rw [hb.cell (p := ⟨gr, u * 2 + 1, none⟩) hg]; exact h.b1
attribute [local irreducible] wpQuiet
set_option linter.unusedSimpArgs false in
set_option maxRecDepth 100000 in
set_option maxHeartbeats 4000000 in
theorem follow_any (N g0 gr v a q m : Nat) (D : Nat → Option Nat) (l : List Ed) (w : World) (hN : N ≤ 64) (hm : l.length = m) (hm5 : m ≤ 512) (hO : OkL N l) (ha : a < N) (hv : v < N) (hD : Ds (rev (arcs l)) a D) (hq : D v = some q)
    (hX : XsR w g0 N (fun v => exT l (v : Int) m)) (hL : LenR w gr N D) :
    Calls Try.prog 31 #[.slice (some ⟨g0, 0, none⟩) N N, .slice (some ⟨gr, 0, none⟩) N N, .int .i64 (v : Int), .int .i64 (a : Int)] w fun e w' =>
      ∃ B d, e = .returned (.slice B (q % 1048576) d) ∧ IntR w' B (pth D l (q % 1048576) v) ∧ Below w.heap.size w w' ∧ ∀ x, B = some x → w.heap.size ≤ x.block := by
  have HM := Lib.hid hm
  have HO := Lib.hid hO
  have HD := Lib.hid hD
  have HX := Lib.hid hX
  have HL := Lib.hid hL
  have HV := Lib.hid hq
  have HPL := Lib.hid (pth_len hO hN ha hD _ v q hq rfl)
  have hb : 0 ≤ xS q ∧ xS q ≤ 63000 ∧ 0 ≤ xE q ∧ xE q ≤ 63 := by
    have h3 := hD v
    rw [hq] at h3
    obtain ⟨s, k, _, rfl, h4, h5⟩ := h3.form hO.net.rev ha
    rw [ln_S (by omega), ln_E (by omega)]
    omega
  obtain ⟨K, hK⟩ : ∃ K, q % 1048576 = K := ⟨_, rfl⟩
  have hxE : xE q = (K : Int) := by unfold xE; rw [hK]
  have hK64 : K ≤ 63 := by omega
  rw [hK] at HPL ⊢
  have HKQ := Lib.hid hK
  obtain ⟨l0, l1⟩ := hL.at hv
  rw [hq] at l0 l1
  have l1' : w.cell? ⟨gr, v * 2 + 1, none⟩ = some (.int .i64 (K : Int)) := by rw [l1]; show some (Value.int .i64 (xE q)) = _; rw [hxE]
  have hvz : (v : Int) < (N : Int) := by omega
  have hmk := make_room K (by omega)
  clear hm hO hD hX hL hq hb l0 l1 hK hxE
  go_enter Try.func31, Try.ntmps31
  go_wp2_with fail
  go_step3
  go_wp2_with fail
  clear hmk l1'
  obtain ⟨w1, hw1⟩ : ∃ x, w.alloc (.cells (madeCells #[.int .i64 0] K) 3) = x := ⟨_, rfl⟩
  have HB1 : Hid (Below w.heap.size w w1) := Lib.hid (hw1 ▸ below_alloc _ _)
  have HW1 : Hid (OwnI w1 w.heap.size (.slice (some ⟨w.heap.size, 0, none⟩) 0 K) []) := Lib.hid (hw1 ▸ OwnI.room w K (by omega))
  rw [hw1]
  clear hw1
  go_step3
  go_wp2_with fail
  go_loopg [9, 10] K (fun gk v9 v10 wr => ∃ (u p : Nat) (out : List Int), v10 = .int .i64 (u : Int) ∧ u < N ∧ Hid (D u = some p) ∧ Hid (p % 1048576 = gk) ∧ Hid (OwnI wr w.heap.size v9 out) ∧ Hid (out ++ pth D l gk u = pth D l K v) ∧ Hid (Below w.heap.size w wr))
  case atStart => exact ⟨v, q, [], rfl, hv, HV, HKQ, HW1, Lib.hid rfl, HB1⟩
  case round =>
    obtain ⟨u, p, out, rfl, hu, HDU, HPK, HOW, HOUT, HBW⟩ := hrel
    obtain ⟨Ao, co, hvo, hco, hro, hao⟩ := HOW.out.form
    by_cases hua : u = a
    · subst hua
      have hgk : gk = 0 := by rw [← HPK.out]; exact (goal_iff HO.out hN hu HD.out HDU.out).1 rfl
      have HOE : Hid (out = pth D l K v) := Lib.hid (by
        have := HOUT.out
        rw [hgk] at this
        rw [← this]; simp [pth])
      rw [HOE.out] at hvo hro
      rw [HPL.out] at hvo
      subst hvo
      have HRO := Lib.hid hro
      have HAO := Lib.hid hao
      clear hro hao HOW HOUT HOE hco
      go_wp2_with fail
      try rw [Exit.noGoto_ret]
      go_ret
      exact ⟨Ao, co, rfl, HRO.out, HBW.out, HAO.out⟩
    · have huz : ¬ (u : Int) = (a : Int) := by omega
      have huz2 : ((u : Int) != (a : Int)) = true := by simp [huz]
      have huN : (u : Int) < (N : Int) := by omega
      obtain ⟨x, n, hnx, hxm, hxn, hup, hmod⟩ := nxt_some HO.out hN ha HD.out HDU.out hua
      have HNX := Lib.hid hnx
      have HXN := Lib.hid (And.intro hxn (And.intro hup hmod))
      have hXr := HX.out.below HBW.out
      obtain ⟨A, cap, hrow, hEd⟩ := hXr.2 u hu
      simp only at hrow hEd
      obtain ⟨xs, hxs⟩ : ∃ xs, exT l (u : Int) m = xs := ⟨_, rfl⟩
      rw [hxs] at hrow hEd
      obtain ⟨nx, hnx2⟩ : ∃ nx, xs.length = nx := ⟨_, rfl⟩
      rw [hnx2] at hrow
      have HNL := Lib.hid hnx2
      have HFI : Hid (xs.find? (okX D u) = some x) := Lib.hid (by rw [← hxs, ← HM.out]; exact hnx)
      have HBD : Hid (∀ e ∈ xs, 0 ≤ e.t ∧ e.t < (N : Int) ∧ 1 ≤ e.s ∧ e.s ≤ 1000) := Lib.hid (fun e he => by
        rw [← hxs] at he
        obtain ⟨i, hi, _, rfl⟩ := exT_mem.1 he
        have := HO.out i (by rw [HM.out]; exact hi)
        exact ⟨this.2.2.1, this.2.2.2.1, this.2.2.2.2.1, this.2.2.2.2.2⟩)
      have HEd := Lib.hid hEd
      have hnx5 : nx ≤ 512 := by rw [← hnx2, ← hxs]; exact Nat.le_trans (exT_length _ _ _) hm5
      have HDB := Lib.hid (fun t n (h : D t = some n) => rest_bd HO.out hN ha HD.out h)
      subst hvo
      have hg0 : g0 < wr.heap.size := hXr.1
      clear hXr hEd hxs hnx hxm hxn hup hmod hnx2 hco hro hao
      go_wp2_with fail
      clear hrow
      obtain ⟨wA, rfl⟩ : ∃ y, y = wr := ⟨_, rfl⟩
      obtain ⟨G, rfl⟩ : ∃ y, y = gk := ⟨_, rfl⟩
      go_loopg [9, 10, 28] nx (fun gj v9 v10 i wr => v9 = .slice Ao out.length co ∧ v10 = .int .i64 (u : Int) ∧ ∃ j : Nat, j ≤ nx ∧ gj = nx - j ∧ i = .int .i64 (j : Int) ∧ Hid ((xs.take j).find? (okX D u) = none) ∧ Hid (Below wA.heap.size wA wr))
      case atStart => exact ⟨rfl, rfl, 0, by omega, by omega, rfl, Lib.hid (take_none _ _), Lib.hid (Below.refl _ _)⟩
      case round =>
        obtain ⟨rfl, rfl, j, hj, hgj, rfl, HNO, HBJ⟩ := hrel
        by_cases hlt : j < nx
        · have hjz : (j : Int) < (nx : Int) := by omega
          have hjl : j < xs.length := by rw [HNL.out]; exact hlt
          obtain ⟨bx, ox, rfl, hbx, c0, c1, c2⟩ := (HEd.out.below HBJ.out).at hjl
          obtain ⟨t0, t1, s0, s1⟩ := HBD.out (xs.getD j ed0) (by simp [hjl])
          have HFT := Lib.hid (find_take xs (okX D u) j hjl HNO.out)
          obtain ⟨y, hy⟩ : ∃ y, xs.getD j ed0 = y := ⟨_, rfl⟩
          rw [hy] at c0 c1 c2 t0 t1 s0 s1 HFT
          obtain ⟨ef, et0, es0⟩ := y
          simp only at c0 c1 c2 t0 t1 s0 s1
          obtain ⟨et, rfl⟩ : ∃ z : Nat, et0 = (z : Int) := ⟨et0.toNat, by omega⟩
          obtain ⟨es, rfl⟩ : ∃ z : Nat, es0 = (z : Int) := ⟨es0.toNat, by omega⟩
          have het : et < N := by omega
          have hes : es ≤ 1000 := by omega
          have hBwr : Below w.heap.size w wr := HBW.out.trans (HBJ.out.mono HBW.out.size)
          have hLr : LenR wr gr N D := Blk.below HL.out hBwr
          obtain ⟨a0, a1⟩ := hLr.at het
          obtain ⟨b0, b1⟩ := hLr.at hu
          have HBWR := Lib.hid hBwr
          rw [HDU.out] at b0 b1
          obtain ⟨u0, u1, u2, u3, _⟩ := HDB.out u p HDU.out
          obtain ⟨ua, hua2⟩ : ∃ z, lS (some p) = z := ⟨_, rfl⟩
          obtain ⟨ub, hub2⟩ : ∃ z, lE (some p) = z := ⟨_, rfl⟩
          rw [hua2] at b0
          rw [hub2] at b1
          have hetz : (et : Int) < (N : Int) := by omega
          have hrl : gr < wr.heap.size := Blk.lt hLr
          have HUA := Lib.hid (And.intro hua2 hub2)
          cases hde : D et with
          | none =>
            rw [hde] at a0 a1
            have hokf : okX D u ⟨ef, (et : Int), (es : Int)⟩ = false := by unfold okX; simp only [Int.toNat_natCast, hde]
            have HN2 := Lib.hid (HFT.out.2 hokf)
            obtain ⟨ta, hta⟩ : ∃ z, lS none = z := ⟨_, rfl⟩
            obtain ⟨tb, htb⟩ : ∃ z, lE none = z := ⟨_, rfl⟩
            have hta1 : ta = -1 := hta.symm
            subst hta1
            have a0' : wr.cell? ⟨gr, et * 2, none⟩ = some (.int .i64 (-1)) := a0
            rw [htb] at a1
            clear hta htb a0 hua2 hub2 hde hLr hBwr
            go_wp2_with fail
            obtain ⟨W2, hW2⟩ : ∃ x, wr.alloc (.cells #[.int .i64 ef, .int .i64 (et : Int), .int .i64 (es : Int)] 73) = x := ⟨_, rfl⟩
            have hB2 : Below wr.heap.size wr W2 := hW2 ▸ below_alloc _ _
            obtain ⟨e0, e1, e2⟩ : TriR W2 wr.heap.size ⟨ef, (et : Int), (es : Int)⟩ := hW2 ▸ TriR.made wr _ _ _ _
            have HSV : Hid (SevR W2 wr.heap.size gr et u ef (et : Int) (es : Int) (-1) tb ua ub) := Lib.hid ⟨e0, e1, e2, by rw [hB2.cell (p := ⟨gr, et * 2, none⟩) hrl]; exact a0', by rw [hB2.cell (p := ⟨gr, et * 2 + 1, none⟩) hrl]; exact a1, by rw [hB2.cell (p := ⟨gr, u * 2, none⟩) hrl]; exact b0, by rw [hB2.cell (p := ⟨gr, u * 2 + 1, none⟩) hrl]; exact b1⟩
            have HB2 : Hid (Below wA.heap.size wA W2) := Lib.hid (Below.step HBJ.out hB2)
            rw [hW2]
            obtain ⟨z, hz⟩ : ∃ z, wr.heap.size = z := ⟨_, rfl⟩
            have HZ : Hid (wA.heap.size ≤ z) := Lib.hid (by rw [← hz]; exact HBJ.out.size)
            rw [hz] at HSV ⊢
            clear hW2 hz e0 e1 e2 hB2 a0' a1 b0 b1 c0 c1 c2 hbx hrl HBJ
            obtain ⟨d0, d1, d2, a0, a1, b0, b1⟩ := HSV.out
            have hzW := World.block_lt_of_cell? _ _ d0
            have hgW := World.block_lt_of_cell? _ _ a0
            simp only at hzW hgW
            go_quiet (fail)
            go_wp2_with fail
            go_roundg (nx - (j + 1))
            case measure => omega
            case rel => exact ⟨rfl, rfl, j + 1, by omega, by omega, by go_num, HN2, Lib.hid (Below.drewN HB2.out _)⟩
          | some n2 =>
            rw [hde] at a0 a1
            obtain ⟨v0, v1, v2, v3, v4⟩ := HDB.out et n2 hde
            obtain ⟨v5, v6⟩ := v4 es hes
            obtain ⟨ta, hta⟩ : ∃ z, xS n2 = z := ⟨_, rfl⟩
            obtain ⟨tb, htb⟩ : ∃ z, xE n2 = z := ⟨_, rfl⟩
            have a0' : wr.cell? ⟨gr, et * 2, none⟩ = some (.int .i64 ta) := by rw [← hta]; exact a0
            have a1' : wr.cell? ⟨gr, et * 2 + 1, none⟩ = some (.int .i64 tb) := by rw [← htb]; exact a1
            rw [hta] at v0 v1 v5
            rw [htb] at v2 v3 v6
            have hne : ¬ ta = -1 := by omega
            have hne2 : (ta != (-1 : Int)) = true := by simp [hne]
            have hne3 : (ta == (-1 : Int)) = false := by simp [hne]
            have HWITH := Lib.hid (fun W => with_any ta tb ef (et : Int) (es : Int) (by omega) (by omega) (by omega) (by omega) (by omega) (by omega) W)
            have hgd := fun (w : World) o1 o2 xs ys => run_guardL w o1 o2 xs ys
            have HDE := Lib.hid hde
            have HEQ := Lib.hid (And.intro v5 v6)
            clear a0 a1 hta htb hde hLr hBwr
            have a1 := a1'
            clear a1'
            by_cases hup : up1 n2 es = p
            · have hok : okX D u ⟨ef, (et : Int), (es : Int)⟩ = true := (okX_iff HDU.out).2 ⟨n2, by simpa using HDE.out, by simpa using hup⟩
              have hfx := HFT.out.1 hok
              have hxe : x = ⟨ef, (et : Int), (es : Int)⟩ := by
                have := HFI.out
                rw [hfx] at this
                exact (Option.some.inj this).symm
              have e1 : ta + (es : Int) = ua := by rw [← v5, hup, ← HUA.out.1]; rfl
              have e2 : tb + 1 = ub := by rw [← v6, hup, ← HUA.out.2]; rfl
              have heq : ∀ w, (binOp .eql 55 (.agg #[.int .i64 (ta + (es : Int)), .int .i64 (tb + 1)]) (.agg #[.int .i64 ua, .int .i64 ub])).run Try.prog w = .ok (.bool true) w := fun w => by
                rw [run_eqlL, e1, e2]
                simp
              have HPT : Hid (pth D l (G - 1 + 1) u = ef :: pth D l (G - 1) et) := Lib.hid (by
                have h9 := HNX.out
                rw [hxe] at h9
                rw [pth_some h9]
                simp)
              have HMOD : Hid (n2 % 1048576 = G - 1 ∧ 1 ≤ G) := Lib.hid (by
                have h9 := HXN.out
                rw [hxe] at h9
                obtain ⟨q1, _, q3⟩ := h9
                simp only [Int.toNat_natCast] at q1
                rw [HDE.out] at q1
                have := Option.some.inj q1
                have := HPK.out
                omega)
              clear hok hfx hxe v5 v6 hua2 hub2
              go_wp2_with fail
              obtain ⟨W2, hW2⟩ : ∃ x, wr.alloc (.cells #[.int .i64 ef, .int .i64 (et : Int), .int .i64 (es : Int)] 73) = x := ⟨_, rfl⟩
              have hB2 : Below wr.heap.size wr W2 := hW2 ▸ below_alloc _ _
              obtain ⟨e0, e1, e2⟩ : TriR W2 wr.heap.size ⟨ef, (et : Int), (es : Int)⟩ := hW2 ▸ TriR.made wr _ _ _ _
              have HSV : Hid (SevR W2 wr.heap.size gr et u ef (et : Int) (es : Int) ta tb ua ub) := Lib.hid ⟨e0, e1, e2, by rw [hB2.cell (p := ⟨gr, et * 2, none⟩) hrl]; exact a0', by rw [hB2.cell (p := ⟨gr, et * 2 + 1, none⟩) hrl]; exact a1, by rw [hB2.cell (p := ⟨gr, u * 2, none⟩) hrl]; exact b0, by rw [hB2.cell (p := ⟨gr, u * 2 + 1, none⟩) hrl]; exact b1⟩
              have HB2 : Hid (Below wA.heap.size wA W2) := Lib.hid (Below.step HBJ.out hB2)
              rw [hW2]
              obtain ⟨z, hz⟩ : ∃ z, wr.heap.size = z := ⟨_, rfl⟩
              have HZ : Hid (wA.heap.size ≤ z) := Lib.hid (by rw [← hz]; exact HBJ.out.size)
              rw [hz] at HSV ⊢
              clear hW2 hz e0 e1 e2 hB2 a0' a1 b0 b1 c0 c1 c2 hbx hrl HBJ
              obtain ⟨d0, d1, d2, a0, a1, b0, b1⟩ := HSV.out
              go_region_held3 (fun w' => w'.cell? ⟨z, 0, none⟩ = some (.int .i64 ef) ∧ w'.cell? ⟨z, 1, none⟩ = some (.int .i64 (et : Int)) ∧ w'.cell? ⟨z, 2, none⟩ = some (.int .i64 (es : Int)) ∧ w'.cell? ⟨gr, et * 2, none⟩ = some (.int .i64 ta) ∧ w'.cell? ⟨gr, et * 2 + 1, none⟩ = some (.int .i64 tb) ∧ w'.cell? ⟨gr, u * 2, none⟩ = some (.int .i64 ua) ∧ w'.cell? ⟨gr, u * 2 + 1, none⟩ = some (.int .i64 ub))
                (first | go_keep | exact ⟨d0, d1, d2, a0, a1, b0, b1⟩)
                (first | (go_at_call 38; refine (HWITH.out _).mono ?_; rintro e w3 ⟨rfl, hB3⟩; obtain ⟨k0, k1, k2, k3, k4, k5, k6⟩ := HSV.out.below (Below.refl _ _ |>.drew.trans hB3)) | fail)
              have hB23 : Below wA.heap.size wA w3 := HB2.out.drew.trans (hB3.mono HB2.out.size)
              have HOW3 : Hid (OwnI w3 w.heap.size (.slice Ao out.length co) out) := Lib.hid (HOW.out.below hB23)
              have hw3 : w.heap.size ≤ w3.heap.size := Nat.le_trans HBW.out.size hB23.size
              have hz3 : z < w3.heap.size := World.block_lt_of_cell? _ _ k0
              have HOL : Hid (out.length ≤ 100000) := Lib.hid (by
                have h9 := congrArg List.length HOUT.out
                rw [List.length_append, HPL.out] at h9
                omega)
              have HB23 := Lib.hid hB23
              have HK1 := Lib.hid k1
              clear hB3 hB23 d0 d1 d2 a0 a1 b0 b1 k1 k2 k3 k4 k5 k6 heq hgd hne hne2 hne3
              go_wp2_with (at_builtin; refine wpList_append_int rfl _ _ rfl w.heap.size (.slice Ao out.length co) out rfl (HOW3.out.below (below_alloc _ _)) w3.heap.size 1 ef rfl (by rw [World.cell?_alloc_new]; rfl) HOL.out (by simp; omega) ?_)
              intro v4 w4 hO4 hg4
              have HO4 := Lib.hid hO4.out
              have k34 : Keep (fun k => (Value.slice Ao out.length co).ownBlock = some k) w3 w4 := (Keep.alloc0 w3 _).grown hg4.out (fun k e => Or.inl e)
              have q1 : w4.cell? ⟨z, 1, none⟩ = some (.int .i64 (et : Int)) := by
                rw [k34.cell (p := ⟨z, 1, none⟩) hz3 (fun e => by have := (HOW.out.ge z e).2; have := HZ.out; omega)]
                exact HK1.out
              have HB4 : Hid (Below w.heap.size w w4) := Lib.hid ((HBW.out.trans (HB23.out.mono HBW.out.size)).trans (k34.below (fun k e => (HOW.out.ge k e).1) hw3))
              have HOUT4 : Hid ((out ++ [ef]) ++ pth D l (G - 1) et = pth D l K v) := Lib.hid (by
                have h9 := HOUT.out
                have h8 := HPT.out
                rw [show G - 1 + 1 = G by have := HMOD.out.2; omega] at h8
                rw [h8] at h9
                rw [← h9]; simp)
              clear k34 hO4 hg4
              go_wp2_with fail
              go_roundg (G - 1)
              case measure => have := HMOD.out.2; omega
              case rel => exact ⟨et, n2, out ++ [ef], rfl, het, HDE, Lib.hid HMOD.out.1, HO4, HOUT4, HB4⟩
            · have hokf : okX D u ⟨ef, (et : Int), (es : Int)⟩ = false := by
                cases hh : okX D u ⟨ef, (et : Int), (es : Int)⟩ with
                | false => rfl
                | true =>
                  obtain ⟨n3, q1, q2⟩ := (okX_iff HDU.out).1 hh
                  simp only [Int.toNat_natCast] at q1 q2
                  rw [HDE.out] at q1
                  cases q1
                  exact absurd q2 hup
              have HN2 := Lib.hid (HFT.out.2 hokf)
              have heq : ∀ w, (binOp .eql 55 (.agg #[.int .i64 (ta + (es : Int)), .int .i64 (tb + 1)]) (.agg #[.int .i64 ua, .int .i64 ub])).run Try.prog w = .ok (.bool false) w := fun w => by
                rw [run_eqlL]
                by_cases e1 : ta + (es : Int) = ua
                · by_cases e2 : tb + 1 = ub
                  · exact absurd (x_eq.1 ⟨by rw [v5, e1, ← HUA.out.1]; rfl, by rw [v6, e2, ← HUA.out.2]; rfl⟩) hup
                  · have : (tb + 1 == ub) = false := by simp [e2]
                    rw [this]; simp
                · have : (ta + (es : Int) == ua) = false := by simp [e1]
                  rw [this]; simp
              clear hokf v5 v6 hua2 hub2 hup
              go_wp2_with fail
              obtain ⟨W2, hW2⟩ : ∃ x, wr.alloc (.cells #[.int .i64 ef, .int .i64 (et : Int), .int .i64 (es : Int)] 73) = x := ⟨_, rfl⟩
              have hB2 : Below wr.heap.size wr W2 := hW2 ▸ below_alloc _ _
              obtain ⟨e0, e1, e2⟩ : TriR W2 wr.heap.size ⟨ef, (et : Int), (es : Int)⟩ := hW2 ▸ TriR.made wr _ _ _ _
              have HSV : Hid (SevR W2 wr.heap.size gr et u ef (et : Int) (es : Int) ta tb ua ub) := Lib.hid ⟨e0, e1, e2, by rw [hB2.cell (p := ⟨gr, et * 2, none⟩) hrl]; exact a0', by rw [hB2.cell (p := ⟨gr, et * 2 + 1, none⟩) hrl]; exact a1, by rw [hB2.cell (p := ⟨gr, u * 2, none⟩) hrl]; exact b0, by rw [hB2.cell (p := ⟨gr, u * 2 + 1, none⟩) hrl]; exact b1⟩
              have HB2 : Hid (Below wA.heap.size wA W2) := Lib.hid (Below.step HBJ.out hB2)
              rw [hW2]
              obtain ⟨z, hz⟩ : ∃ z, wr.heap.size = z := ⟨_, rfl⟩
              have HZ : Hid (wA.heap.size ≤ z) := Lib.hid (by rw [← hz]; exact HBJ.out.size)
              rw [hz] at HSV ⊢
              clear hW2 hz e0 e1 e2 hB2 a0' a1 b0 b1 c0 c1 c2 hbx hrl HBJ
              obtain ⟨d0, d1, d2, a0, a1, b0, b1⟩ := HSV.out
              go_region_held3 (fun w' => w'.cell? ⟨z, 0, none⟩ = some (.int .i64 ef) ∧ w'.cell? ⟨z, 1, none⟩ = some (.int .i64 (et : Int)) ∧ w'.cell? ⟨z, 2, none⟩ = some (.int .i64 (es : Int)) ∧ w'.cell? ⟨gr, et * 2, none⟩ = some (.int .i64 ta) ∧ w'.cell? ⟨gr, et * 2 + 1, none⟩ = some (.int .i64 tb) ∧ w'.cell? ⟨gr, u * 2, none⟩ = some (.int .i64 ua) ∧ w'.cell? ⟨gr, u * 2 + 1, none⟩ = some (.int .i64 ub))
                (first | go_keep | exact ⟨d0, d1, d2, a0, a1, b0, b1⟩)
                (first | (go_at_call 38; refine (HWITH.out _).mono ?_; rintro e w3 ⟨rfl, hB3⟩; obtain ⟨k0, k1, k2, k3, k4, k5, k6⟩ := HSV.out.below (Below.refl _ _ |>.drew.trans hB3)) | fail)
              go_wp2_with fail
              go_roundg (nx - (j + 1))
              case measure => omega
              case rel => exact ⟨rfl, rfl, j + 1, by omega, by omega, by go_num, HN2, Lib.hid (HB2.out.drew.trans (hB3.mono HB2.out.size))⟩
        · obtain rfl : j = nx := by omega
          have := HFI.out
          rw [List.take_of_length_le (by rw [HNL.out]; exact Nat.le_refl _)] at HNO
          rw [HNO.out] at this
          cases this
end Go.Proofs.Ythomklpaafnjhaa
