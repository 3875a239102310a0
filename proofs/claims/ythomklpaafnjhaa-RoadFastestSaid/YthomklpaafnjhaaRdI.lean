/-
  What Times answers; the contract of Times. Condition: at most 600 edges.
-/
import Derived.Test.YthomklpaafnjhaaRdG
namespace Go.Proofs.Ythomklpaafnjhaa
open Go.RowKit
set_option linter.unusedVariables false

/-- The error of Times. -/
def tmE (n : Int) (l : List Ed) (v : Int) : Int := if ck n l = 0 then (if nodeB n v = true then 0 else 7) else ck n l
/-- The travel times to N nodes. -/
def tmL (N : Nat) (D : Nat → Option Nat) : List Int := (List.range N).map fun v => lS (D v)
def tmA (n : Int) (l : List Ed) (v : Int) (D : Nat → Option Nat) : List Int := if tmE n l v = 0 then tmL n.toNat D else []
theorem tmL_length (N : Nat) (D : Nat → Option Nat) : (tmL N D).length = N := by unfold tmL; simp
theorem tmL_get (N : Nat) (D : Nat → Option Nat) (k : Nat) (h : k < N) : (tmL N D).getD k 0 = lS (D k) := by unfold tmL; simp [h]
/-- The first k times are laid. -/
def tmV (D : Nat → Option Nat) (k j : Nat) : Value := if j < k then .int .i64 (lS (D j)) else .int .i64 0
theorem tmV_read {w : World} {g N : Nat} {D : Nat → Option Nat} (h : Blk w g 3 N (tmV D N)) : IntR w (some ⟨g, 0, none⟩) (tmL N D) := fun h0 => by
  refine ⟨g, 0, rfl, h.lt, fun k hk => ?_⟩
  rw [tmL_length] at hk
  rw [Nat.zero_add, h.cell hk, tmL_get _ _ _ hk]
  unfold tmV; rw [if_pos hk]
/-- What a function that returns a list of numbers and an error returns. -/
def RetE (w : World) (L : List Int) (X : Int) (e : Ending) (w' : World) : Prop :=
  ∃ B d k, e = .returned (.tuple #[.slice B k d, .int .i64 X]) ∧ L.length = k ∧ IntR w' B L ∧ Below w.heap.size w w' ∧ ∀ a, B = some a → w.heap.size ≤ a.block

set_option maxRecDepth 100000 in
set_option maxHeartbeats 2000000 in
theorem times_any (n v : Int) (A : Option Addr) (m c : Nat) (l : List Ed) (D : Nat → Option Nat) (w : World) (hm : l.length = m) (hA : EdR w A l) (hD : Ds (arcs l) v.toNat D) :
    Calls Try.prog 11 #[.agg #[.int .i64 n, .slice A m c], .int .i64 v] w fun e w' => RetE w (tmA n l v D) (tmE n l v) e w' := by
  have HM := Lib.hid hm
  have HD := Lib.hid hD
  have HA1 := Lib.hid (hA.below (below_alloc w (.cells #[.int .i64 n, .slice A m c] 24)))
  have HBX := Lib.hid (BoxR.made w n A m c 24)
  have HB1 := Lib.hid (below_alloc w (.cells #[.int .i64 n, .slice A m c] 24))
  have HCK := Lib.hid (fun W (hE : EdR W A l) => check_any n A m c l W hm hE)
  have HND := Lib.hid (fun W => isNode_any n v A m c W)
  clear hm hD hA
  by_cases h0 : ck n l = 0
  · obtain ⟨N, rfl, h1, h64, hm5, hO⟩ := ck_ok h0
    have HO := Lib.hid hO
    by_cases hv : nodeB (N : Int) v = true
    · have hE : tmE (N : Int) l v = 0 := by unfold tmE; rw [if_pos h0, if_pos hv]
      obtain ⟨a0, a1⟩ := nodeB_true.1 hv
      obtain ⟨a, rfl⟩ : ∃ a : Nat, v = (a : Int) := ⟨v.toNat, by omega⟩
      have hans : tmA (N : Int) l (a : Int) D = tmL N D := by unfold tmA; rw [if_pos hE]; rfl
      rw [hans, hE]
      have hm6 : m ≤ 512 := by rw [← HM.out]; exact hm5
      have HEX := Lib.hid (fun W (hE : EdR W A l) => exits_any N A m c l W h64 HM.out hm6 hE hO)
      have HLE := Lib.hid (fun W g0 (hX : XsR W g0 N (fun v => exT l (v : Int) m)) => lengths_any N g0 a m D l W h1 h64 HM.out hm6 hO (by omega) HD.out hX)
      have hmk := make_ints N (by omega)
      rw [h0] at HCK
      rw [hv] at HND
      clear hans hE hv h0 hO
      go_enter Try.func11, Try.ntmps11
      go_wp2_with fail
      obtain ⟨w1, hw1⟩ : ∃ x, w.alloc (.cells #[.int .i64 (N : Int), .slice A m c] 24) = x := ⟨_, rfl⟩
      rw [hw1] at HA1 HBX HB1 ⊢
      clear hw1
      refine (HCK.out _ HA1.out).mono ?_
      rintro e w2 ⟨rfl, hB2⟩
      obtain ⟨x0, x1⟩ := HBX.out.below hB2
      have HB2 := Lib.hid hB2
      go_wp2_with fail
      refine (HND.out _).mono ?_
      rintro e w3 ⟨rfl, hB3⟩
      have hB13 := Below.step HB2.out hB3
      obtain ⟨y0, y1⟩ := HBX.out.below hB13
      have hbs : w.heap.size < w3.heap.size := World.block_lt_of_cell? _ _ y0
      have HB3 := Lib.hid hB13
      have HR3 := Lib.hid (Blk.made w3 N 3 (.int .i64 0) (tmV D 0) (fun j => if_neg (Nat.not_lt_zero j)))
      have HA4 := Lib.hid ((HA1.out.below hB13).below (below_alloc w3 (.cells (madeCells #[.int .i64 0] N) 3)))
      have HB4 := Lib.hid (below_alloc w3 (.cells (madeCells #[.int .i64 0] N) 3))
      clear hB2 hB3 hB13 x0 x1 HB2
      go_wp2_with fail
      obtain ⟨w4, hw4⟩ : ∃ x, w3.alloc (.cells (madeCells #[.int .i64 0] N) 3) = x := ⟨_, rfl⟩
      obtain ⟨g, hg⟩ : ∃ x, w3.heap.size = x := ⟨_, rfl⟩
      have hg1 : w1.heap.size ≤ g := by rw [← hg]; exact HB3.out.size
      rw [hw4] at HR3 HA4 HB4 ⊢
      rw [hg] at HR3 ⊢
      have HG : Hid (w.heap.size ≤ g ∧ g < w4.heap.size) := Lib.hid ⟨Nat.le_trans HB1.out.size hg1, Blk.lt HR3.out⟩
      have HB14 : Hid (Below w.heap.size w w4) := Lib.hid (Below.step HB1.out (Below.step HB3.out HB4.out))
      clear hw4 hg hmk y0 y1 HB3 HB4 hg1
      refine (HEX.out _ HA4.out).mono ?_
      rintro e w5 ⟨g0, rfl, hX5, hB5⟩
      go_wp2_with fail
      refine (HLE.out _ _ hX5).mono ?_
      rintro e w6 ⟨gl, rfl, hL6, _, hB6⟩
      have hB46 := Below.step hB5 hB6
      have HR6 : Hid (Blk w6 g 3 N (tmV D 0)) := Lib.hid (HR3.out.below hB46)
      have HB6 : Hid (Below w.heap.size w w6) := Lib.hid (Below.step HB14.out hB46)
      have HL6 := Lib.hid hL6
      have HGL : Hid (gl ≠ g) := Lib.hid (fun e => by
        have h1 := HR6.out
        have h2 := hL6
        rw [e] at h2
        obtain ⟨c1, d1, _⟩ := h1
        obtain ⟨c2, d2, _⟩ := h2
        rw [d1] at d2
        injection d2 with d2
        injection d2 with _ d2
        exact absurd d2 (by decide))
      have hg6 : g < w6.heap.size := HR6.out.lt
      clear hX5 hB5 hB6 hL6 hB46 HR3
      go_wp2_with fail
      go_loopw [27] (fun i wr => ∃ k : Nat, k ≤ N ∧ i = .int .i64 (k : Int) ∧ Hid (Blk wr g 3 N (tmV D k)) ∧ Hid (Keep (fun k => k = g) w6 wr)) (fun i _ => N - (intOf i).toNat)
      case atStart => exact ⟨0, by omega, rfl, HR6, Lib.hid (Keep.refl _ _)⟩
      case round =>
        obtain ⟨k, hk, rfl, HR, HK⟩ := hrel
        have HLr : Hid (LenR wr gl N D) := Lib.hid (Blk.keep HL6.out HK.out HGL.out)
        by_cases hlt : k < N
        · have hkz : (k : Int) < (N : Int) := by omega
          obtain ⟨l0, l1⟩ := HLr.out.at hlt
          have r0 := HR.out.cell hlt
          have r1 := HR.out.frozen k
          have hgr : g < wr.heap.size := HR.out.lt
          have hglr : gl < wr.heap.size := Blk.lt HLr.out
          have hne : ¬ wr.heap.size = g := by omega
          have HR5 : Hid (Blk ((wr.setCell ⟨g, k, none⟩ (.int .i64 (lS (D k)))).alloc (.cells #[.int .i64 (lS (D k)), .int .i64 (lE (D k))] 55)) g 3 N (tmV D (k + 1))) := Lib.hid ((HR.out.set _ hlt (V' := tmV D (k + 1)) (fun j _ => by
            unfold tmV
            by_cases e : j = k
            · rw [if_pos e, if_pos (by omega), e]
            · rw [if_neg e]
              by_cases e2 : j < k
              · rw [if_pos e2, if_pos (by omega)]
              · rw [if_neg e2, if_neg (by omega)])).below (below_alloc _ _))
          have HK5 : Hid (Keep (fun k => k = g) w6 ((wr.setCell ⟨g, k, none⟩ (.int .i64 (lS (D k)))).alloc (.cells #[.int .i64 (lS (D k)), .int .i64 (lE (D k))] 55))) := Lib.hid ((HK.out.set _ _ rfl).alloc _)
          go_wp2_with fail
          go_roundw
          case rel => exact ⟨k + 1, by omega, by go_num, HR5, HK5⟩
          case measure => simp only [intOf]; omega
        · obtain rfl : k = N := by omega
          have hnlt : ¬ (k : Int) < (k : Int) := by omega
          go_wp2_with fail
          go_ret2
          exact ⟨_, _, _, rfl, tmL_length _ _, tmV_read HR.out, HB6.out.trans (HK.out.below (fun x e => by rw [e]; exact HG.out.1) HB6.out.size), fun a ha => by cases ha; exact HG.out.1⟩
    · have hvf : nodeB (N : Int) v = false := by
        cases hh : nodeB (N : Int) v with
        | true => exact absurd hh hv
        | false => rfl
      have hE : tmE (N : Int) l v = 7 := by unfold tmE; rw [if_pos h0, if_neg hv]
      have hans : tmA (N : Int) l v D = [] := by unfold tmA; rw [hE]; rfl
      rw [hans, hE]
      rw [h0] at HCK
      rw [hvf] at HND
      clear hans hE hv h0 hO hvf
      go_enter Try.func11, Try.ntmps11
      go_wp2_with fail
      obtain ⟨w1, hw1⟩ : ∃ x, w.alloc (.cells #[.int .i64 (N : Int), .slice A m c] 24) = x := ⟨_, rfl⟩
      rw [hw1] at HA1 HBX HB1 ⊢
      clear hw1
      refine (HCK.out _ HA1.out).mono ?_
      rintro e w2 ⟨rfl, hB2⟩
      obtain ⟨x0, x1⟩ := HBX.out.below hB2
      have HB2 := Lib.hid hB2
      go_wp2_with fail
      refine (HND.out _).mono ?_
      rintro e w3 ⟨rfl, hB3⟩
      have HB3 := Lib.hid (Below.step HB1.out (Below.step HB2.out hB3))
      clear hB2 hB3 x0 x1
      go_wp2_with fail
      go_ret2
      exact ⟨none, 0, 0, rfl, rfl, IntR.nil _ _, HB3.out, fun a ha => by cases ha⟩
  · obtain ⟨X, hX⟩ : ∃ X, ck n l = X := ⟨_, rfl⟩
    have hE : tmE n l v = X := by unfold tmE; rw [if_neg h0]; exact hX
    have hX0 : ¬ X = 0 := fun e => h0 (hX.trans e)
    have hans : tmA n l v D = [] := by unfold tmA; rw [hE, if_neg hX0]
    rw [hans, hE]
    rw [hX] at HCK
    clear hans hE h0 hX
    go_enter Try.func11, Try.ntmps11
    go_wp2_with fail
    obtain ⟨w1, hw1⟩ : ∃ x, w.alloc (.cells #[.int .i64 n, .slice A m c] 24) = x := ⟨_, rfl⟩
    rw [hw1] at HA1 HBX HB1 ⊢
    clear hw1
    refine (HCK.out _ HA1.out).mono ?_
    rintro e w2 ⟨rfl, hB2⟩
    have HB2 := Lib.hid (Below.step HB1.out hB2)
    clear hB2
    go_wp2_with fail
    go_ret2
    exact ⟨none, 0, 0, rfl, rfl, IntR.nil _ _, HB2.out, fun a ha => by cases ha⟩
end Go.Proofs.Ythomklpaafnjhaa
