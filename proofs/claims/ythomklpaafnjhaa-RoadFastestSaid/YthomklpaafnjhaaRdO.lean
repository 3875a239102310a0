/-
  What Way answers; the contract of Way. Condition: at most 600 edges.
-/
import Derived.Test.YthomklpaafnjhaaRdN
import Derived.Test.YthomklpaafnjhaaRdK
namespace Go.Proofs.Ythomklpaafnjhaa
open Go.RowKit
set_option linter.unusedVariables false

/-- The error of Way; D: the least lengths of the ways to its goal. -/
def wyE (n : Int) (l : List Ed) (u v : Int) (D : Nat → Option Nat) : Int :=
  if ck n l = 0 then (if nodeB n u = true ∧ nodeB n v = true then (if D u.toNat = none then 15 else 0) else 7) else ck n l
def wyA (n : Int) (l : List Ed) (u v : Int) (D : Nat → Option Nat) : List Int :=
  if wyE n l u v D = 0 then pth D l ((D u.toNat).getD 0 % 1048576) u.toNat else []

set_option maxRecDepth 100000 in
set_option maxHeartbeats 2000000 in
theorem way_any (n u v : Int) (A : Option Addr) (m c : Nat) (l : List Ed) (D : Nat → Option Nat) (w : World) (hm : l.length = m) (hA : EdR w A l) (hD : Ds (rev (arcs l)) v.toNat D) :
    Calls Try.prog 19 #[.agg #[.int .i64 n, .slice A m c], .int .i64 u, .int .i64 v] w fun e w' => RetE w (wyA n l u v D) (wyE n l u v D) e w' := by
  have HM := Lib.hid hm
  have HD := Lib.hid hD
  have HA1 := Lib.hid (hA.below (below_alloc w (.cells #[.int .i64 n, .slice A m c] 24)))
  have HBX := Lib.hid (BoxR.made w n A m c 24)
  have HB1 := Lib.hid (below_alloc w (.cells #[.int .i64 n, .slice A m c] 24))
  have HCK := Lib.hid (fun W (hE : EdR W A l) => check_any n A m c l W hm hE)
  have HNU := Lib.hid (fun W => isNode_any n u A m c W)
  have HNV := Lib.hid (fun W => isNode_any n v A m c W)
  clear hm hD hA
  by_cases h0 : ck n l = 0
  · obtain ⟨N, rfl, h1, h64, hm5, hO⟩ := ck_ok h0
    have HO := Lib.hid hO
    by_cases hu : nodeB (N : Int) u = true
    · by_cases hv : nodeB (N : Int) v = true
      · obtain ⟨a0, a1⟩ := nodeB_true.1 hv
        obtain ⟨b0, b1⟩ := nodeB_true.1 hu
        obtain ⟨a, rfl⟩ : ∃ a : Nat, v = (a : Int) := ⟨v.toNat, by omega⟩
        obtain ⟨s, rfl⟩ : ∃ a : Nat, u = (a : Int) := ⟨u.toNat, by omega⟩
        have has : a < N := by omega
        have hss : s < N := by omega
        have hsz : (s : Int) < (N : Int) := by omega
        have hm6 : m ≤ 512 := by rw [← HM.out]; exact hm5
        have HEN := Lib.hid (fun W (hE : EdR W A l) => entrances_any N A m c l W h64 HM.out hm6 hE hO)
        have HEX := Lib.hid (fun W (hE : EdR W A l) => exits_any N A m c l W h64 HM.out hm6 hE hO)
        have HLE := Lib.hid (fun W g0 (hX : XsR W g0 N (fun v => exT (trnL l) (v : Int) m)) => lengths_any N g0 a m D (trnL l) W h1 h64 (by rw [trnL_length]; exact HM.out) hm6 hO.trn has (by rw [arcs_trn]; exact HD.out) hX)
        rw [h0] at HCK
        rw [hu] at HNU
        rw [hv] at HNV
        cases hq : D s with
        | none =>
          have hE : wyE (N : Int) l (s : Int) (a : Int) D = 15 := by unfold wyE; rw [if_pos h0, if_pos ⟨hu, hv⟩, Int.toNat_natCast, if_pos hq]
          have hans : wyA (N : Int) l (s : Int) (a : Int) D = [] := by unfold wyA; rw [hE]; rfl
          rw [hans, hE]
          have HQ := Lib.hid hq
          clear hans hE hu hv h0 hO HEX hq
          go_enter Try.func19, Try.ntmps19
          go_wp2_with fail
          obtain ⟨w1, hw1⟩ : ∃ x, w.alloc (.cells #[.int .i64 (N : Int), .slice A m c] 24) = x := ⟨_, rfl⟩
          rw [hw1] at HA1 HBX HB1 ⊢
          clear hw1
          refine (HCK.out _ HA1.out).mono ?_
          rintro e w2 ⟨rfl, hB2⟩
          obtain ⟨x0, x1⟩ := HBX.out.below hB2
          have HB2 := Lib.hid hB2
          go_wp2_with fail
          refine (HNU.out _).mono ?_
          rintro e w3 ⟨rfl, hB3⟩
          have HB3 := Lib.hid (Below.step HB2.out hB3)
          obtain ⟨y0, y1⟩ := HBX.out.below HB3.out
          clear hB2 hB3 x0 x1 HB2
          go_wp2_with fail
          refine (HNV.out _).mono ?_
          rintro e w4 ⟨rfl, hB4⟩
          have HB4 := Lib.hid (Below.step HB3.out hB4)
          obtain ⟨z0, z1⟩ := HBX.out.below HB4.out
          have hbs : w.heap.size < w4.heap.size := World.block_lt_of_cell? _ _ z0
          clear hB4 y0 y1
          go_wp2_with fail
          refine (HEN.out _ (HA1.out.below HB4.out)).mono ?_
          rintro e w5 ⟨g0, rfl, hX5, hB5⟩
          go_wp2_with fail
          refine (HLE.out _ _ hX5).mono ?_
          rintro e w6 ⟨gl, rfl, hL6, _, hB6⟩
          have HBB : Hid (Below w1.heap.size w1 w6) := Lib.hid (Below.step HB4.out (Below.step hB5 hB6))
          obtain ⟨l0, l1⟩ := hL6.at hss
          rw [HQ.out] at l0
          have l0' : w6.cell? ⟨gl, s * 2, none⟩ = some (.int .i64 (-1)) := l0
          clear l0 l1 hX5 hB5 hL6 hB6 z0 z1
          go_wp2_with fail
          go_ret2
          exact ⟨none, 0, 0, rfl, rfl, IntR.nil _ _, Below.step HB1.out HBB.out, fun a ha => by cases ha⟩
        | some q =>
          have hE : wyE (N : Int) l (s : Int) (a : Int) D = 0 := by unfold wyE; rw [if_pos h0, if_pos ⟨hu, hv⟩, Int.toNat_natCast, if_neg (by rw [hq]; simp)]
          have hans : wyA (N : Int) l (s : Int) (a : Int) D = pth D l (q % 1048576) s := by unfold wyA; rw [if_pos hE, Int.toNat_natCast, hq]; rfl
          rw [hans, hE]
          have HPL := Lib.hid (pth_len hO h64 has HD.out _ s q hq rfl)
          have HFO := Lib.hid (fun W g0 gr (hX : XsR W g0 N (fun v => exT l (v : Int) m)) (hL : LenR W gr N D) => follow_any N g0 gr s a q m D l W h64 HM.out hm6 hO has hss HD.out hq hX hL)
          have hne := xS_ne q
          have HQ := Lib.hid hq
          clear hans hE hu hv h0 hO hq
          go_enter Try.func19, Try.ntmps19
          go_wp2_with fail
          obtain ⟨w1, hw1⟩ : ∃ x, w.alloc (.cells #[.int .i64 (N : Int), .slice A m c] 24) = x := ⟨_, rfl⟩
          rw [hw1] at HA1 HBX HB1 ⊢
          clear hw1
          refine (HCK.out _ HA1.out).mono ?_
          rintro e w2 ⟨rfl, hB2⟩
          obtain ⟨x0, x1⟩ := HBX.out.below hB2
          have HB2 := Lib.hid hB2
          go_wp2_with fail
          refine (HNU.out _).mono ?_
          rintro e w3 ⟨rfl, hB3⟩
          have HB3 := Lib.hid (Below.step HB2.out hB3)
          obtain ⟨y0, y1⟩ := HBX.out.below HB3.out
          clear hB2 hB3 x0 x1 HB2
          go_wp2_with fail
          refine (HNV.out _).mono ?_
          rintro e w4 ⟨rfl, hB4⟩
          have HB4 := Lib.hid (Below.step HB3.out hB4)
          obtain ⟨z0, z1⟩ := HBX.out.below HB4.out
          have hbs : w.heap.size < w4.heap.size := World.block_lt_of_cell? _ _ z0
          clear hB4 y0 y1
          go_wp2_with fail
          refine (HEN.out _ (HA1.out.below HB4.out)).mono ?_
          rintro e w5 ⟨g0, rfl, hX5, hB5⟩
          go_wp2_with fail
          refine (HLE.out _ _ hX5).mono ?_
          rintro e w6 ⟨gl, rfl, hL6, _, hB6⟩
          have HB6 : Hid (Below w1.heap.size w1 w6) := Lib.hid (Below.step HB4.out (Below.step hB5 hB6))
          have HL6 := Lib.hid hL6
          obtain ⟨l0, l1⟩ := hL6.at hss
          rw [HQ.out] at l0
          have l0' : w6.cell? ⟨gl, s * 2, none⟩ = some (.int .i64 (xS q)) := l0
          obtain ⟨y0, y1⟩ := HBX.out.below HB6.out
          have hbs6 : w.heap.size < w6.heap.size := World.block_lt_of_cell? _ _ y0
          clear l0 l1 hX5 hB5 hL6 hB6 z0 z1 hbs
          go_wp2_with fail
          refine (HEX.out _ (HA1.out.below HB6.out)).mono ?_
          rintro e w7 ⟨g7, rfl, hX7, hB7⟩
          have HX7 := Lib.hid hX7
          have HB7 : Hid (Below w1.heap.size w1 w7) := Lib.hid (Below.step HB6.out hB7)
          have HL7 : Hid (LenR w7 gl N D) := Lib.hid (Blk.below HL6.out hB7)
          clear hX7 hB7 l0' y0 y1 hbs6
          go_wp2_with fail
          refine (HFO.out _ _ _ HX7.out HL7.out).mono ?_
          rintro e w8 ⟨B, d, rfl, hI8, hB8, hb8⟩
          have HI8 := Lib.hid hI8
          have HB8 : Hid (Below w.heap.size w w8) := Lib.hid (Below.step HB1.out (Below.step HB7.out hB8))
          have HW7 : Hid (w.heap.size ≤ w7.heap.size) := Lib.hid (Below.step HB1.out HB7.out).size
          have HB88 := Lib.hid hb8
          clear hI8 hB8 hb8
          go_wp2_with fail
          go_ret2
          exact ⟨B, d, _, rfl, HPL.out, HI8.out, HB8.out, fun x hx => Nat.le_trans HW7.out (HB88.out x hx)⟩
      · have hvf : nodeB (N : Int) v = false := by
          cases hh : nodeB (N : Int) v with
          | true => exact absurd hh hv
          | false => rfl
        have hE : wyE (N : Int) l u v D = 7 := by unfold wyE; rw [if_pos h0, if_neg (fun h => hv h.2)]
        have hans : wyA (N : Int) l u v D = [] := by unfold wyA; rw [hE]; rfl
        rw [hans, hE]
        rw [h0] at HCK
        rw [hu] at HNU
        rw [hvf] at HNV
        clear hans hE hu hv h0 hO hvf
        go_enter Try.func19, Try.ntmps19
        go_wp2_with fail
        obtain ⟨w1, hw1⟩ : ∃ x, w.alloc (.cells #[.int .i64 (N : Int), .slice A m c] 24) = x := ⟨_, rfl⟩
        rw [hw1] at HA1 HBX HB1 ⊢
        clear hw1
        refine (HCK.out _ HA1.out).mono ?_
        rintro e w2 ⟨rfl, hB2⟩
        obtain ⟨x0, x1⟩ := HBX.out.below hB2
        have HB2 := Lib.hid hB2
        go_wp2_with fail
        refine (HNU.out _).mono ?_
        rintro e w3 ⟨rfl, hB3⟩
        have HB3 := Lib.hid (Below.step HB2.out hB3)
        obtain ⟨y0, y1⟩ := HBX.out.below HB3.out
        clear hB2 hB3 x0 x1 HB2
        go_wp2_with fail
        refine (HNV.out _).mono ?_
        rintro e w4 ⟨rfl, hB4⟩
        have HB4 := Lib.hid (Below.step HB3.out hB4)
        obtain ⟨z0, z1⟩ := HBX.out.below HB4.out
        have hbs : w.heap.size < w4.heap.size := World.block_lt_of_cell? _ _ z0
        clear hB4 y0 y1
        have HBB := HB4
        go_wp2_with fail
        go_ret2
        exact ⟨none, 0, 0, rfl, rfl, IntR.nil _ _, Below.step HB1.out HBB.out, fun a ha => by cases ha⟩
    · have huf : nodeB (N : Int) u = false := by
        cases hh : nodeB (N : Int) u with
        | true => exact absurd hh hu
        | false => rfl
      have hE : wyE (N : Int) l u v D = 7 := by unfold wyE; rw [if_pos h0, if_neg (fun h => hu h.1)]
      have hans : wyA (N : Int) l u v D = [] := by unfold wyA; rw [hE]; rfl
      rw [hans, hE]
      rw [h0] at HCK
      rw [huf] at HNU
      clear hans hE hu h0 hO huf
      go_enter Try.func19, Try.ntmps19
      go_wp2_with fail
      obtain ⟨w1, hw1⟩ : ∃ x, w.alloc (.cells #[.int .i64 (N : Int), .slice A m c] 24) = x := ⟨_, rfl⟩
      rw [hw1] at HA1 HBX HB1 ⊢
      clear hw1
      refine (HCK.out _ HA1.out).mono ?_
      rintro e w2 ⟨rfl, hB2⟩
      obtain ⟨x0, x1⟩ := HBX.out.below hB2
      have HB2 := Lib.hid hB2
      go_wp2_with fail
      refine (HNU.out _).mono ?_
      rintro e w3 ⟨rfl, hB3⟩
      have HB3 := Lib.hid (Below.step HB2.out hB3)
      obtain ⟨y0, y1⟩ := HBX.out.below HB3.out
      have HBB := HB3
      clear hB2 hB3 x0 x1 HB2
      go_wp2_with fail
      go_ret2
      exact ⟨none, 0, 0, rfl, rfl, IntR.nil _ _, Below.step HB1.out HBB.out, fun a ha => by cases ha⟩
  · obtain ⟨X, hX⟩ : ∃ X, ck n l = X := ⟨_, rfl⟩
    have hE : wyE n l u v D = X := by unfold wyE; rw [if_neg h0]; exact hX
    have hX0 : ¬ X = 0 := fun e => h0 (hX.trans e)
    have hans : wyA n l u v D = [] := by unfold wyA; rw [hE, if_neg hX0]
    rw [hans, hE]
    rw [hX] at HCK
    clear hans hE h0 hX
    go_enter Try.func19, Try.ntmps19
    go_wp2_with fail
    obtain ⟨w1, hw1⟩ : ∃ x, w.alloc (.cells #[.int .i64 n, .slice A m c] 24) = x := ⟨_, rfl⟩
    rw [hw1] at HA1 HBX HB1 ⊢
    clear hw1
    refine (HCK.out _ HA1.out).mono ?_
    rintro e w2 ⟨rfl, hB2⟩
    have HBB := Lib.hid hB2
    clear hB2
    go_wp2_with fail
    go_ret2
    exact ⟨none, 0, 0, rfl, rfl, IntR.nil _ _, Below.step HB1.out HBB.out, fun a ha => by cases ha⟩
end Go.Proofs.Ythomklpaafnjhaa
