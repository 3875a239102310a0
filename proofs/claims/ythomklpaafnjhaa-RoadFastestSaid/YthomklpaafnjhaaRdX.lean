/-
  The contract of the specification's Walk. Condition: a network that Check passes, and a way of at most 1000 edges.
-/
import Derived.Test.YthomklpaafnjhaaRdW
import Derived.Lib.QuietBelow
namespace Go.Proofs.Ythomklpaafnjhaa
open Go.RowKit
set_option linter.unusedVariables false

/-- One edge further: the time so far and where it ends. -/
def wk1 (l : List Ed) (st : Int × Int) (i : Int) : Option (Int × Int) := if 0 ≤ i ∧ i < (l.length : Int) ∧ (l.getD i.toNat ed0).f = st.2 then some (st.1 + (l.getD i.toNat ed0).s, (l.getD i.toNat ed0).t) else none
/-- A way, edge by edge. -/
def wlk (l : List Ed) : Int × Int → List Int → Option (Int × Int)
  | st, [] => some st
  | st, i :: w => match wk1 l st i with
    | none => none
    | some st' => wlk l st' w
/-- What Walk answers. -/
def wkR (l : List Ed) (v : Int) (way : List Int) : Int × Int × Bool := match wlk l (0, v) way with
  | none => (0, 0, false)
  | some st => (st.1, st.2, true)
theorem wlk_drop {l : List Ed} {way : List Int} {st : Int × Int} {i : Nat} (h : i < way.length) : wlk l st (way.drop i) = match wk1 l st (way.getD i 0) with
    | none => none
    | some st' => wlk l st' (way.drop (i + 1)) := by
  have e : way.drop i = way.getD i 0 :: way.drop (i + 1) := by rw [List.drop_eq_getElem_cons h]; simp [h]
  rw [e]
  rfl
theorem wlk_bd {N : Nat} {l : List Ed} (hO : OkL N l) : ∀ (way : List Int) (st : Int × Int), ∀ i st', wk1 l st i = some st' → st'.1 ≤ st.1 + 1000 ∧ st.1 ≤ st'.1 := fun _ st i st' h => by
  unfold wk1 at h
  split at h
  · rename_i hc
    have := hO i.toNat (by omega)
    cases h
    simp only
    omega
  · cases h
attribute [local irreducible] wpQuiet
set_option maxRecDepth 100000 in
set_option maxHeartbeats 4000000 in
theorem refWalk_any (N : Nat) (v : Int) (A B : Option Addr) (m c k d : Nat) (l : List Ed) (way : List Int) (w : World) (hm : l.length = m) (hm5 : m ≤ 512) (hO : OkL N l) (hA : EdR w A l) (hk : way.length = k) (hk2 : k ≤ 1000) (hB : IntR w B way) :
    Calls Try.prog 22 #[.agg #[.int .i64 (N : Int), .slice A m c], .int .i64 v, .slice B k d] w fun e w' => e = .returned (.tuple #[.int .i64 (wkR l v way).1, .int .i64 (wkR l v way).2.1, .bool (wkR l v way).2.2]) ∧ Below w.heap.size w w' := by
  have HM := Lib.hid hm
  have HO := Lib.hid hO
  have HK := Lib.hid hk
  have HBX := Lib.hid (BoxR.made w (N : Int) A m c 24)
  have HB1 := Lib.hid (below_alloc w (.cells #[.int .i64 (N : Int), .slice A m c] 24))
  have HA1 := Lib.hid (hA.below HB1.out)
  have HI1 := Lib.hid (hB.below HB1.out)
  clear hm hO hk hA hB
  go_enter Try.func22, Try.ntmps22
  go_wp2_with fail
  obtain ⟨w1, hw1⟩ : ∃ x, w.alloc (.cells #[.int .i64 (N : Int), .slice A m c] 24) = x := ⟨_, rfl⟩
  obtain ⟨bx, hbx⟩ : ∃ x, w.heap.size = x := ⟨_, rfl⟩
  rw [hw1] at HBX HB1 HA1 HI1 ⊢
  rw [hbx] at HBX HB1 ⊢
  have HWB := Lib.hid hbx
  clear hw1 hbx
  go_loopw [9, 10, 11] (fun v9 v10 v11 wr => ∃ (i : Nat) (n t : Int), i ≤ k ∧ v11 = .int .i64 (i : Int) ∧ v9 = .int .i64 n ∧ v10 = .int .i64 t ∧ 0 ≤ n ∧ n ≤ 1000 * (i : Int) ∧ Hid (wlk l (n, t) (way.drop i) = wlk l (0, v) way) ∧ Hid (Below w1.heap.size w1 wr)) (fun _ _ v11 _ => k - (intOf v11).toNat)
  case atStart => exact ⟨0, 0, v, by omega, rfl, rfl, rfl, by omega, by omega, Lib.hid rfl, Lib.hid (Below.refl _ _)⟩
  case round =>
    obtain ⟨i, n, t, hi, rfl, rfl, rfl, hn0, hn1, HWK, HBW⟩ := hrel
    obtain ⟨x0, x1⟩ := HBX.out.below HBW.out
    have HBO : Hid (Below w.heap.size w wr) := Lib.hid (by
      have h1 : Below w.heap.size w w1 := by rw [HWB.out]; exact HB1.out
      exact Below.step h1 HBW.out)
    by_cases hlt : i < k
    · have hiz : (i : Int) < (k : Int) := by omega
      have hil : i < way.length := by rw [HK.out]; exact hlt
      obtain ⟨b, o, rfl, hbl, c0⟩ := (HI1.out.below HBW.out).at hil
      have HDR := Lib.hid (wlk_drop (l := l) (st := (n, t)) hil)
      obtain ⟨x, hx⟩ : ∃ x, way.getD i 0 = x := ⟨_, rfl⟩
      rw [hx] at c0 HDR
      clear hx hil
      by_cases hx0 : x < 0
      · have hres : Hid (wkR l v way = (0, 0, false)) := Lib.hid (by
          unfold wkR
          rw [← HWK.out, HDR.out]
          unfold wk1
          rw [if_neg (by omega)])
        have hd0 : decide (x < 0) = true := by simp [hx0]
        go_wp2_with fail
        go_quiet (fail)
        go_wp2_with fail
        go_ret3
        exact ⟨by rw [hres.out]; rfl, Below.drewN HBO.out _⟩
      · have hd0 : decide (x < 0) = false := by simp [hx0]
        obtain ⟨q, rfl⟩ : ∃ q : Nat, x = (q : Int) := ⟨x.toNat, by omega⟩
        by_cases hxm : m ≤ q
        · have hxz : (m : Int) ≤ (q : Int) := by omega
          have hd1 : decide ((m : Int) ≤ (q : Int)) = true := by simp [hxm]
          have hd2 : decide (m ≤ q) = true := by simp [hxm]
          have hres : Hid (wkR l v way = (0, 0, false)) := Lib.hid (by
            unfold wkR
            rw [← HWK.out, HDR.out]
            unfold wk1
            rw [if_neg (by have := HM.out; omega)])
          go_wp2_with fail
          go_quiet (fail)
          go_wp2_with fail
          go_ret3
          exact ⟨by rw [hres.out]; rfl, Below.drewN HBO.out _⟩
        · have hxz : ¬ (m : Int) ≤ (q : Int) := by omega
          have hd1 : decide ((m : Int) ≤ (q : Int)) = false := by simp [hxm]
          have hd2 : decide (m ≤ q) = false := by simp [hxm]
          have hqz : (q : Int) < (m : Int) := by omega
          have hql : q < l.length := by have := HM.out; omega
          obtain ⟨b2, o2, rfl, hbl2, e0, e1, e2⟩ := (HA1.out.below HBW.out).at hql
          obtain ⟨s0, s1⟩ := (HO.out q hql).2.2.2.2
          have HW1 : Hid (wk1 l (n, t) (q : Int) = if (l.getD q ed0).f = t then some (n + (l.getD q ed0).s, (l.getD q ed0).t) else none) := Lib.hid (by
            unfold wk1
            rw [Int.toNat_natCast]
            by_cases e : (l.getD q ed0).f = t
            · rw [if_pos ⟨by omega, by omega, e⟩, if_pos e]
            · rw [if_neg (fun h => e h.2.2), if_neg e])
          obtain ⟨⟨f, t2, s⟩, hy⟩ : ∃ y, l.getD q ed0 = y := ⟨_, rfl⟩
          rw [hy] at e0 e1 e2 s0 s1 HW1
          simp only at e0 e1 e2 s0 s1 HW1
          clear hy hql
          by_cases hft : f = t
          · subst hft
            have hg : (f != f) = false := by simp
            have HW2 : Hid (wlk l (n + s, t2) (way.drop (i + 1)) = wlk l (0, v) way) := Lib.hid (by
              rw [← HWK.out, HDR.out, HW1.out, if_pos rfl])
            go_wp2_with fail
            go_quiet (fail)
            go_wp2_with fail
            obtain ⟨wq, hwq⟩ : ∃ y, wr.drewN nq = y := ⟨_, rfl⟩
            have HBQ : Hid (Below w1.heap.size w1 wq) := Lib.hid (hwq ▸ Below.drewN HBW.out _)
            have c0' : wq.cell? ⟨b, o + i, none⟩ = some (.int .i64 (q : Int)) := by rw [← hwq]; exact c0
            have x1' : wq.cell? ⟨bx, 1, none⟩ = some (.slice (some ⟨b2, o2, none⟩) m c) := by rw [← hwq]; exact x1
            have e1' : wq.cell? ⟨b2, o2 + q * 3 + 1, none⟩ = some (.int .i64 t2) := by rw [← hwq]; exact e1
            have e2' : wq.cell? ⟨b2, o2 + q * 3 + 2, none⟩ = some (.int .i64 s) := by rw [← hwq]; exact e2
            rw [hwq]
            clear hwq c0 x0 x1 e0 e1 e2 hd0 hd1 hd2 hg
            go_quiet (fail)
            go_wp2_with fail
            go_roundw
            case rel => exact ⟨i + 1, n + s, t2, by omega, by go_num, rfl, rfl, by omega, by omega, HW2, Lib.hid (Below.drewN HBQ.out _)⟩
            case measure => simp only [intOf]; omega
          · have hg : (f != t) = true := by simp [hft]
            have hres : Hid (wkR l v way = (0, 0, false)) := Lib.hid (by
              unfold wkR
              rw [← HWK.out, HDR.out, HW1.out, if_neg hft])
            go_wp2_with fail
            go_quiet (fail)
            go_wp2_with fail
            go_ret3
            exact ⟨by rw [hres.out]; rfl, Below.drewN HBO.out _⟩
    · obtain rfl : i = k := by omega
      have hnlt : ¬ (i : Int) < (i : Int) := by omega
      have hres : Hid (wkR l v way = (n, t, true)) := Lib.hid (by
        have := HWK.out
        rw [List.drop_of_length_le (by rw [HK.out]; exact Nat.le_refl _)] at this
        unfold wkR
        rw [← this]
        rfl)
      go_wp2_with fail
      go_ret3
      exact ⟨by rw [hres.out]; rfl, HBO.out⟩
end Go.Proofs.Ythomklpaafnjhaa
