/-
  The contracts of swapRangeCmpFunc and rotateCmpFunc, of the library's stable sort, over a row of indices.
-/
import Derived.Test.YtjgajcabecklcaaDoorNumQ
import Derived.Shelf.SlSortCmp.Kit1
import Derived.Shelf.SlSortCmp.Insertion1
namespace Go.Proofs.YtjgajcabecklcaaDoor
open Go.RowKit
set_option linter.unusedVariables false

abbrev St (n : Nat) (w0 : World) (blk : Nat) (f : Nat → Nat) (w : World) : Prop := SW (encN n) w0 blk 0 (Arr n f) w
abbrev RowN (n : Nat) (w0 : World) (blk : Nat) : Prop := Row1 (encN n) w0 blk 0 (Arr n fun x => x)
def In (n : Nat) (f : Nat → Nat) : Prop := ∀ x, x < n → f x < n
theorem encN_lt {n x : Nat} (h : x < n) : encN n x = .int .i64 (x : Int) := by
  unfold encN
  rw [Nat.mod_eq_of_lt h]
section
variable {n : Nat} {w0 : World} {blk : Nat} {f : Nat → Nat} {w : World}
theorem St.cell (S : St n w0 blk f w) (R : RowN n w0 blk) (hv : In n f) (i : Nat) (hi : i < n) : w.cell? ⟨blk, i, none⟩ = some (.int .i64 (f i : Int)) := by
  have h := SW.c1 S R (by rw [Arr_size, Arr_size]) i (by rw [Arr_size]; exact hi)
  rw [Nat.zero_add, Arr_get n f i hi, encN_lt (hv i hi)] at h
  exact h
theorem St.froz (S : St n w0 blk f w) (R : RowN n w0 blk) (i : Nat) (hi : i < n) : w.frozen? ⟨blk, i, none⟩ = false := by
  have h := SW.f1 S R (by rw [Arr_size, Arr_size]) i (by rw [Arr_size]; exact hi)
  rw [Nat.zero_add] at h
  exact h
theorem St.swap (S : St n w0 blk f w) (R : RowN n w0 blk) (hv : In n f) (i j : Nat) (hi : i < n) (hj : j < n) :
    St n w0 blk (swf f i j) ((w.setCell ⟨blk, i, none⟩ (.int .i64 (f j : Int))).setCell ⟨blk, j, none⟩ (.int .i64 (f i : Int))) := by
  have h := SW.swap S R.hblk i j (by rw [Arr_size]; exact hi) (by rw [Arr_size]; exact hj)
  rw [Nat.zero_add, Nat.zero_add, Arr_get n f i hi, Arr_get n f j hj, encN_lt (hv i hi), encN_lt (hv j hj), swp_arr n f i j hi hj] at h
  exact h
theorem St.second (S : St n w0 blk f w) (R : RowN n w0 blk) (hv : In n f) (i j : Nat) (hj : j < n) (v : Value) :
    ∃ u, (w.setCell ⟨blk, i, none⟩ v).cell? ⟨blk, j, none⟩ = some u := by
  by_cases e : i = j
  · subst e
    exact ⟨v, World.cell?_setCell_same _ _ _ (S.cell R hv i hj)⟩
  · exact ⟨_, (World.cell?_setCell_other _ _ _ _ (by intro e'; simp only [Addr.mk.injEq] at e'; omega)).trans (S.cell R hv j hj)⟩
end
theorem In.same {n : Nat} {f g : Nat → Nat} {a b : Nat} (hv : In n f) (h : Same f g a b) (hb : b ≤ n) : In n g := fun x hx => by
  by_cases c : a ≤ x ∧ x < b
  · obtain ⟨y, d1, d2, e⟩ := h.of x c.1 c.2
    rw [e]
    exact hv y (by omega)
  · rw [h.out x (by omega)]
    exact hv x hx
theorem In_swR {n : Nat} {f : Nat → Nat} (hv : In n f) (a b k : Nat) (h1 : a + k ≤ b) (h2 : b + k ≤ n) : In n (swR f a b k) := fun x hx => by
  unfold swR
  split
  · exact hv _ (by omega)
  · split
    · exact hv _ (by omega)
    · exact hv _ hx

theorem mixed_prog : Tryd.prog.follows Departure.mixedOrders = true := by kernel_rfl

set_option maxHeartbeats 1000000 in
theorem swapRange_any (n : Nat) (w0 : World) (blk cap : Nat) (f : Nat → Nat) (w : World) (a b k : Nat) (cv : Value) (R : RowN n w0 blk) (S : St n w0 blk f w) (hv : In n f) (hn : n ≤ 4096) (h1 : a + k ≤ b) (h2 : b + k ≤ n) :
    Calls Tryd.prog 105 #[.slice (some ⟨blk, 0, none⟩) n cap, .int .i64 a, .int .i64 b, .int .i64 k, cv] w fun e w' => e = .returned (.tuple #[]) ∧ St n w0 blk (swR f a b k) w' := by
  have mixed := mixed_prog
  have HR := Lib.hid R
  have HV := Lib.hid hv
  have HS := Lib.hid S
  clear R S hv
  go_enter Tryd.func105, Tryd.ntmps105
  go_wp2
  go_loopw [10] (fun i wr => ∃ t : Nat, t ≤ k ∧ i = .int .i64 (t : Int) ∧ Hid (St n w0 blk (swR f a b t) wr)) (fun i _ => ((k : Int) - intOf i).toNat)
  case atStart => exact ⟨0, Nat.zero_le _, rfl, Lib.hid (by rw [swR_zero]; exact HS.out)⟩
  case round =>
    obtain ⟨t, ht, rfl, hS⟩ := hrel
    by_cases htk : t < k
    · have htz : (t : Int) < (k : Int) := by omega
      obtain ⟨i, hi⟩ : ∃ i, a + t = i := ⟨_, rfl⟩
      obtain ⟨j, hj⟩ : ∃ j, b + t = j := ⟨_, rfl⟩
      have zi : (a : Int) + (t : Int) = (i : Int) := by omega
      have zj : (b : Int) + (t : Int) = (j : Int) := by omega
      have hvt : In n (swR f a b t) := In_swR HV.out a b t (by omega) (by omega)
      have hnext := swR_next f a b t (by omega)
      rw [hi, hj] at hnext
      have ci := hS.out.cell HR.out hvt i (by omega)
      have cj := hS.out.cell HR.out hvt j (by omega)
      have fi := hS.out.froz HR.out i (by omega)
      have fj := hS.out.froz HR.out j (by omega)
      have S2 := hS.out.swap HR.out hvt i j (by omega) (by omega)
      rw [hnext] at S2
      obtain ⟨x, hx⟩ : ∃ x, swR f a b t i = x := ⟨_, rfl⟩
      obtain ⟨y, hy⟩ : ∃ x, swR f a b t j = x := ⟨_, rfl⟩
      rw [hx] at ci S2
      rw [hy] at cj S2
      obtain ⟨u, cu⟩ := hS.out.second HR.out hvt i j (by omega) (.int .i64 (y : Int))
      have hin : (i : Int) < (n : Int) := by omega
      have hjn : (j : Int) < (n : Int) := by omega
      have HS2 := Lib.hid S2
      clear hnext hx hy hvt S2 hi hj hS
      go_wp2_with fail
      go_big_region_o
      have HS3 := Lib.hid (SW.drew HS2.out)
      clear ci cj fi fj cu HS2
      generalize ((wr.setCell ⟨blk, i, none⟩ (.int .i64 (y : Int))).setCell ⟨blk, j, none⟩ (.int .i64 (x : Int))).drew = w3 at HS3 ⊢
      go_wp2
      go_roundw
      case rel => exact ⟨t + 1, by omega, val_int' (by omega), HS3⟩
      case measure => simp only [intOf]; omega
    · obtain rfl : t = k := by omega
      go_wp2
      go_end0
      exact ⟨rfl, hS.out⟩

set_option maxHeartbeats 1000000 in
theorem rotate_any (n : Nat) (w0 : World) (blk cap : Nat) (f : Nat → Nat) (w : World) (a m b : Nat) (cv : Value) (R : RowN n w0 blk) (S : St n w0 blk f w) (hv : In n f) (hn : n ≤ 4096) (h1 : a < m) (h2 : m < b) (h3 : b ≤ n) :
    Calls Tryd.prog 96 #[.slice (some ⟨blk, 0, none⟩) n cap, .int .i64 a, .int .i64 m, .int .i64 b, cv] w fun e w' => e = .returned (.tuple #[]) ∧ St n w0 blk (rotF f a m b) w' := by
  have HR := Lib.hid R
  have HS := Lib.hid S
  clear R S
  obtain ⟨i0, hi0⟩ : ∃ i, m - a = i := ⟨_, rfl⟩
  obtain ⟨j0, hj0⟩ : ∃ j, b - m = j := ⟨_, rfl⟩
  have zi0 : (m : Int) - (a : Int) = (i0 : Int) := by omega
  have zj0 : (b : Int) - (m : Int) = (j0 : Int) := by omega
  have H0 : Hid (In n f) := Lib.hid hv
  have HB : m + j0 = b := by omega
  have HA : a + i0 = m := by omega
  clear hv hi0 hj0
  go_enter Tryd.func96, Tryd.ntmps96
  go_wp2
  clear zi0 zj0
  go_loopw [10, 11] (fun vi vj wr => ∃ (i j p : Nat) (g : Nat → Nat), vi = .int .i64 i ∧ vj = .int .i64 j ∧ 1 ≤ i ∧ 1 ≤ j ∧ p + i = m ∧ m + j ≤ n ∧ Hid (In n g) ∧ Hid (St n w0 blk g wr) ∧ Hid (rotF g p m (m + j) = rotF f a m b)) (fun vi vj _ => (intOf vi + intOf vj).toNat)
  case atStart => exact ⟨i0, j0, a, f, rfl, rfl, by omega, by omega, HA, by omega, H0, HS, Lib.hid (by rw [HB])⟩
  case round =>
    obtain ⟨i, j, p, g, rfl, rfl, hi, hj, hp, hjn, HG, HSG, HE⟩ := hrel
    have zp : (m : Int) - (i : Int) = (p : Int) := by omega
    by_cases e : i = j
    · subst e
      have hc := swapRange_any n w0 blk cap g wr p m i cv HR.out HSG.out HG.out hn (by omega) (by omega)
      have HE' := HE.out
      rw [← hp, ← rot_eq, hp] at HE'
      rw [HE'] at hc
      have HC := Lib.hid hc
      clear hc HE' HE HSG HG HB HA H0 HS
      go_wp2_with fail
      refine HC.out.mono ?_
      rintro e w2 ⟨rfl, h⟩
      go_wp2
      go_end0
      exact ⟨rfl, h⟩
    · have hne : ((i : Int) == (j : Int)) = false := by
        rw [beq_eq_false_iff_ne]; omega
      have hne2 : ¬ (i : Int) = (j : Int) := by omega
      by_cases c : j < i
      · have hcz : (j : Int) < (i : Int) := by omega
        obtain ⟨i2, hi2⟩ : ∃ q, i - j = q := ⟨_, rfl⟩
        have zi2 : (i : Int) - (j : Int) = (i2 : Int) := by omega
        have hc := swapRange_any n w0 blk cap g wr p m j cv HR.out HSG.out HG.out hn (by omega) (by omega)
        have HG2 := Lib.hid (In_swR HG.out p m j (by omega) (by omega))
        have HE2 : Hid (rotF (swR g p m j) (p + j) m (m + j) = rotF f a m b) := Lib.hid (by
          rw [← HE.out, ← hp]
          exact rot_gt g p i j c)
        have HC := Lib.hid hc
        clear hc HE HSG HG HB HA H0 HS
        go_wp2_with fail
        refine HC.out.mono ?_
        rintro e w2 ⟨rfl, h⟩
        have HS2 := Lib.hid h
        clear h HC
        go_wp2
        go_roundw
        case rel => exact ⟨i2, j, p + j, _, rfl, rfl, by omega, hj, by omega, hjn, HG2, HS2, HE2⟩
        case measure => simp only [intOf]; omega
      · have hcz : ¬ (j : Int) < (i : Int) := by omega
        obtain ⟨j2, hj2⟩ : ∃ q, j - i = q := ⟨_, rfl⟩
        have zj2 : (j : Int) - (i : Int) = (j2 : Int) := by omega
        obtain ⟨q, hq⟩ : ∃ q, p + j = q := ⟨_, rfl⟩
        have zq : (m : Int) + (j : Int) - (i : Int) = (q : Int) := by omega
        have hc := swapRange_any n w0 blk cap g wr p q i cv HR.out HSG.out HG.out hn (by omega) (by omega)
        have HG2 := Lib.hid (In_swR HG.out p q i (by omega) (by omega))
        have HE2 : Hid (rotF (swR g p q i) p m (m + j2) = rotF f a m b) := Lib.hid (by
          rw [← HE.out, show m + j2 = p + j by omega, ← hp, ← hq]
          exact rot_lt g p i j (by omega))
        have HC := Lib.hid hc
        clear hc HE HSG HG HB HA H0 HS
        go_wp2_with fail
        refine HC.out.mono ?_
        rintro e w2 ⟨rfl, h⟩
        have HS2 := Lib.hid h
        clear h HC
        go_wp2
        go_roundw
        case rel => exact ⟨i, j2, p, _, rfl, rfl, hi, by omega, hp, by omega, HG2, HS2, HE2⟩
        case measure => simp only [intOf]; omega
end Go.Proofs.YtjgajcabecklcaaDoor
