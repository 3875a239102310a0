/-
  Plain facts of travel times: both directions agree, the triangle inequality, a step, and the way by first good exits attains its time. No condition.
-/
import Derived.Test.YthomklpaafnjhaaRdX
namespace Go.Proofs.Ythomklpaafnjhaa
open Go.RowKit
set_option linter.unusedVariables false

theorem IsD.rev {G : List Arc} {a c : Nat} {o : Option Nat} (h : IsD G a c o) : IsD (Go.Proofs.Ythomklpaafnjhaa.rev G) c a o := by
  cases o with
  | none => exact fun s k hw => h s k hw.unrev
  | some n =>
    obtain ⟨⟨s, k, hw, e⟩, h2⟩ := h
    exact ⟨⟨s, k, hw.rev, e⟩, fun s k hw => h2 s k hw.unrev⟩
theorem ds_both {G : List Arc} {a c : Nat} {D D' : Nat → Option Nat} (h : Ds G a D) (h' : Ds (rev G) c D') : D' a = D c := IsD.unique (h' a) (h c).rev
theorem xS_le {r s k : Nat} (h : r ≤ ln s k) (hk : k < 1048576) : xS r ≤ (s : Int) := by
  rw [← ln_S hk]
  unfold xS
  have := Nat.div_le_div_right (c := 1048576) h
  omega
theorem ds_tri {N : Nat} {l : List Ed} (hN : OkL N l) (h64 : N ≤ 64) {a b c p q : Nat} {D E : Nat → Option Nat} (ha : a < N) (hb : b < N) (hD : Ds (arcs l) a D) (hE : Ds (arcs l) b E) (hp : D b = some p) (hq : E c = some q) :
    ∃ r, D c = some r ∧ xS r ≤ xS p + xS q := by
  have h1 := hD b
  rw [hp] at h1
  have h2 := hE c
  rw [hq] at h2
  obtain ⟨s1, k1, w1, e1, b1, _⟩ := h1.form hN.net ha
  obtain ⟨s2, k2, w2, e2, b2, _⟩ := h2.form hN.net hb
  have hw := w1.app w2
  have h3 := hD c
  cases hr : D c with
  | none => rw [hr] at h3; exact absurd hw (h3 _ _)
  | some r =>
    rw [hr] at h3
    refine ⟨r, rfl, ?_⟩
    have := xS_le (h3.2 _ _ hw) (by omega)
    rw [e1, e2, ln_S (by omega), ln_S (by omega)]
    omega
theorem ds_step {N : Nat} {l : List Ed} (hN : OkL N l) (h64 : N ≤ 64) {a i p : Nat} {D : Nat → Option Nat} (ha : a < N) (hD : Ds (arcs l) a D) (hi : i < l.length) (hp : D (l.getD i ed0).f.toNat = some p) :
    ∃ r, D (l.getD i ed0).t.toNat = some r ∧ xS r ≤ xS p + (l.getD i ed0).s := by
  obtain ⟨r, h1, h2⟩ := hD.step hp (arc_at hi)
  refine ⟨r, h1, ?_⟩
  have h3 := hD (l.getD i ed0).f.toNat
  rw [hp] at h3
  obtain ⟨s1, k1, w1, e1, b1, _⟩ := h3.form hN.net ha
  have b := hN i hi
  rw [e1] at h2 ⊢
  rw [up1_ln] at h2
  have := xS_le h2 (by omega)
  rw [ln_S (by omega)]
  omega
theorem ds_self {G : List Arc} {a : Nat} {D : Nat → Option Nat} (hD : Ds G a D) : D a = some 0 := (hD a).unique (IsD.self G a)
/-- The way by first good exits: it is a way, it ends where it should, and takes the least time. -/
theorem pth_walk {N c : Nat} {l : List Ed} {D : Nat → Option Nat} (hN : OkL N l) (h64 : N ≤ 64) (hc : c < N) (hD : Ds (rev (arcs l)) c D) : ∀ k v p n, D v = some p → p % 1048576 = k → wlk l (n, (v : Int)) (pth D l k v) = some (n + xS p, (c : Int)) := by
  intro k
  induction k with
  | zero =>
    intro v p n hv hk
    obtain rfl := (goal_iff hN h64 hc hD hv).2 hk
    have h0 := ds_self hD
    rw [hv] at h0
    cases h0
    show some (n, (v : Int)) = _
    rw [x_zero.1]
    simp
  | succ k ih =>
    intro v p n hv hk
    have hne : v ≠ c := fun e => by
      have := (goal_iff hN h64 hc hD hv).1 e
      omega
    obtain ⟨x, m, hx, hmem, hm, hup, hmod⟩ := nxt_some hN h64 hc hD hv hne
    rw [pth_some hx]
    obtain ⟨i, hi, hf, rfl⟩ := exT_mem.1 hmem
    obtain ⟨_, _, b2, b3, b4, b5⟩ := hN i hi
    simp only at hm hup hmod ⊢
    have hw : wk1 l (n, (v : Int)) (i : Int) = some (n + (l.getD i ed0).s, (l.getD i ed0).t) := by
      unfold wk1
      rw [Int.toNat_natCast, if_pos ⟨by omega, by omega, hf⟩]
    have ht : (((l.getD i ed0).t.toNat : Nat) : Int) = (l.getD i ed0).t := by omega
    have h2 := ih (l.getD i ed0).t.toNat m (n + (l.getD i ed0).s) hm (by omega)
    rw [ht] at h2
    unfold wlk
    rw [hw]
    simp only
    rw [h2]
    have h3 := hD (l.getD i ed0).t.toNat
    rw [hm] at h3
    obtain ⟨s, k', _, e, b6, _⟩ := h3.form hN.net.rev hc
    have e2 : xS p = xS m + (l.getD i ed0).s := by
      rw [← hup, e, up1_ln, ln_S (by omega), ln_S (by omega)]
      omega
    rw [e2]
    congr 2
    omega
end Go.Proofs.Ythomklpaafnjhaa
