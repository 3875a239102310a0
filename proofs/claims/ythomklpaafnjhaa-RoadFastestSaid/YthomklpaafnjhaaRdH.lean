/-
  The contract of the specification's to. Condition: a network that Check passes.
-/
import Derived.Test.YthomklpaafnjhaaRdF
import Derived.BigGuard
namespace Go.Proofs.Ythomklpaafnjhaa
open Go.RowKit
set_option linter.unusedVariables false

/-- The two numbers of what the specification knows of a node. -/
def fS : Option Nat → Int
  | none => 1099511627776
  | some n => xS n
def fE : Option Nat → Int
  | none => 1099511627776
  | some n => xE n
def cS (d : Nat → Option Nat) (j : Nat) : Value := .int .i64 (fS (d j))
def cE (d : Nat → Option Nat) (j : Nat) : Value := .int .i64 (fE (d j))
theorem take_rev {l : List Ed} {i : Nat} (h : i < l.length) : (rev (arcs l)).take (i + 1) = (rev (arcs l)).take i ++ [((l.getD i ed0).t.toNat, (l.getD i ed0).f.toNat, (l.getD i ed0).s.toNat)] := by
  have hl : i < (rev (arcs l)).length := by unfold rev arcs; simpa using h
  rw [List.take_succ_eq_append_getElem hl]
  congr 1
  unfold rev arcs arc
  simp [h]
theorem rev_length (l : List Ed) : (rev (arcs l)).length = l.length := by unfold rev arcs; simp
/-- What is known after r rounds and i edges. -/
def stB (l : List Ed) (a r i : Nat) : Nat → Option Nat := rnd ((rev (arcs l)).take i) (rnds (rev (arcs l)) a r)
theorem stB_zero (l : List Ed) (a r : Nat) : stB l a r 0 = rnds (rev (arcs l)) a r := rfl
theorem stB_all (l : List Ed) (a r : Nat) : stB l a r l.length = rnds (rev (arcs l)) a (r + 1) := by
  unfold stB
  rw [List.take_of_length_le (by rw [rev_length]; exact Nat.le_refl _)]
  rfl
theorem stB_succ {l : List Ed} {i : Nat} (a r : Nat) (h : i < l.length) : stB l a r (i + 1) = rlx (stB l a r i) ((l.getD i ed0).t.toNat, (l.getD i ed0).f.toNat, (l.getD i ed0).s.toNat) := by
  unfold stB
  rw [take_rev h, rnd_snoc]
theorem stB_bd {l : List Ed} {N a r i v p : Nat} (hN : OkL N l) (h64 : N ≤ 64) (hm : l.length ≤ 512) (hr : r ≤ 64) (hi : i ≤ 512) (h : stB l a r i v = some p) :
    0 ≤ xS p ∧ xS p ≤ 40000000 ∧ 0 ≤ xE p ∧ xE p ≤ 40000 ∧ ∀ w, w ≤ 1000 → xS (up1 p w) = xS p + (w : Int) ∧ xE (up1 p w) = xE p + 1 := by
  have h1 : Snd (rev (arcs l)) a (r * (rev (arcs l)).length + ((rev (arcs l)).take i).length) (stB l a r i) := rnd_snd _ (fun x hx => List.mem_of_mem_take hx) _ (rnds_snd _ a r)
  obtain ⟨s, k, hw, rfl, hk⟩ := h1 v p h
  have hk2 : k ≤ 40000 := by
    have : ((rev (arcs l)).take i).length ≤ i := by rw [List.length_take]; exact Nat.min_le_left _ _
    rw [rev_length] at hk
    have h3 : r * l.length ≤ 64 * 512 := Nat.mul_le_mul hr hm
    omega
  have hs := (hw.secs hN.net.rev).2
  rw [ln_S (by omega), ln_E (by omega)]
  refine ⟨by omega, by omega, by omega, by omega, fun w hw => ?_⟩
  rw [up1_ln, ln_S (by omega), ln_E (by omega)]
  omega
/-- One edge, by the numbers. -/
theorem relax_yes {d : Nat → Option Nat} {t f s : Nat} (hb : ∀ v p, d v = some p → 0 ≤ xS p ∧ xS p ≤ 40000000 ∧ 0 ≤ xE p ∧ xE p ≤ 40000 ∧ ∀ w, w ≤ 1000 → xS (up1 p w) = xS p + (w : Int) ∧ xE (up1 p w) = xE p + 1) (hs : s ≤ 1000)
    (h1 : fS (d t) < 1099511627776) (h2 : fS (d t) + (s : Int) < fS (d f) ∨ (fS (d t) + (s : Int) = fS (d f) ∧ fE (d t) + 1 < fE (d f))) :
    ∃ p, rlx d (t, f, s) = upd d f (some p) ∧ xS p = fS (d t) + (s : Int) ∧ xE p = fE (d t) + 1 := by
  cases ht : d t with
  | none => rw [ht] at h1; exact absurd h1 (by decide)
  | some p =>
    rw [ht] at h1 h2
    obtain ⟨_, _, _, _, e⟩ := hb t p ht
    obtain ⟨e1, e2⟩ := e s hs
    refine ⟨up1 p s, ?_, e1, e2⟩
    unfold rlx cand
    cases hf : d f with
    | none => simp only [ht]
    | some m =>
      rw [hf] at h2
      have hlt : up1 p s < m := (x_lt _ _).1 (by rw [e1, e2]; exact h2)
      simp only [ht, hlt, if_true]
theorem relax_no {d : Nat → Option Nat} {t f s : Nat} (hb : ∀ v p, d v = some p → 0 ≤ xS p ∧ xS p ≤ 40000000 ∧ 0 ≤ xE p ∧ xE p ≤ 40000 ∧ ∀ w, w ≤ 1000 → xS (up1 p w) = xS p + (w : Int) ∧ xE (up1 p w) = xE p + 1) (hs : s ≤ 1000)
    (h : ¬ (fS (d t) < 1099511627776 ∧ (fS (d t) + (s : Int) < fS (d f) ∨ (fS (d t) + (s : Int) = fS (d f) ∧ fE (d t) + 1 < fE (d f))))) : rlx d (t, f, s) = d := by
  unfold rlx cand
  cases ht : d t with
  | none => rfl
  | some p =>
    rw [ht] at h
    obtain ⟨b1, b2, _, _, e⟩ := hb t p ht
    obtain ⟨e1, e2⟩ := e s hs
    have h1 : fS (some p) < 1099511627776 := by show xS p < _; omega
    have h1S : fS (some p) = xS p := rfl
    have h1E : fE (some p) = xE p := rfl
    cases hf : d f with
    | none =>
      rw [hf] at h
      exact absurd ⟨h1, Or.inl (by show xS p + (s : Int) < 1099511627776; omega)⟩ h
    | some m =>
      rw [hf] at h
      have hlt : ¬ up1 p s < m := fun hlt => by
        have := (x_lt _ _).2 hlt
        rw [e1, e2] at this
        exact h ⟨h1, this⟩
      simp only [hlt, if_false]
theorem cS_upd (d : Nat → Option Nat) (f p : Nat) (j : Nat) : cS (upd d f (some p)) j = if j = f then .int .i64 (xS p) else cS d j := by
  unfold cS upd; split <;> rfl
theorem cE_upd (d : Nat → Option Nat) (f p : Nat) (j : Nat) : cE (upd d f (some p)) j = if j = f then .int .i64 (xE p) else cE d j := by
  unfold cE upd; split <;> rfl
/-- The first k numbers are far. -/
def farV (k j : Nat) : Value := if j < k then .int .i64 1099511627776 else .int .i64 0

/-- Two blocks made in either order: one frame for both. -/
def CutP (A : Nat → Nat → Act) (J : Nat → Nat → World → Prop) : Exit → Act → World → Prop
  | .normal, a, w => ∃ x y, a = A x y ∧ J x y w
  | _, _, _ => False
theorem wp_cutP {P : Program} {c : Code} {Q : Exit → Act → World → Prop} {a : Act} {w : World} (A : Nat → Nat → Act) (J : Nat → Nat → World → Prop) (h1 : c.wp P (CutP A J) a w) (h2 : ∀ x y w', J x y w' → Q .normal (A x y) w') : c.wp P Q a w :=
  Code.wp_mono (fun e a' w' h => by
    cases e with
    | normal =>
      obtain ⟨x, y, ha, hj⟩ := h
      rw [ha]
      exact h2 x y w' hj
    | _ => exact h.elim) h1
theorem cS_start (G : List Arc) (a k j : Nat) (hj : j < k) : cS (rnds G a 0) j = if j = a then .int .i64 0 else farV k j := by
  unfold cS rnds upd farV
  by_cases e : j = a
  · rw [if_pos e, if_pos e]; show Value.int .i64 (xS 0) = _; rw [x_zero.1]
  · rw [if_neg e, if_neg e, if_pos hj]; rfl
theorem cE_start (G : List Arc) (a k j : Nat) (hj : j < k) : cE (rnds G a 0) j = if j = a then .int .i64 0 else farV k j := by
  unfold cE rnds upd farV
  by_cases e : j = a
  · rw [if_pos e, if_pos e]; show Value.int .i64 (xE 0) = _; rw [x_zero.2]
  · rw [if_neg e, if_neg e, if_pos hj]; rfl
theorem fS_bd {o : Option Nat} (h : ∀ p, o = some p → 0 ≤ xS p ∧ xS p ≤ 40000000 ∧ 0 ≤ xE p ∧ xE p ≤ 40000) : fS o ≤ 1099511627776 ∧ 0 ≤ fS o ∧ 0 ≤ fE o ∧ fE o ≤ 1099511627776 := by
  cases o with
  | none => exact ⟨by decide, by decide, by decide, by decide⟩
  | some p => have := h p rfl; unfold fS fE; simp only; omega
attribute [local irreducible] stB rnds rnd rlx upd up1 fS fE xS xE
set_option linter.unusedSimpArgs false in
set_option maxRecDepth 100000 in
set_option maxHeartbeats 8000000 in
theorem refTo_any (N a m c : Nat) (A : Option Addr) (l : List Ed) (w : World) (h1 : 1 ≤ N) (hN : N ≤ 64) (hm : l.length = m) (hm5 : m ≤ 512) (hA : EdR w A l) (hO : OkL N l) (ha : a < N) :
    Calls Try.prog 27 #[.agg #[.int .i64 (N : Int), .slice A m c], .int .i64 (a : Int)] w fun e w' => ∃ g h, e = .returned (.tuple #[.slice (some ⟨g, 0, none⟩) N N, .slice (some ⟨h, 0, none⟩) N N]) ∧
      Blk w' g 3 N (cS (rnds (rev (arcs l)) a N)) ∧ Blk w' h 3 N (cE (rnds (rev (arcs l)) a N)) ∧ w.heap.size ≤ g ∧ w.heap.size ≤ h ∧ g ≠ h ∧ Below w.heap.size w w' := by
  have HM := Lib.hid hm
  have HO := Lib.hid hO
  have HA := Lib.hid (hA.below (below_alloc w (.cells #[.int .i64 (N : Int), .slice A m c] 24)))
  have HBX := Lib.hid (BoxR.made w (N : Int) A m c 24)
  have HBS := Lib.hid (fun r i (hr : r ≤ 64) (hi : i ≤ 512) v p h => stB_bd (a := a) (r := r) (i := i) (v := v) (p := p) hO hN (hm ▸ hm5) hr hi h)
  have hmk := make_ints N (by omega)
  have haz : (a : Int) < (N : Int) := by omega
  have ha0 : (0 : Int) ≤ (a : Int) := by omega
  clear hm hA hO
  go_enter Try.func27, Try.ntmps27
  go_wp2_with fail
  obtain ⟨w1, hw1⟩ : ∃ x, w.alloc (.cells #[.int .i64 (N : Int), .slice A m c] 24) = x := ⟨_, rfl⟩
  have hs1 : w1.heap.size = w.heap.size + 1 := by rw [← hw1]; simp
  have HB1 : Hid (Below w.heap.size w w1) := Lib.hid (hw1 ▸ below_alloc _ _)
  have HK1 : Hid (Blk ((w1.alloc (.cells (madeCells #[.int .i64 0] N) 3)).alloc (.cells (madeCells #[.int .i64 0] N) 3)).drew w1.heap.size 3 N (farV 0)) := Lib.hid ((Blk.made w1 N 3 (.int .i64 0) (farV 0) (fun j => if_neg (Nat.not_lt_zero j))).below (below_alloc _ (.cells (madeCells #[.int .i64 0] N) 3)).drew)
  have HK2 : Hid (Blk ((w1.alloc (.cells (madeCells #[.int .i64 0] N) 3)).alloc (.cells (madeCells #[.int .i64 0] N) 3)).drew (w1.heap.size + 1) 3 N (farV 0)) := Lib.hid (by
    have h := Blk.made (w1.alloc (.cells (madeCells #[.int .i64 0] N) 3)) N 3 (.int .i64 0) (farV 0) (fun j => if_neg (Nat.not_lt_zero j))
    rw [show (w1.alloc (.cells (madeCells #[.int .i64 0] N) 3)).heap.size = w1.heap.size + 1 by simp] at h
    exact h)
  have HBW0 : Hid (Below w1.heap.size w1 ((w1.alloc (.cells (madeCells #[.int .i64 0] N) 3)).alloc (.cells (madeCells #[.int .i64 0] N) 3)).drew) := Lib.hid (((Below.refl _ _).alloc (Nat.le_refl _) _).alloc (by simp) _).drew
  rw [hw1] at HA HBX ⊢
  obtain ⟨x0, x1⟩ := HBX.out
  clear hw1
  apply wp_cutP (J := fun gA gB W => Hid (Blk W gA 3 N (farV 0)) ∧ Hid (Blk W gB 3 N (farV 0)) ∧ Hid (gA ≠ gB ∧ w.heap.size + 1 ≤ gA ∧ w.heap.size + 1 ≤ gB) ∧ Hid (Below (w.heap.size + 1) w1 W))
  case h1 =>
    rw [hs1] at HBW0
    go_region
    all_goals
      obtain ⟨p1, hp1⟩ : ∃ x, w.heap.size + 1 = x := ⟨_, rfl⟩
      obtain ⟨p2, hp2⟩ : ∃ x, p1 + 1 = x := ⟨_, rfl⟩
      have hP : p1 ≠ p2 ∧ p2 ≠ p1 ∧ p1 ≤ p1 ∧ p1 ≤ p2 := by omega
      rw [hs1] at HK1 HK2
      rw [hp1] at HK1 HK2 HBW0
      rw [hp2] at HK2
      simp only [hp1, hp2]
      clear hp1 hp2
      first
        | exact ⟨p1, p2, rfl, HK1, HK2, Lib.hid ⟨hP.1, hP.2.2⟩, HBW0⟩
        | exact ⟨p2, p1, rfl, HK2, HK1, Lib.hid ⟨hP.2.1, hP.2.2.2, hP.2.2.1⟩, HBW0⟩
  have hws1 : w.heap.size < w1.heap.size := by omega
  clear HK1 HK2 HBW0 hmk x0 x1
  intro gA gB W hJ
  rw [← hs1] at hJ
  obtain ⟨HKA0, HKB0, HAB, HBW0⟩ := hJ
  clear hs1
  go_wp2_with fail
  go_loopw [8] (fun v8 wr => ∃ k : Nat, k ≤ N ∧ v8 = .int .i64 (k : Int) ∧ Hid (Blk wr gA 3 N (farV k)) ∧ Hid (Blk wr gB 3 N (farV k)) ∧ Hid (Below w1.heap.size w1 wr)) (fun i _ => N - (intOf i).toNat)
  case atStart => exact ⟨0, by omega, rfl, HKA0, HKB0, HBW0⟩
  case round =>
    obtain ⟨k, hk, rfl, HKA, HKB, HBW⟩ := hrel
    clear HKA0 HKB0 HBW0
    obtain ⟨b0, b1⟩ := HBX.out.below HBW.out
    have hbs : w.heap.size < wr.heap.size := World.block_lt_of_cell? _ _ b0
    have nA : ¬ w.heap.size = gA := by have := HAB.out.2.1; omega
    have nB : ¬ w.heap.size = gB := by have := HAB.out.2.2; omega
    have nAB : ¬ gA = gB := HAB.out.1
    have nBA : ¬ gB = gA := fun e => HAB.out.1 e.symm
    by_cases hlt : k < N
    · have hkz : (k : Int) < (N : Int) := by omega
      have a0 := HKA.out.cell hlt
      have a1 := HKA.out.frozen k
      have a2 := HKB.out.cell hlt
      have a3 := HKB.out.frozen k
      have HKA5 : Hid (Blk ((wr.setCell ⟨gA, k, none⟩ (.int .i64 1099511627776)).setCell ⟨gB, k, none⟩ (.int .i64 1099511627776)) gA 3 N (farV (k + 1))) := Lib.hid ((HKA.out.set _ hlt (fun j _ => by unfold farV; by_cases e : j = k; rw [if_pos e, if_pos (by omega)]; rw [if_neg e]; by_cases e2 : j < k; rw [if_pos e2, if_pos (by omega)]; rw [if_neg e2, if_neg (by omega)])).keep (S := fun k => k = gB) ((Keep.refl _ _).set _ _ rfl) nAB)
      have HKB5 : Hid (Blk ((wr.setCell ⟨gA, k, none⟩ (.int .i64 1099511627776)).setCell ⟨gB, k, none⟩ (.int .i64 1099511627776)) gB 3 N (farV (k + 1))) := Lib.hid ((HKB.out.keep (S := fun k => k = gA) ((Keep.refl _ _).set _ _ rfl) nBA).set _ hlt (fun j _ => by unfold farV; by_cases e : j = k; rw [if_pos e, if_pos (by omega)]; rw [if_neg e]; by_cases e2 : j < k; rw [if_pos e2, if_pos (by omega)]; rw [if_neg e2, if_neg (by omega)]))
      have HBW5 : Hid (Below w1.heap.size w1 ((wr.setCell ⟨gA, k, none⟩ (.int .i64 1099511627776)).setCell ⟨gB, k, none⟩ (.int .i64 1099511627776))) := Lib.hid ((HBW.out.setCell (p := ⟨gA, k, none⟩) HAB.out.2.1 _).setCell (p := ⟨gB, k, none⟩) HAB.out.2.2 _)
      go_wp2_with fail
      go_roundw
      case rel => exact ⟨k + 1, by omega, by go_num, HKA5, HKB5, HBW5⟩
      case measure => simp only [intOf]; omega
    · obtain rfl : k = N := by omega
      have hnlt : ¬ (k : Int) < (k : Int) := by omega
      have a0 := HKA.out.cell ha
      have a1 := HKA.out.frozen a
      have a2 := HKB.out.cell ha
      have a3 := HKB.out.frozen a
      have e0 : ∀ j, j < k → cS (rnds (rev (arcs l)) a 0) j = if j = a then .int .i64 0 else farV k j := fun j hj => by
        exact cS_start _ _ _ _ hj
      have e1 : ∀ j, j < k → cE (rnds (rev (arcs l)) a 0) j = if j = a then .int .i64 0 else farV k j := fun j hj => by
        exact cE_start _ _ _ _ hj
      have HKA5 : Hid (Blk ((wr.setCell ⟨gA, a, none⟩ (.int .i64 0)).setCell ⟨gB, a, none⟩ (.int .i64 0)) gA 3 k (cS (rnds (rev (arcs l)) a 0))) := Lib.hid ((HKA.out.set _ ha e0).keep (S := fun k => k = gB) ((Keep.refl _ _).set _ _ rfl) nAB)
      have HKB5 : Hid (Blk ((wr.setCell ⟨gA, a, none⟩ (.int .i64 0)).setCell ⟨gB, a, none⟩ (.int .i64 0)) gB 3 k (cE (rnds (rev (arcs l)) a 0))) := Lib.hid ((HKB.out.keep (S := fun k => k = gA) ((Keep.refl _ _).set _ _ rfl) nBA).set _ ha e1)
      have HBW5 : Hid (Below w1.heap.size w1 ((wr.setCell ⟨gA, a, none⟩ (.int .i64 0)).setCell ⟨gB, a, none⟩ (.int .i64 0))) := Lib.hid ((HBW.out.setCell (p := ⟨gA, a, none⟩) HAB.out.2.1 _).setCell (p := ⟨gB, a, none⟩) HAB.out.2.2 _)
      clear e0 e1 HKA HKB HBW
      go_wp2_with fail
      clear a0 a1 a2 a3 b0 b1 hbs hlt
      obtain ⟨N, rfl⟩ : ∃ x, x = k := ⟨_, rfl⟩
      obtain ⟨wA, hwA⟩ : ∃ x, ((wr.setCell ⟨gA, a, none⟩ (.int .i64 0)).setCell ⟨gB, a, none⟩ (.int .i64 0)) = x := ⟨_, rfl⟩
      rw [hwA] at HKA5 HKB5 HBW5 ⊢
      clear hwA
      go_loopw [9] (fun v9 wr => ∃ r : Nat, r ≤ N ∧ v9 = .int .i64 (r : Int) ∧ Hid (Blk wr gA 3 N (cS (rnds (rev (arcs l)) a r))) ∧ Hid (Blk wr gB 3 N (cE (rnds (rev (arcs l)) a r))) ∧ Hid (Below w1.heap.size w1 wr)) (fun i _ => N - (intOf i).toNat)
      case atStart => exact ⟨0, by omega, rfl, HKA5, HKB5, HBW5⟩
      case round =>
        obtain ⟨r, hr, rfl, HRA, HRB, HBR⟩ := hrel
        clear HKA5 HKB5 HBW5
        obtain ⟨b0, b1⟩ := HBX.out.below HBR.out
        have hbs : w.heap.size < wr.heap.size := World.block_lt_of_cell? _ _ b0
        by_cases hlt : r < N
        · have hkz : (r : Int) < (N : Int) := by omega
          go_wp2_with fail
          clear b0 b1 hbs
          obtain ⟨wB, rfl⟩ : ∃ x, x = wr := ⟨_, rfl⟩
          go_loopw [10] (fun v10 wr => ∃ i : Nat, i ≤ m ∧ v10 = .int .i64 (i : Int) ∧ Hid (Blk wr gA 3 N (cS (stB l a r i))) ∧ Hid (Blk wr gB 3 N (cE (stB l a r i))) ∧ Hid (Below w1.heap.size w1 wr)) (fun i _ => m - (intOf i).toNat)
          case atStart => exact ⟨0, by omega, rfl, by rw [stB_zero]; exact HRA, by rw [stB_zero]; exact HRB, HBR⟩
          case round =>
            obtain ⟨i, hi, rfl, HSA, HSB, HBS3⟩ := hrel
            obtain ⟨b0, b1⟩ := HBX.out.below HBS3.out
            have hbs : w.heap.size < wr.heap.size := World.block_lt_of_cell? _ _ b0
            by_cases hil : i < m
            · have hiz : (i : Int) < (m : Int) := by omega
              have hil2 : i < l.length := by rw [HM.out]; exact hil
              obtain ⟨b, o, rfl, hbl, c0, c1, c2⟩ := (HA.out.below HBS3.out).at hil2
              obtain ⟨x0, x1, x2, x3, x4, x5⟩ := HO.out i hil2
              have HST := Lib.hid (stB_succ a r hil2)
              obtain ⟨⟨f0, t0, e0⟩, hy⟩ : ∃ y, l.getD i ed0 = y := ⟨_, rfl⟩
              rw [hy] at c0 c1 c2 x0 x1 x2 x3 x4 x5 HST
              simp only at c0 c1 c2 x0 x1 x2 x3 x4 x5 HST
              obtain ⟨f, rfl⟩ : ∃ q : Nat, f0 = (q : Int) := ⟨f0.toNat, by omega⟩
              obtain ⟨t, rfl⟩ : ∃ q : Nat, t0 = (q : Int) := ⟨t0.toNat, by omega⟩
              obtain ⟨e, rfl⟩ : ∃ q : Nat, e0 = (q : Int) := ⟨e0.toNat, by omega⟩
              simp only [Int.toNat_natCast] at HST
              have hf : f < N := by omega
              have ht : t < N := by omega
              have he : e ≤ 1000 := by omega
              have HBV := Lib.hid (HBS.out r i (by omega) (by omega))
              have hvb : ∀ v, fS (stB l a r i v) ≤ 1099511627776 ∧ 0 ≤ fS (stB l a r i v) ∧ 0 ≤ fE (stB l a r i v) ∧ fE (stB l a r i v) ≤ 1099511627776 := fun v => fS_bd (fun p hp => by have := HBV.out v p hp; exact ⟨this.1, this.2.1, this.2.2.1, this.2.2.2.1⟩)
              obtain ⟨t1, t2, t3, t4⟩ := hvb t
              obtain ⟨f1, f2, f3, f4⟩ := hvb f
              have a0 : wr.cell? ⟨gA, t, none⟩ = some (.int .i64 (fS (stB l a r i t))) := HSA.out.cell ht
              have a1 : wr.cell? ⟨gB, t, none⟩ = some (.int .i64 (fE (stB l a r i t))) := HSB.out.cell ht
              have a2 : wr.cell? ⟨gA, f, none⟩ = some (.int .i64 (fS (stB l a r i f))) := HSA.out.cell hf
              have a3 : wr.cell? ⟨gB, f, none⟩ = some (.int .i64 (fE (stB l a r i f))) := HSB.out.cell hf
              have a4 := HSA.out.frozen f
              have a5 := HSB.out.frozen f
              have hfz : (f : Int) < (N : Int) := by omega
              have htz : (t : Int) < (N : Int) := by omega
              have hws : IntKind.i64.wrap (fS (stB l a r i t) + (e : Int)) = fS (stB l a r i t) + (e : Int) := by rw [IntKind.wrap_i64]; omega
              have hwe : IntKind.i64.wrap (fE (stB l a r i t) + 1) = fE (stB l a r i t) + 1 := by rw [IntKind.wrap_i64]; omega
              have hgA := HSA.out.lt
              have hgB := HSB.out.lt
              obtain ⟨vt, hvt⟩ : ∃ x, fS (stB l a r i t) = x := ⟨_, rfl⟩
              obtain ⟨vf, hvf⟩ : ∃ x, fS (stB l a r i f) = x := ⟨_, rfl⟩
              obtain ⟨et, het⟩ : ∃ x, fE (stB l a r i t) = x := ⟨_, rfl⟩
              obtain ⟨ef, hef⟩ : ∃ x, fE (stB l a r i f) = x := ⟨_, rfl⟩
              simp only [hvt, hvf, het, hef] at a0 a1 a2 a3 hws hwe t1 t2 t3 t4 f1 f2 f3 f4
              clear hvb x0 x1 x2 x3 x4 x5 hy hil2
              have HVT := Lib.hid (And.intro hvt (And.intro hvf (And.intro het hef)))
              clear hvt hvf het hef
              go_wp2_with fail
              go_region
              obtain ⟨W2, hW2⟩ : ∃ x, (wr.alloc (.cells #[.int .i64 (f : Int), .int .i64 (t : Int), .int .i64 (e : Int)] 43)).drew = x := ⟨_, rfl⟩
              have hB2 : Below wr.heap.size wr W2 := hW2 ▸ (below_alloc _ _).drew
              have HA2 : Hid (Blk W2 gA 3 N (cS (stB l a r i))) := Lib.hid (HSA.out.below hB2)
              have HB2 : Hid (Blk W2 gB 3 N (cE (stB l a r i))) := Lib.hid (HSB.out.below hB2)
              have HBW2 : Hid (Below w1.heap.size w1 W2) := Lib.hid (Below.step HBS3.out hB2)
              have HTR : Hid (TriR W2 wr.heap.size ⟨(f : Int), (t : Int), (e : Int)⟩) := Lib.hid (hW2 ▸ (TriR.made wr _ _ _ _).drew)
              have nzA : ¬ wr.heap.size = gA := by omega
              have nzB : ¬ wr.heap.size = gB := by omega
              rw [hW2]
              obtain ⟨z, hz⟩ : ∃ z, wr.heap.size = z := ⟨_, rfl⟩
              rw [hz] at HTR nzA nzB ⊢
              clear hW2 hB2 HSA HSB HBS3 a0 a1 a2 a3 a4 a5 b0 b1 c0 c1 c2 hbs hgA hgB hz hbl
              obtain ⟨d0, d1, d2⟩ := HTR.out
              simp only at d0 d1 d2
              have a0 : W2.cell? ⟨gA, t, none⟩ = some (.int .i64 vt) := by rw [← HVT.out.1]; exact HA2.out.cell ht
              have a1 : W2.cell? ⟨gB, t, none⟩ = some (.int .i64 et) := by rw [← HVT.out.2.2.1]; exact HB2.out.cell ht
              have a2 : W2.cell? ⟨gA, f, none⟩ = some (.int .i64 vf) := by rw [← HVT.out.2.1]; exact HA2.out.cell hf
              have a3 : W2.cell? ⟨gB, f, none⟩ = some (.int .i64 ef) := by rw [← HVT.out.2.2.2]; exact HB2.out.cell hf
              have a4 := HA2.out.frozen f
              have a5 := HB2.out.frozen f
              have HYES := relax_yes (t := t) (f := f) (s := e) HBV.out he
              have HNO := relax_no (t := t) (f := f) (s := e) HBV.out he
              rw [HVT.out.1, HVT.out.2.1, HVT.out.2.2.1, HVT.out.2.2.2] at HYES HNO
              clear HVT HTR HBV HBS hws hwe t1 t2 t3 t4 f1 f2 f3 f4
              by_cases h1 : vt < 1099511627776
              · by_cases h2 : vt + (e : Int) < vf
                · have hyes := HYES h1 (Or.inl h2)
                  obtain ⟨p, hpd, hp1, hp2⟩ := hyes
                  have hd := HST.out
                  rw [hpd] at hd
                  have HS1 : Hid (Blk ((W2.setCell ⟨gA, f, none⟩ (.int .i64 (xS p))).setCell ⟨gB, f, none⟩ (.int .i64 (xE p))) gA 3 N (cS (stB l a r (i + 1))) ∧ Blk ((W2.setCell ⟨gA, f, none⟩ (.int .i64 (xS p))).setCell ⟨gB, f, none⟩ (.int .i64 (xE p))) gB 3 N (cE (stB l a r (i + 1)))) := Lib.hid (by
                    rw [hd]
                    exact ⟨(HA2.out.set _ hf (fun j _ => cS_upd _ _ _ _)).keep (S := fun k => k = gB) ((Keep.refl _ _).set _ _ rfl) HAB.out.1, (HB2.out.keep (S := fun k => k = gA) ((Keep.refl _ _).set _ _ rfl) (fun e => HAB.out.1 e.symm)).set _ hf (fun j _ => cE_upd _ _ _ _)⟩)
                  have HBE1 : Hid (Below w1.heap.size w1 ((W2.setCell ⟨gA, f, none⟩ (.int .i64 (xS p))).setCell ⟨gB, f, none⟩ (.int .i64 (xE p)))) := Lib.hid ((HBW2.out.setCell (p := ⟨gA, f, none⟩) HAB.out.2.1 _).setCell (p := ⟨gB, f, none⟩) HAB.out.2.2 _)
                  rw [hp1, hp2] at HS1 HBE1
                  clear hd hpd hp1 hp2 HYES HNO
                  go_wp2_with fail
                  go_region
                  all_goals
                    go_wp2_with fail
                    go_roundw
                    case rel => exact ⟨i + 1, by omega, by go_num, Lib.hid HS1.out.1, Lib.hid HS1.out.2, Lib.hid HBE1.out.drew⟩
                    case measure => simp only [intOf]; omega
                · by_cases h3 : vt + (e : Int) = vf
                  · by_cases h4 : et + 1 < ef
                    · have hyes := HYES h1 (Or.inr ⟨h3, h4⟩)
                      obtain ⟨p, hpd, hp1, hp2⟩ := hyes
                      have hd := HST.out
                      rw [hpd] at hd
                      have HS1 : Hid (Blk ((W2.setCell ⟨gA, f, none⟩ (.int .i64 (xS p))).setCell ⟨gB, f, none⟩ (.int .i64 (xE p))) gA 3 N (cS (stB l a r (i + 1))) ∧ Blk ((W2.setCell ⟨gA, f, none⟩ (.int .i64 (xS p))).setCell ⟨gB, f, none⟩ (.int .i64 (xE p))) gB 3 N (cE (stB l a r (i + 1)))) := Lib.hid (by
                        rw [hd]
                        exact ⟨(HA2.out.set _ hf (fun j _ => cS_upd _ _ _ _)).keep (S := fun k => k = gB) ((Keep.refl _ _).set _ _ rfl) HAB.out.1, (HB2.out.keep (S := fun k => k = gA) ((Keep.refl _ _).set _ _ rfl) (fun e => HAB.out.1 e.symm)).set _ hf (fun j _ => cE_upd _ _ _ _)⟩)
                      have HBE1 : Hid (Below w1.heap.size w1 ((W2.setCell ⟨gA, f, none⟩ (.int .i64 (xS p))).setCell ⟨gB, f, none⟩ (.int .i64 (xE p)))) := Lib.hid ((HBW2.out.setCell (p := ⟨gA, f, none⟩) HAB.out.2.1 _).setCell (p := ⟨gB, f, none⟩) HAB.out.2.2 _)
                      rw [hp1, hp2] at HS1 HBE1
                      rw [h3] at HS1 HBE1
                      clear hd hpd hp1 hp2 HYES HNO
                      go_wp2_with fail
                      go_region
                      all_goals
                        go_wp2_with fail
                        go_roundw
                        case rel => exact ⟨i + 1, by omega, by go_num, Lib.hid HS1.out.1, Lib.hid HS1.out.2, Lib.hid HBE1.out.drew⟩
                        case measure => simp only [intOf]; omega
                    · have hno := HNO (fun hc => by rcases hc.2 with hh | hh; exact h2 hh; exact h4 hh.2)
                      have hd := HST.out
                      rw [hno] at hd
                      have HA3 : Hid (Blk W2 gA 3 N (cS (stB l a r (i + 1)))) := Lib.hid (by rw [hd]; exact HA2.out)
                      have HB3 : Hid (Blk W2 gB 3 N (cE (stB l a r (i + 1)))) := Lib.hid (by rw [hd]; exact HB2.out)
                      clear hd hno HYES HNO
                      go_wp2_with fail
                      go_roundw
                      case rel => exact ⟨i + 1, by omega, by go_num, HA3, HB3, HBW2⟩
                      case measure => simp only [intOf]; omega
                  · have hno := HNO (fun hc => by rcases hc.2 with hh | hh; exact h2 hh; exact h3 hh.1)
                    have hd := HST.out
                    rw [hno] at hd
                    have HA3 : Hid (Blk W2 gA 3 N (cS (stB l a r (i + 1)))) := Lib.hid (by rw [hd]; exact HA2.out)
                    have HB3 : Hid (Blk W2 gB 3 N (cE (stB l a r (i + 1)))) := Lib.hid (by rw [hd]; exact HB2.out)
                    clear hd hno HYES HNO
                    go_wp2_with fail
                    go_roundw
                    case rel => exact ⟨i + 1, by omega, by go_num, HA3, HB3, HBW2⟩
                    case measure => simp only [intOf]; omega
              · have hno := HNO (fun hc => h1 hc.1)
                have hd := HST.out
                rw [hno] at hd
                have HA3 : Hid (Blk W2 gA 3 N (cS (stB l a r (i + 1)))) := Lib.hid (by rw [hd]; exact HA2.out)
                have HB3 : Hid (Blk W2 gB 3 N (cE (stB l a r (i + 1)))) := Lib.hid (by rw [hd]; exact HB2.out)
                clear hd hno HYES HNO
                go_wp2_with fail
                go_roundw
                case rel => exact ⟨i + 1, by omega, by go_num, HA3, HB3, HBW2⟩
                case measure => simp only [intOf]; omega
            · obtain rfl : i = m := by omega
              have hnlt : ¬ (i : Int) < (i : Int) := by omega
              have hst : stB l a r i = rnds (rev (arcs l)) a (r + 1) := by rw [← HM.out]; exact stB_all l a r
              rw [hst] at HSA HSB
              clear hst
              go_wp2_with fail
              go_roundw
              case rel => exact ⟨r + 1, by omega, by go_num, HSA, HSB, HBS3⟩
              case measure => simp only [intOf]; omega
        · obtain rfl : r = N := by omega
          have hnlt : ¬ (r : Int) < (r : Int) := by omega
          go_wp2_with fail
          go_ret2
          exact ⟨gA, gB, rfl, HRA.out, HRB.out, by have := HAB.out.2.1; omega, by have := HAB.out.2.2; omega, HAB.out.1, HB1.out.trans (HBR.out.mono (by omega))⟩
end Go.Proofs.Ythomklpaafnjhaa
