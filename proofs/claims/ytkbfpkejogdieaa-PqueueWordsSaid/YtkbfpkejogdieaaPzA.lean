/-
  Strings ordered by their lengths, and what a heap of strings in memory is; the contract of before. Condition: as each says.
-/
import Derived.Test.YtkbfpkejogdieaaPqJ
namespace Go.Proofs.Ytkbfpkejogdieaa
open Go.RowKit
set_option linter.unusedVariables false

/-- The key of a string. (The order is one; the first argument is not looked at.) -/
def kZ (dn : Bool) (s : ByteArray) : Int := (s.size : Int)
def lessZ (dn : Bool) : Nat := 25
theorem less_z (dn : Bool) (x y : ByteArray) (w : World) :
    Calls Try.prog (lessZ dn) #[.string x, .string y] w fun e w' => e = .returned (.bool (decide (kZ dn x < kZ dn y))) ∧ ∃ q os, w' = Sort.grow (w.drewN q) os := by
  have h : Calls Try.prog 25 #[.string x, .string y] w fun e w' => e = .returned (.bool (decide ((x.size : Int) < (y.size : Int)))) ∧ w = w' := by
    by_cases c : x.size < y.size
    · have cz : (x.size : Int) < (y.size : Int) := by omega
      rw [decide_eq_true cz]
      go_enter Try.func25, Try.ntmps25
      go_wp2_with fail
      go_ret
      exact ⟨rfl, rfl⟩
    · have cz : ¬ (x.size : Int) < (y.size : Int) := by omega
      rw [decide_eq_false cz]
      go_enter Try.func25, Try.ntmps25
      go_wp2_with fail
      go_ret
      exact ⟨rfl, rfl⟩
  exact h.mono fun e w' ⟨h1, h2⟩ => ⟨h1, 0, #[], by rw [Sort.grow_empty]; exact h2.symm⟩
theorem less_enters_z (dn : Bool) (args : Array Value) (w : World) : (callFunc (lessZ dn) args).run Try.prog w = .ok (.enter (lessZ dn) args) w :=
  enters_of Try.func25 (by kernel_rfl) rfl args w

/-- Block g holds n entries, those of h; there is room for cap. -/
def HpRZ (w : World) (g n cap : Nat) (h : Nat → ByteArray × Nat) : Prop := n ≤ cap ∧ cap ≤ maxLen ∧ ∃ cur : Array Value, w.heap[g]? = some (.cells cur 69 (0, 0)) ∧ cur.size = cap * 2 ∧
  ∀ j, j < n → cur[j * 2]? = some (.string (h j).1) ∧ cur[j * 2 + 1]? = some (.int .i64 ((h j).2 : Int))
theorem HpRZ.lt {w : World} {g n cap : Nat} {h : Nat → ByteArray × Nat} (H : HpRZ w g n cap h) : g < w.heap.size := by
  obtain ⟨_, _, cur, h1, _⟩ := H
  exact (Array.getElem?_eq_some_iff.1 h1).1
theorem HpRZ.cell {w : World} {g n cap j : Nat} {h : Nat → ByteArray × Nat} (H : HpRZ w g n cap h) (hj : j < n) :
    w.cell? ⟨g, j * 2, none⟩ = some (.string (h j).1) ∧ w.cell? ⟨g, j * 2 + 1, none⟩ = some (.int .i64 ((h j).2 : Int)) := by
  obtain ⟨_, _, cur, h1, h2, h3⟩ := H
  obtain ⟨a0, a1⟩ := h3 j hj
  exact ⟨(cell_of_row w g _ cur _ _ h1).trans a0, (cell_of_row w g _ cur _ _ h1).trans a1⟩
theorem HpRZ.frozen {w : World} {g n cap : Nat} {h : Nat → ByteArray × Nat} (H : HpRZ w g n cap h) (j : Nat) : w.frozen? ⟨g, j, none⟩ = false := by
  obtain ⟨_, _, cur, h1, _⟩ := H
  simp [World.frozen?, h1]
theorem HpRZ.keep {w w' : World} {g n cap : Nat} {h : Nat → ByteArray × Nat} {S : Nat → Prop} (H : HpRZ w g n cap h) (hk : Keep S w w') (hS : ¬ S g) : HpRZ w' g n cap h := by
  have hlt := H.lt
  obtain ⟨h0, h1, cur, h2, h3⟩ := H
  exact ⟨h0, h1, cur, (hk.block g hlt hS).trans h2, h3⟩
theorem HpRZ.below {w w' : World} {g n cap : Nat} {h : Nat → ByteArray × Nat} (H : HpRZ w g n cap h) (hb : Below w.heap.size w w') : HpRZ w' g n cap h :=
  H.keep (Keep.ofBelow (S := fun _ => False) hb) (fun e => e)
theorem HpRZ.drew {w : World} {g n cap : Nat} {h : Nat → ByteArray × Nat} (H : HpRZ w g n cap h) : HpRZ w.drew g n cap h := H
/-- The world with entry i written. -/
def putZ (w : World) (g i : Nat) (x : ByteArray × Nat) : World := (w.setCell ⟨g, i * 2, none⟩ (.string x.1)).setCell ⟨g, i * 2 + 1, none⟩ (.int .i64 (x.2 : Int))
theorem HpRZ.put {w : World} {g n m cap i : Nat} {h h' : Nat → ByteArray × Nat} (H : HpRZ w g n cap h) (x : ByteArray × Nat) (hi : i < cap) (hm : m ≤ cap) (hh : ∀ t, t < m → if t = i then h' t = x else t < n ∧ h' t = h t) : HpRZ (putZ w g i x) g m cap h' := by
  obtain ⟨h0, h1, cur, h2, h3, h4⟩ := H
  refine ⟨hm, h1, _, set_row _ (set_row _ h2), by simp [h3], fun j hj => ?_⟩
  have hj2 := hh j hj
  by_cases e : j = i
  · subst e
    rw [if_pos rfl] at hj2
    rw [hj2]
    refine ⟨?_, ?_⟩
    · rw [Array.getElem?_setIfInBounds, if_neg (by omega), Array.getElem?_setIfInBounds, if_pos rfl, if_pos (by rw [h3]; omega)]
    · rw [Array.getElem?_setIfInBounds, if_pos rfl, if_pos (by simp [h3]; omega)]
  · rw [if_neg e] at hj2
    rw [hj2.2]
    obtain ⟨a0, a1⟩ := h4 j hj2.1
    refine ⟨?_, ?_⟩
    · rw [Array.getElem?_setIfInBounds, if_neg (by omega), Array.getElem?_setIfInBounds, if_neg (by omega), a0]
    · rw [Array.getElem?_setIfInBounds, if_neg (by omega), Array.getElem?_setIfInBounds, if_neg (by omega), a1]
theorem HpRZ.swap {w : World} {g n cap i j : Nat} {h : Nat → ByteArray × Nat} (H : HpRZ w g n cap h) (hi : i < n) (hj : j < n) : HpRZ (putZ (putZ w g i (h j)) g j (h i)) g n cap (swp h i j) := by
  have hc := H.1
  have h1 : HpRZ (putZ w g i (h j)) g n cap (fun t => if t = i then h j else h t) := H.put (h j) (by omega) hc fun t ht => by
    by_cases e : t = i
    · simp [e]
    · simp [e, ht]
  refine h1.put (h i) (by omega) hc fun t ht => ?_
  by_cases e : t = j
  · subst e; rw [if_pos rfl, swp_r]
  · rw [if_neg e]
    refine ⟨ht, ?_⟩
    by_cases e2 : t = i
    · subst e2; rw [swp_l, if_pos rfl]
    · rw [swp_o h e2 e, if_neg e2]
theorem Keep.putZ {S : Nat → Prop} {w w' : World} (h : Keep S w w') (g i : Nat) (x : ByteArray × Nat) (hS : S g) : Keep S w (putZ w' g i x) := (h.set _ _ hS).set _ _ hS

/-- Two entries in new blocks. -/
structure TwoZ (w W : World) (p q : Nat) (x0 : ByteArray) (x2 : Nat) (y0 : ByteArray) (y2 : Nat) : Prop where
  p0 : W.cell? ⟨p, 0, none⟩ = some (.string x0)
  p2 : W.cell? ⟨p, 1, none⟩ = some (.int .i64 (x2 : Int))
  q0 : W.cell? ⟨q, 0, none⟩ = some (.string y0)
  q2 : W.cell? ⟨q, 1, none⟩ = some (.int .i64 (y2 : Int))
  below : Below w.heap.size w W
theorem TwoZ.ab (w : World) (x0 : ByteArray) (x2 : Nat) (y0 : ByteArray) (y2 : Nat) (t : TypeId) : TwoZ w ((w.alloc (.cells #[.string x0, .int .i64 (x2 : Int)] t)).alloc (.cells #[.string y0, .int .i64 (y2 : Int)] t)).drew w.heap.size (w.heap.size + 1) x0 x2 y0 y2 := by
  have hl : w.heap.size < (w.alloc (.cells #[.string x0, .int .i64 (x2 : Int)] t)).heap.size := by simp
  have hs : (w.alloc (.cells #[.string x0, .int .i64 (x2 : Int)] t)).heap.size = w.heap.size + 1 := by simp
  refine ⟨?_, ?_, ?_, ?_, ((Below.refl _ _).alloc (Nat.le_refl _) _).alloc (by simp) _ |>.drew⟩
  · show ((w.alloc _).alloc _).cell? _ = _; rw [World.cell?_alloc_past _ _ _ hl, World.cell?_alloc_new]; rfl
  · show ((w.alloc _).alloc _).cell? _ = _; rw [World.cell?_alloc_past _ _ _ hl, World.cell?_alloc_new]; rfl
  · show ((w.alloc _).alloc _).cell? _ = _; rw [← hs, World.cell?_alloc_new]; rfl
  · show ((w.alloc _).alloc _).cell? _ = _; rw [← hs, World.cell?_alloc_new]; rfl
theorem TwoZ.ba (w : World) (x0 : ByteArray) (x2 : Nat) (y0 : ByteArray) (y2 : Nat) (t : TypeId) : TwoZ w ((w.alloc (.cells #[.string y0, .int .i64 (y2 : Int)] t)).alloc (.cells #[.string x0, .int .i64 (x2 : Int)] t)).drew (w.heap.size + 1) w.heap.size x0 x2 y0 y2 := by
  obtain ⟨a0, a2, b0, b2, hb⟩ := TwoZ.ab w y0 y2 x0 x2 t
  exact ⟨b0, b2, a0, a2, hb⟩

set_option maxRecDepth 100000 in
set_option maxHeartbeats 2000000 in
theorem before_z (dn : Bool) (b g n cap i j : Nat) (h : Nat → ByteArray × Nat) (w : World) (c0 : w.cell? ⟨b, 0, none⟩ = some (.func (.func (lessZ dn)) #[] #[])) (c1 : w.cell? ⟨b, 1, none⟩ = some (.slice (some ⟨g, 0, none⟩) n cap))
    (H : HpRZ w g n cap h) (hi : i < n) (hj : j < n) (hn : n ≤ 1000000) :
    Calls Try.prog 41 #[.pointer (some ⟨b, 0, none⟩), .int .i64 (i : Int), .int .i64 (j : Int)] w fun e w' => e = .returned (.bool (bfE (kZ dn) (h i) (h j))) ∧ Below w.heap.size w w' := by
  obtain ⟨i0, i2⟩ := H.cell hi
  obtain ⟨j0, j2⟩ := H.cell hj
  have iz : (i : Int) < (n : Int) := by omega
  have jz : (j : Int) < (n : Int) := by omega
  have hbw : b < w.heap.size := World.block_lt_of_cell? _ _ c0
  have hgw : g < w.heap.size := H.lt
  obtain ⟨x, hx⟩ : ∃ x, h i = x := ⟨_, rfl⟩
  obtain ⟨y, hy⟩ : ∃ x, h j = x := ⟨_, rfl⟩
  rw [hx] at i0 i2
  rw [hy] at j0 j2
  rw [hx, hy]
  obtain ⟨x0, x2⟩ := x
  obtain ⟨y0, y2⟩ := y
  simp only at i0 i2 j0 j2
  have mixed : Try.prog.follows .mixedOrders = true := by kernel_rfl
  have eg := less_enters_z dn
  have HL := Lib.hid (fun W => less_z dn y0 x0 W)
  have HL2 := Lib.hid (fun W => less_z dn x0 y0 W)
  have HP := Lib.hid (show x2 < y2 → bfE (kZ dn) (x0, x2) (y0, y2) = !decide (kZ dn y0 < kZ dn x0) from fun hlt => by unfold bfE; rw [if_pos hlt])
  have HQ := Lib.hid (show ¬ x2 < y2 → bfE (kZ dn) (x0, x2) (y0, y2) = decide (kZ dn x0 < kZ dn y0) from fun hlt => by unfold bfE; rw [if_neg hlt])
  generalize bfE (kZ dn) (x0, x2) (y0, y2) = r at HP HQ ⊢
  obtain ⟨f, hf⟩ : ∃ f, lessZ dn = f := ⟨_, rfl⟩
  obtain ⟨r1, hr1⟩ : ∃ f, decide (kZ dn y0 < kZ dn x0) = f := ⟨_, rfl⟩
  obtain ⟨r2, hr2⟩ : ∃ f, decide (kZ dn x0 < kZ dn y0) = f := ⟨_, rfl⟩
  rw [hf] at eg HL HL2 c0
  rw [hr1] at HL HP
  rw [hr2] at HL2 HQ
  have HC := Lib.hid c0
  have hnot : ∀ (x : Bool) (w : World), (Op.unary .not (.bool x)).run Try.prog w = .ok (.bool (!x)) w := fun _ _ => rfl
  clear H hx hy hf hr1 hr2
  by_cases hlt : x2 < y2
  · have hz : (x2 : Int) < (y2 : Int) := by omega
    have HR := Lib.hid (HP.out hlt)
    clear HP HQ hlt
    go_enter Try.func41, Try.ntmps41
    go_wp2_with fail
    go_region
    all_goals
      first
        | (have HT := Lib.hid (TwoZ.ab w x0 x2 y0 y2 69); obtain ⟨W, hW⟩ : ∃ W, ((w.alloc (.cells #[.string x0, .int .i64 (x2 : Int)] 69)).alloc (.cells #[.string y0, .int .i64 (y2 : Int)] 69)).drew = W := ⟨_, rfl⟩; rw [hW] at HT ⊢; clear hW)
        | (have HT := Lib.hid (TwoZ.ba w x0 x2 y0 y2 69); obtain ⟨W, hW⟩ : ∃ W, ((w.alloc (.cells #[.string y0, .int .i64 (y2 : Int)] 69)).alloc (.cells #[.string x0, .int .i64 (x2 : Int)] 69)).drew = W := ⟨_, rfl⟩; rw [hW] at HT ⊢; clear hW)
      clear i0 i2 j0 j2 c0 c1
      obtain ⟨p0, p2, q0, q2, hB⟩ := HT.out
      have hB' := Lib.hid hB
      go_wp2_with fail
      have cg : ∀ n os, (Sort.grow (W.drewN n) os).cell? ⟨b, 0, none⟩ = some (.func (.func f) #[] #[]) := cell_grown (Nat.lt_of_lt_of_le hbw hB.size) (by rw [hB.cell (p := ⟨b, 0, none⟩) hbw]; exact HC.out)
      have g0 := cell_grown (World.block_lt_of_cell? _ _ p0) p0
      have g2 := cell_grown (World.block_lt_of_cell? _ _ q0) q0
      clear p0 p2 q0 q2 hB HT
      go_quiet_grown (first | (go_at_fn f; refine Calls.grown_of (HL.out _)))
      go_wp2_with fail
      go_ret
      exact ⟨ret_bool HR.out.symm, Below.step hB'.out (below_grow _ _ _)⟩
  · have hz : ¬ (x2 : Int) < (y2 : Int) := by omega
    have HR := Lib.hid (HQ.out hlt)
    clear HP HQ hlt
    go_enter Try.func41, Try.ntmps41
    go_wp2_with fail
    go_region
    all_goals
      first
        | (have HT := Lib.hid (TwoZ.ab w x0 x2 y0 y2 69); obtain ⟨W, hW⟩ : ∃ W, ((w.alloc (.cells #[.string x0, .int .i64 (x2 : Int)] 69)).alloc (.cells #[.string y0, .int .i64 (y2 : Int)] 69)).drew = W := ⟨_, rfl⟩; rw [hW] at HT ⊢; clear hW)
        | (have HT := Lib.hid (TwoZ.ba w x0 x2 y0 y2 69); obtain ⟨W, hW⟩ : ∃ W, ((w.alloc (.cells #[.string y0, .int .i64 (y2 : Int)] 69)).alloc (.cells #[.string x0, .int .i64 (x2 : Int)] 69)).drew = W := ⟨_, rfl⟩; rw [hW] at HT ⊢; clear hW)
      clear i0 i2 j0 j2 c0 c1
      obtain ⟨p0, p2, q0, q2, hB⟩ := HT.out
      have hB' := Lib.hid hB
      go_wp2_with fail
      have cg : ∀ n os, (Sort.grow (W.drewN n) os).cell? ⟨b, 0, none⟩ = some (.func (.func f) #[] #[]) := cell_grown (Nat.lt_of_lt_of_le hbw hB.size) (by rw [hB.cell (p := ⟨b, 0, none⟩) hbw]; exact HC.out)
      have g0 := cell_grown (World.block_lt_of_cell? _ _ p0) p0
      have g2 := cell_grown (World.block_lt_of_cell? _ _ q0) q0
      clear p0 p2 q0 q2 hB HT
      go_quiet_grown (first | (go_at_fn f; refine Calls.grown_of (HL2.out _)))
      go_wp2_with fail
      go_ret
      exact ⟨ret_bool HR.out.symm, Below.step hB'.out (below_grow _ _ _)⟩
end Go.Proofs.Ytkbfpkejogdieaa
