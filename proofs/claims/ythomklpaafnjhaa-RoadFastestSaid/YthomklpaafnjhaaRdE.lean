/-
  A row of lengths; the contract of slices.Repeat of one length without a way. Condition: at most 64.
-/
import Derived.Test.YthomklpaafnjhaaRdR
import Derived.Laws.IdiomCopy
import Derived.Deep.RegionLaw
namespace Go.Proofs.Ythomklpaafnjhaa
open Go.RowKit
set_option linter.unusedVariables false

/-- The two numbers of what is known of a node: none: there is no way. -/
def lS : Option Nat → Int
  | none => -1
  | some n => xS n
def lE : Option Nat → Int
  | none => 0
  | some n => xE n
/-- The cells of a row of lengths. -/
def lv (L : Nat → Option Nat) (j : Nat) : Value := if j % 2 = 0 then .int .i64 (lS (L (j / 2))) else .int .i64 (lE (L (j / 2)))
theorem lv_S (L : Nat → Option Nat) (v : Nat) : lv L (v * 2) = .int .i64 (lS (L v)) := by
  unfold lv; rw [if_pos (by omega), Nat.mul_div_cancel _ (by decide)]
theorem lv_E (L : Nat → Option Nat) (v : Nat) : lv L (v * 2 + 1) = .int .i64 (lE (L v)) := by
  unfold lv; rw [if_neg (by omega), show (v * 2 + 1) / 2 = v by omega]
/-- Block g: the lengths of N nodes. -/
def LenR (w : World) (g N : Nat) (L : Nat → Option Nat) : Prop := Blk w g 55 (N * 2) (lv L)
theorem LenR.at {w : World} {g N v : Nat} {L : Nat → Option Nat} (h : LenR w g N L) (hv : v < N) : w.cell? ⟨g, v * 2, none⟩ = some (.int .i64 (lS (L v))) ∧ w.cell? ⟨g, v * 2 + 1, none⟩ = some (.int .i64 (lE (L v))) := by
  rw [← lv_S, ← lv_E]
  exact ⟨Blk.cell h (by omega), Blk.cell h (by omega)⟩
theorem LenR.put {w : World} {g N v : Nat} {L : Nat → Option Nat} (h : LenR w g N L) (hv : v < N) (n : Nat) : LenR ((w.setCell ⟨g, v * 2, none⟩ (.int .i64 (xS n))).setCell ⟨g, v * 2 + 1, none⟩ (.int .i64 (xE n))) g N (upd L v (some n)) := by
  have h1 : Blk (w.setCell ⟨g, v * 2, none⟩ (.int .i64 (xS n))) g 55 (N * 2) (fun j => if j = v * 2 then .int .i64 (xS n) else lv L j) := Blk.set h _ (by omega) (fun j _ => rfl)
  refine Blk.set h1 _ (by omega) (fun j hj => ?_)
  unfold lv upd
  by_cases e1 : j = v * 2 + 1
  · rw [if_pos e1, if_neg (by omega), if_pos (by omega)]; rfl
  · rw [if_neg e1]
    by_cases e2 : j = v * 2
    · rw [if_pos e2, if_pos (by omega), if_pos (by omega)]; rfl
    · rw [if_neg e2, if_neg (show ¬ j / 2 = v by omega)]

theorem Blk.setCells {g n : Nat} {t : TypeId} : ∀ (vs : List Value) (o : Nat) (w : World) (V : Nat → Value), Blk w g t n V → o + vs.length ≤ n → Blk (w.setCells g o vs) g t n (fun j => if o ≤ j ∧ j < o + vs.length then vs.getD (j - o) undef else V j) := by
  intro vs
  induction vs with
  | nil =>
    intro o w V h _
    have : (fun j => if o ≤ j ∧ j < o + ([] : List Value).length then ([] : List Value).getD (j - o) undef else V j) = V := by
      funext j
      rw [if_neg (by rw [List.length_nil]; omega)]
    rw [this]
    exact h
  | cons v vs ih =>
    intro o w V h ho
    rw [List.length_cons] at ho
    have h1 : Blk (w.setCell ⟨g, o, none⟩ v) g t n (fun j => if j = o then v else V j) := h.set v (by omega) (fun j _ => rfl)
    have h2 := ih (o + 1) _ _ h1 (by omega)
    have e : (fun j => if o + 1 ≤ j ∧ j < o + 1 + vs.length then vs.getD (j - (o + 1)) undef else if j = o then v else V j) = (fun j => if o ≤ j ∧ j < o + (v :: vs).length then (v :: vs).getD (j - o) undef else V j) := by
      funext j
      rw [List.length_cons]
      by_cases e1 : j = o
      · subst e1
        rw [if_neg (by omega), if_pos rfl, if_pos (by omega), Nat.sub_self]; rfl
      · by_cases e2 : o + 1 ≤ j ∧ j < o + 1 + vs.length
        · rw [if_pos e2, if_pos (by omega), show j - o = (j - (o + 1)) + 1 by omega]; rfl
        · rw [if_neg e2, if_neg e1, if_neg (by omega)]
    rw [← e]
    exact h2
theorem below_setCells {B g : Nat} (hg : B ≤ g) : ∀ (vs : List Value) (o : Nat) (w : World), Below B w (w.setCells g o vs)
  | [], o, w => Below.refl _ _
  | v :: r, o, w => by
    rw [World.setCells]
    exact ((Below.refl B w).setCell (p := ⟨g, o, none⟩) hg v).trans (below_setCells hg r (o + 1) _)
theorem info_len : (Try.prog.info? 55).map (fun i => (i.zero, i.size, i.bytes)) = some (some (.agg #[.int .i64 0, .int .i64 0]), 2, 16) := by kernel_rfl

/-- The cells of a row whose first k lengths are without a way. -/
def rv (k j : Nat) : Value := if j < k * 2 then lv (fun _ => none) j else .int .i64 0
theorem rv_all (N j : Nat) (h : j < N * 2) : rv N j = lv (fun _ => none) j := if_pos h
theorem Blk.same {w : World} {g n : Nat} {t : TypeId} {V V' : Nat → Value} (h : Blk w g t n V) (e : ∀ j, j < n → V' j = V j) : Blk w g t n V' := by
  obtain ⟨cur, h1, h2, h3⟩ := h
  exact ⟨cur, h1, h2, fun j hj => by rw [e j hj]; exact h3 j hj⟩
theorem make_lens (n : Nat) (hn : n ≤ 4096) (w : World) : (Instr.makeSlice 50 (.int .i64 (n : Int)) (.int .i64 (n : Int))).run Try.prog w = .ok (.slice (some ⟨w.heap.size, 0, none⟩) n n) (w.alloc (.cells (madeCells #[.int .i64 0, .int .i64 0] (n * 2)) 55)) := by
  obtain ⟨i, hi, hz0, hz1, hz2⟩ := info_parts info_len
  have h := run_make w 50 55 i (.agg #[.int .i64 0, .int .i64 0]) Try.underlying50 hi hz0 .i64 .i64 (n : Int) (n : Int) (by omega) (by omega) (by rw [hz2]; omega) (by omega)
  rw [hz1] at h
  have e : (Value.agg #[.int .i64 0, .int .i64 0]).cells = #[.int .i64 0, .int .i64 0] := rfl
  rw [e] at h
  simpa using h
theorem Blk.madeL (w : World) (n : Nat) (t : TypeId) : Blk (w.alloc (.cells (madeCells #[.int .i64 0, .int .i64 0] (n * 2)) t)) w.heap.size t (n * 2) (rv 0) := by
  refine ⟨_, heap_alloc_new w _, size_madeCells _ _, fun j hj => ?_⟩
  unfold madeCells rv
  rw [if_neg (by omega)]
  simp only [Array.getElem?_map, Array.getElem?_range, hj, if_true, Option.map_some]
  congr 1
  rcases Nat.mod_two_eq_zero_or_one j with c | c <;> simp [c]
/-- copy within a row of lengths: so many of the first k behind the first k. -/
theorem run_copy_len (w : World) (ty : TypeId) (g k m N dLen sLen dCap sCap : Nat) (A : Option Addr) (a : Nat) (hA : A = some ⟨a, 0, none⟩) (hm : Nat.min sLen dLen = m) (hm0 : 0 < m) (hkm : k + m ≤ N)
    (hsrc : ∀ j, j < m * 2 → w.cell? ⟨a, j, none⟩ = some (lv (fun _ => none) j)) (h : Blk w g 55 (N * 2) (rv k)) :
    (Builtin.copy_ #[50, 50] ty #[.slice (some ⟨g, k * 2, none⟩) dLen dCap, .slice A sLen sCap]).run Try.prog w = .ok (goInt m) (w.setCells g (k * 2) ((List.range (m * 2)).map (lv fun _ => none))) := by
  subst hA
  obtain ⟨i, hi, _, hz1, _⟩ := info_parts info_len
  have hl : ((List.range (m * 2)).map (lv fun _ => none)).length = m * 2 := by simp
  have hld := run_loadCells_list (P := Try.prog) w ⟨a, 0, none⟩ ((List.range (m * 2)).map (lv fun _ => none)) (fun j v hj => by
    have hlt : j < m * 2 := by
      have := (List.getElem?_eq_some_iff.1 hj).1
      rwa [hl] at this
    rw [Addr.add_lit, Nat.zero_add, hsrc j hlt]
    simp [hlt] at hj
    rw [hj])
  rw [hl] at hld
  have hone : ∀ v ∈ (List.range (m * 2)).map (lv fun _ => none), v.oneCell' = true := fun v hv => by
    obtain ⟨j, _, rfl⟩ := List.mem_map.1 hv
    unfold lv; split <;> rfl
  have hst := run_storeCells_cells (P := Try.prog) g (k * 2) ((List.range (m * 2)).map (lv fun _ => none)) 0 w (fun j hj => by rw [hl] at hj; rw [Nat.add_zero, h.cell (by omega)]; rfl) (fun j hj => h.frozen _) hone
  rw [Nat.add_zero] at hst
  have e : min sLen dLen = m := hm
  have hmd : dLen.min sLen = m := by rw [← hm]; exact Nat.min_comm _ _
  simp [Builtin.copy_, run_underlying Try.underlying50, Builtin.lenOf, Builtin.firstCells, sizeOf, typeInfo, hi, hz1, hld, hst, e]
theorem Blk.copyL {w : World} {g k m N : Nat} (h : Blk w g 55 (N * 2) (rv k)) (hk : m ≤ k ∨ k = 0) (hkm : k + m ≤ N) : Blk (w.setCells g (k * 2) ((List.range (m * 2)).map (lv fun _ => none))) g 55 (N * 2) (rv (k + m)) := by
  refine (Blk.setCells _ (k * 2) w _ h (by simp; omega)).same fun j hj => ?_
  simp only [List.length_map, List.length_range]
  unfold rv
  by_cases e1 : k * 2 ≤ j ∧ j < k * 2 + m * 2
  · rw [if_pos e1, if_pos (by omega)]
    have hlt : j - k * 2 < m * 2 := by omega
    simp [hlt]
    unfold lv
    by_cases e2 : j % 2 = 0
    · rw [if_pos e2, if_pos (by omega)]
    · rw [if_neg e2, if_neg (by omega)]
  · rw [if_neg e1]
    by_cases e2 : j < k * 2
    · rw [if_pos e2, if_pos (by omega)]
    · rw [if_neg e2, if_neg (by omega)]
theorem step_copy_len {ops : Array Oper} {o : Oper} {a : Act} {w : World} {K : Act → World → Prop} {Q : Exit → Act → World → Prop} {E : Prop} (hgd : o.guard = none) (d s : Operand)
    (ho : o.op = .call { callee := .builtin .copy, args := #[d, s], argTypes := #[50, 50] })
    (g k m N dLen sLen dCap sCap : Nat) (ab : Nat) (hd : a.eval d = .slice (some ⟨g, k * 2, none⟩) dLen dCap) (hs : a.eval s = .slice (some ⟨ab, 0, none⟩) sLen sCap) (hm : Nat.min sLen dLen = m) (hm0 : 0 < m) (hkm : k + m ≤ N) (hk : m ≤ k ∨ k = 0)
    (hsrc : ∀ j, j < m * 2 → w.cell? ⟨ab, j, none⟩ = some (lv (fun _ => none) j)) (h : Blk w g 55 (N * 2) (rv k))
    (hK : ∀ w', Hid (Blk w' g 55 (N * 2) (rv (k + m))) → Hid (Below g w w') → K (a.put o.dst (goInt m)) w') :
    if Region.wanted o (yielded ops a.tmps) = true then Oper.wp Try.prog o a w K Q else E := by
  have hw : Region.wanted o (yielded ops a.tmps) = true := by simp [Region.wanted, hgd]
  rw [if_pos hw]
  have hrun := run_copy_len w o.type g k m N dLen sLen dCap sCap _ ab rfl hm hm0 hkm hsrc h
  unfold Oper.wp execOp
  simp only [ho, resolve, invoke, builtin, Sem.run_bind, Sem.run_pure, Result.andThen_ok, List.map_toArray, List.map_cons, List.map_nil, hd, hs, hrun]
  exact hK _ (h.copyL hk hkm) (below_setCells (Nat.le_refl _) _ _ _)
theorem wpList_copy_len {w : World} {ops : Array Oper} {rest : List Oper} {o : Oper} {a : Act} {Q : Exit → Act → World → Prop} (hgd : o.guard = none) (d s : Operand)
    (ho : o.op = .call { callee := .builtin .copy, args := #[d, s], argTypes := #[50, 50] })
    (g k m N dLen sLen dCap sCap : Nat) (ab off : Nat) (hoff : off = k * 2) (hd : a.eval d = .slice (some ⟨g, off, none⟩) dLen dCap) (hs : a.eval s = .slice (some ⟨ab, 0, none⟩) sLen sCap) (hm : Nat.min sLen dLen = m) (hm0 : 0 < m) (hkm : k + m ≤ N) (hk : m ≤ k ∨ k = 0)
    (hsrc : ∀ j, j < m * 2 → w.cell? ⟨ab, j, none⟩ = some (lv (fun _ => none) j)) (h : Blk w g 55 (N * 2) (rv k))
    (hK : ∀ w', Hid (Blk w' g 55 (N * 2) (rv (k + m))) → Hid (Below g w w') → wpList Try.prog ops Q rest (a.put o.dst (goInt m)) w') : wpList Try.prog ops Q (o :: rest) a w := by
  subst hoff
  refine wpList_plain hgd fun K hK2 => ?_
  have hrun := run_copy_len w o.type g k m N dLen sLen dCap sCap _ ab rfl hm hm0 hkm hsrc h
  unfold Oper.wp execOp
  simp only [ho, resolve, invoke, builtin, Sem.run_bind, Sem.run_pure, Result.andThen_ok, List.map_toArray, List.map_cons, List.map_nil, hd, hs, hrun]
  exact hK2 _ _ (hK _ (h.copyL hk hkm) (below_setCells (Nat.le_refl _) _ _ _))

theorem zero_two : 0 = 0 * 2 := rfl
theorem mul64_one (N : Nat) (hN : N ≤ 64) (w : World) : Calls Try.prog 46 #[.int .u64 1, .int .u64 (N : Int)] w fun e w' => e = .returned (.tuple #[.int .u64 0, .int .u64 (N : Int)]) ∧ w = w' := by
  have b1 : bits .and .u64 1 4294967295 = 1 := by decide
  have b0 : bits .and .u64 0 4294967295 = 0 := by decide
  have bN : bits .and .u64 (N : Int) 4294967295 = (N : Int) := by
    have : ∀ M : Fin 65, bits .and .u64 (M.1 : Int) 4294967295 = (M.1 : Int) := by decide
    exact this ⟨N, by omega⟩
  have dN : (N : Int) / 4294967296 = 0 := by omega
  have wN : IntKind.u64.wrap (N : Int) = (N : Int) := by rw [IntKind.wrap_u64]; omega
  go_enter Try.func46, Try.ntmps46
  go_wp2_with fail
  go_ret2
  exact ⟨rfl, rfl⟩
theorem mul_one (N : Nat) (hN : N ≤ 64) (w : World) : Calls Try.prog 41 #[.int .u64 1, .int .u64 (N : Int)] w fun e w' => e = .returned (.tuple #[.int .u64 0, .int .u64 (N : Int)]) ∧ w = w' := by
  have HM := Lib.hid (fun w => mul64_one N hN w)
  go_enter Try.func41, Try.ntmps41
  go_wp2_with fail
  refine (HM.out _).mono ?_
  rintro e w' ⟨rfl, rfl⟩
  go_wp2_with fail
  go_ret2
  exact ⟨rfl, rfl⟩

set_option linter.unusedSimpArgs false in
set_option maxRecDepth 100000 in
set_option maxHeartbeats 600000 in
theorem repeat_any (N : Nat) (h1 : 1 ≤ N) (hN : N ≤ 64) (blk c : Nat) (w : World) (c0 : w.cell? ⟨blk, 0, none⟩ = some (.int .i64 (-1))) (c1 : w.cell? ⟨blk, 1, none⟩ = some (.int .i64 0)) :
    Calls Try.prog 32 #[.slice (some ⟨blk, 0, none⟩) 1 c, .int .i64 (N : Int)] w fun e w' => ∃ g, e = .returned (.slice (some ⟨g, 0, none⟩) N N) ∧ LenR w' g N (fun _ => none) ∧ w.heap.size ≤ g ∧ Below w.heap.size w w' := by
  have HM := Lib.hid (fun w => mul_one N hN w)
  have hmk := make_lens N (by omega)
  have n0 : ¬ (N : Int) < 0 := by omega
  have nm : ¬ (9223372036854775807 : Int) < (N : Int) := by omega
  have HMIN : Hid (Nat.min 1 N = 1) := Lib.hid (Nat.min_eq_left h1)
  have HKM : Hid (0 + 1 ≤ N) := Lib.hid (by omega)
  have wN : IntKind.u64.wrap (N : Int) = (N : Int) := by rw [IntKind.wrap_u64]; omega
  have HC := Lib.hid (And.intro c0 c1)
  have hbl : blk < w.heap.size := World.block_lt_of_cell? _ _ c0
  clear c0 c1
  have HL0 : Hid (Blk (w.alloc (.cells (madeCells #[.int .i64 0, .int .i64 0] (N * 2)) 55)) w.heap.size 55 (N * 2) (rv 0)) := Lib.hid (Blk.madeL w N _)
  have HB0 : Hid (Below w.heap.size w (w.alloc (.cells (madeCells #[.int .i64 0, .int .i64 0] (N * 2)) 55))) := Lib.hid (below_alloc _ _)
  have HS : Hid (∀ j, j < 1 * 2 → (w.alloc (.cells (madeCells #[.int .i64 0, .int .i64 0] (N * 2)) 55)).cell? ⟨blk, j, none⟩ = some (lv (fun _ => none) j)) := Lib.hid (fun j hj => by
    rw [HB0.out.cell (p := ⟨blk, j, none⟩) hbl]
    rcases (show j = 0 ∨ j = 1 by omega) with rfl | rfl
    · exact HC.out.1
    · exact HC.out.2)
  go_enter Try.func32, Try.ntmps32
  go_wp2_with fail
  refine (HM.out _).mono ?_
  rintro e w' ⟨rfl, rfl⟩
  go_wp2_with (with_reducible refine wpList_copy_len rfl (.tmp 31) (.tmp 32) rfl w.heap.size 0 1 N N 1 N c blk 0 zero_two rfl rfl HMIN.out Nat.one_pos HKM.out (Or.inr rfl) HS.out HL0.out ?_)
  intro w1 hL1 hb1
  obtain ⟨g, hg⟩ : ∃ g, w.heap.size = g := ⟨_, rfl⟩
  have HB1 : Hid (Below g w w1) := Lib.hid (hg ▸ HB0.out.trans hb1.out)
  clear HL0 HB0 HS hb1 HM hmk
  rw [hg] at hL1 ⊢
  go_wp2_with fail
  go_loopw [8] (fun i wr => ∃ k : Nat, 1 ≤ k ∧ k ≤ N ∧ i = .int .i64 (k : Int) ∧ Hid (Blk wr g 55 (N * 2) (rv k)) ∧ Hid (Below g w wr)) (fun i _ => N - (intOf i).toNat)
  case atStart => exact ⟨1, by omega, by omega, rfl, hL1, HB1⟩
  case round =>
    obtain ⟨k, hk1, hk, rfl, HL, HBW⟩ := hrel
    by_cases hlt : k < N
    · have hkz : (k : Int) < (N : Int) := by omega
      have hkz2 : (k : Int) ≤ (N : Int) := by omega
      have hkz0 : (0 : Int) ≤ (k : Int) := by omega
      obtain ⟨m, hm⟩ : ∃ m, Nat.min k (N - k) = m := ⟨_, rfl⟩
      have hm2 : m = min k (N - k) := hm.symm
      have HSR : Hid (∀ j, j < m * 2 → wr.drew.cell? ⟨g, j, none⟩ = some (lv (fun _ => none) j)) := Lib.hid (fun j hj => by
        have := HL.out.cell (j := j) (by omega)
        rw [show wr.drew.cell? ⟨g, j, none⟩ = wr.cell? ⟨g, j, none⟩ from rfl, this]
        unfold rv; rw [if_pos (by omega)])
      have HLD : Hid (Blk wr.drew g 55 (N * 2) (rv k)) := HL
      have hkN : ¬ k = N := by omega
      have hNk : ¬ N = k := by omega
      have hmp := Lib.hid (show 0 < m ∧ k + m ≤ N ∧ m ≤ k by omega)
      have HM := Lib.hid hm
      have hkw : IntKind.i64.wrap ((k : Int) + (m : Int)) = (k : Int) + (m : Int) := by rw [IntKind.wrap_i64]; omega
      clear hm hm2
      go_wp2_with fail
      have hT : (fun _ : World => True) wr.drew := trivial
      refine wp_region_lastL (S := (fun _ => True)) (by kernel_rfl) (by dsimp only [List.dropLast]) (by simp only [List.getLast?_cons_cons, List.getLast?_singleton]; rfl) (by kernel_rfl) ?_ (fun hHeld => ?_)
      · trivial
      refine wpAnyH_take (i := 0) (v := ?v0) rfl (by kernel_rfl) (by kernel_rfl) (by kernel_rfl) (fun _ _ _ h => h) (Or.inl ⟨by rfl, ?h0⟩) (by assumption) ?r0
      rotate_left
      · intro w hSw; (try dsimp only at hSw); go_simp; (try with_reducible rfl)
      try simp only [Act.put, List.getElem_toArray, List.getElem_cons_zero, List.getElem_cons_succ, List.setIfInBounds_toArray, List.set_cons_zero, List.set_cons_succ]
      refine wpAnyH_take (i := 1) (v := ?v1) rfl (by kernel_rfl) (by kernel_rfl) (by kernel_rfl) (fun _ _ _ h => h) (Or.inl ⟨by rfl, ?h1⟩) (by assumption) ?r1
      rotate_left
      · intro w hSw; (try dsimp only at hSw); go_simp; (try with_reducible rfl)
      try simp only [Act.put, List.getElem_toArray, List.getElem_cons_zero, List.getElem_cons_succ, List.setIfInBounds_toArray, List.set_cons_zero, List.set_cons_succ]
      refine wpAnyH_take (i := 2) (v := ?v2) rfl (by kernel_rfl) (by kernel_rfl) (by kernel_rfl) (fun _ _ _ h => h) (Or.inl ⟨by rfl, ?h2⟩) (by assumption) ?r2
      rotate_left
      · intro w hSw; (try dsimp only at hSw); go_simp; (try with_reducible rfl)
      try simp only [Act.put, List.getElem_toArray, List.getElem_cons_zero, List.getElem_cons_succ, List.setIfInBounds_toArray, List.set_cons_zero, List.set_cons_succ]
      refine wpAnyH_take (i := 3) (v := ?v3) rfl (by kernel_rfl) (by kernel_rfl) (by kernel_rfl) (fun _ _ _ h => h) (Or.inl ⟨by rfl, ?h3⟩) (by assumption) ?r3
      rotate_left
      · intro w hSw; (try dsimp only at hSw); go_simp; (try with_reducible rfl)
      try simp only [Act.put, List.getElem_toArray, List.getElem_cons_zero, List.getElem_cons_succ, List.setIfInBounds_toArray, List.set_cons_zero, List.set_cons_succ]
      refine wpAnyH_take (i := 4) (v := ?v4) rfl (by kernel_rfl) (by kernel_rfl) (by kernel_rfl) (fun _ _ _ h => h) (Or.inl ⟨by rfl, ?h4⟩) (by assumption) ?r4
      rotate_left
      · intro w hSw; (try dsimp only at hSw); go_simp; (try with_reducible rfl)
      try simp only [Act.put, List.getElem_toArray, List.getElem_cons_zero, List.getElem_cons_succ, List.setIfInBounds_toArray, List.set_cons_zero, List.set_cons_succ]
      refine wpAnyH_take (i := 5) (v := ?v5) rfl (by kernel_rfl) (by kernel_rfl) (by kernel_rfl) (fun _ _ _ h => h) (Or.inl ⟨by rfl, ?h5⟩) (by assumption) ?r5
      rotate_left
      · intro w hSw; (try dsimp only at hSw); go_simp; (try with_reducible rfl)
      try simp only [Act.put, List.getElem_toArray, List.getElem_cons_zero, List.getElem_cons_succ, List.setIfInBounds_toArray, List.set_cons_zero, List.set_cons_succ]
      refine wpAnyH_take (i := 6) (v := ?v6) rfl (by kernel_rfl) (by kernel_rfl) (by kernel_rfl) (fun _ _ _ h => h) (Or.inl ⟨by rfl, ?h6⟩) (by assumption) ?r6
      rotate_left
      · intro w hSw; (try dsimp only at hSw); go_simp; (try with_reducible rfl)
      try simp only [Act.put, List.getElem_toArray, List.getElem_cons_zero, List.getElem_cons_succ, List.setIfInBounds_toArray, List.set_cons_zero, List.set_cons_succ]
      refine wpAnyH_ready (rs := [7]) (by kernel_rfl) (by simp) ?_
      refine AllReadyH.cons rfl (fun K hK => ?_) AllReadyH.nil
      (refine step_copy_len rfl (.tmp 41) (.tmp 44) rfl g k m N (N - k) k (N - k) N g rfl rfl HM.out hmp.out.1 hmp.out.2.1 (Or.inl hmp.out.2.2) HSR.out HLD.out ?_; intro w4 hL4 hB4)
      refine hK.out _ _ ?_ (fun hHeld => ?_)
      · trivial
      clear hK K
      try simp only [Act.put, List.getElem_toArray, List.getElem_cons_zero, List.getElem_cons_succ, List.setIfInBounds_toArray, List.set_cons_zero, List.set_cons_succ]
      refine wpAnyH_take (i := 8) (v := ?v8) rfl (by kernel_rfl) (by kernel_rfl) (by kernel_rfl) (fun _ _ _ h => h) (Or.inl ⟨by rfl, ?h8⟩) (by assumption) ?r8
      rotate_left
      · intro w hSw; (try dsimp only at hSw); go_simp; (try with_reducible rfl)
      try simp only [Act.put, List.getElem_toArray, List.getElem_cons_zero, List.getElem_cons_succ, List.setIfInBounds_toArray, List.set_cons_zero, List.set_cons_succ]
      refine wpAnyH_done (by kernel_rfl) ?_ _
      simp only [LastQ]
      go_simp
      have HB5 : Hid (Below g w w4) := Lib.hid (HBW.out.drew.trans hB4.out)
      have hmb := hmp.out
      clear hT hHeld
      go_wp2_with fail
      go_roundw
      case rel => exact ⟨k + m, by omega, by omega, by go_num, hL4, HB5⟩
      case measure => simp only [intOf]; omega
    · obtain rfl : k = N := by omega
      have hnlt : ¬ (k : Int) < (k : Int) := by omega
      go_wp2_with fail
      go_ret
      exact ⟨g, rfl, HL.out.same (fun j hj => (rv_all _ _ hj).symm), Nat.le_refl _, HBW.out⟩
end Go.Proofs.Ythomklpaafnjhaa
