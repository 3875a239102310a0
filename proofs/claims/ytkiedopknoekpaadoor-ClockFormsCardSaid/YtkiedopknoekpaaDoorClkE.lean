/-
  The contracts of the functions of package clock that make lists of windows. Condition: lists of at most 1000 windows.
-/
import Derived.Test.YtkiedopknoekpaaDoorClkD
import Derived.StillTailTactics
namespace Go.Proofs.YtkiedopknoekpaaDoor
open Go.RowKit
set_option linter.unusedVariables false

theorem info_win : (Tryd.prog.info? 23).map (fun i => (i.zero, i.size, i.bytes)) = some (some (.agg #[.int .i64 0, .int .i64 0]), 2, 16) := by kernel_rfl
theorem size_win : (Tryd.prog.info? 23).map (·.size) = some 2 := by kernel_rfl
theorem make_wins (n : Nat) (hn : n ≤ 4096) (w : World) : (Instr.makeSlice 30 (.int .i64 (n : Int)) (.int .i64 (n : Int))).run Tryd.prog w = .ok (.slice (some ⟨w.heap.size, 0, none⟩) n n) (w.alloc (.cells (madeCells #[.int .i64 0, .int .i64 0] (n * 2)) 23)) := by
  obtain ⟨i, hi, hz0, hz1, hz2⟩ := info_parts info_win
  have h := run_make w 30 23 i (.agg #[.int .i64 0, .int .i64 0]) Tryd.underlying30 hi hz0 .i64 .i64 (n : Int) (n : Int) (by omega) (by omega) (by rw [hz2]; omega) (by omega)
  rw [hz1] at h
  have e : (Value.agg #[.int .i64 0, .int .i64 0]).cells = #[.int .i64 0, .int .i64 0] := rfl
  rw [e] at h
  simpa using h

/-- What a function returns that makes a list of windows. -/
def RetWs (w0 : World) (r : List Win) (e : Ending) (w' : World) : Prop := ∃ A cap, e = .returned (.slice A r.length cap) ∧ WsR w' A r ∧ Below w0.heap.size w0 w'
/-- The state of the joining, behind k windows of s. -/
def Mid (s out : List Win) (k : Nat) : Prop := (out = [] ∧ mga (s.drop k) = mga s) ∨ ∃ o c, out = o ++ [c] ∧ o ++ mg c (s.drop k) = mga s
theorem Mid.start (s : List Win) : Mid s [] 0 := Or.inl ⟨rfl, rfl⟩
theorem Mid.skip {s out : List Win} {k : Nat} {a b : Int} (h : Mid s out k) (hk : k < s.length) (hx : s.getD k (0, 0) = (a, b)) (e : a = b) : Mid s out (k + 1) := by
  rcases h with ⟨h1, h2⟩ | ⟨o, c, h1, h2⟩
  · refine Or.inl ⟨h1, ?_⟩
    rw [dropW_cons s k hk, hx, mga, if_pos (show (a, b).1 = (a, b).2 from e)] at h2
    exact h2
  · refine Or.inr ⟨o, c, h1, ?_⟩
    rw [dropW_cons s k hk, hx, mg, if_pos (show (a, b).1 = (a, b).2 from e)] at h2
    exact h2
theorem Mid.first {s : List Win} {k : Nat} {a b : Int} (h : Mid s [] k) (hk : k < s.length) (hx : s.getD k (0, 0) = (a, b)) (e : ¬ a = b) : Mid s ([] ++ [(a, b)]) (k + 1) := by
  rcases h with ⟨h1, h2⟩ | ⟨o, c, h1, h2⟩
  · refine Or.inr ⟨[], (a, b), rfl, ?_⟩
    rw [dropW_cons s k hk, hx, mga, if_neg (show ¬ (a, b).1 = (a, b).2 from e)] at h2
    exact h2
  · simp at h1
theorem Mid.join {s o : List Win} {k : Nat} {a b x y : Int} (h : Mid s (o ++ [(x, y)]) k) (hk : k < s.length) (hx : s.getD k (0, 0) = (a, b)) (e : ¬ a = b) (j : a ≤ y) : Mid s (o ++ [(x, max y b)]) (k + 1) := by
  rcases h with ⟨h1, h2⟩ | ⟨o', c, h1, h2⟩
  · simp at h1
  · obtain ⟨rfl, h3⟩ := List.append_inj' h1 rfl
    injection h3 with h3
    subst h3
    refine Or.inr ⟨o, _, rfl, ?_⟩
    rw [dropW_cons s k hk, hx, mg, if_neg (show ¬ (a, b).1 = (a, b).2 from e), if_pos (show (a, b).1 ≤ (x, y).2 from j)] at h2
    exact h2
theorem Mid.apart {s o : List Win} {k : Nat} {a b x y : Int} (h : Mid s (o ++ [(x, y)]) k) (hk : k < s.length) (hx : s.getD k (0, 0) = (a, b)) (e : ¬ a = b) (j : ¬ a ≤ y) : Mid s (o ++ [(x, y), (a, b)]) (k + 1) := by
  rcases h with ⟨h1, h2⟩ | ⟨o', c, h1, h2⟩
  · simp at h1
  · obtain ⟨rfl, h3⟩ := List.append_inj' h1 rfl
    injection h3 with h3
    subst h3
    refine Or.inr ⟨o ++ [(x, y)], (a, b), by simp, ?_⟩
    rw [dropW_cons s k hk, hx, mg, if_neg (show ¬ (a, b).1 = (a, b).2 from e), if_neg (show ¬ (a, b).1 ≤ (x, y).2 from j)] at h2
    rw [List.append_assoc]
    exact h2
theorem Mid.done {s out : List Win} {k : Nat} (h : Mid s out k) (hk : s.length ≤ k) : out = mga s := by
  rcases h with ⟨h1, h2⟩ | ⟨o, c, h1, h2⟩
  · rw [List.drop_eq_nil_of_le hk] at h2
    rw [h1, ← h2]; rfl
  · rw [List.drop_eq_nil_of_le hk] at h2
    rw [h1, ← h2]; rfl

/-- A row of windows that the call owns. -/
def OwnW (w : World) (base : Nat) (v : Value) (l : List Win) : Prop := w.ownsRow base 23 2 v l.length (flatW l)
theorem OwnW.nil (w : World) (base : Nat) : OwnW w base (.slice none 0 0) [] := World.ownsRow_nil _ _ _ _
theorem OwnW.form {w : World} {base : Nat} {v : Value} {l : List Win} (h : OwnW w base v l) (h1 : 1 ≤ l.length) : ∃ q cap, v = .slice (some ⟨q, 0, none⟩) l.length cap ∧ base ≤ q ∧ q < w.heap.size ∧ RowW w q l ∧ ∀ j, w.frozen? ⟨q, j, none⟩ = false := by
  have h0 : w.ownsRow base 23 2 v l.length (flatW l) := h
  obtain ⟨_, h⟩ := h
  rcases h with ⟨rfl, h2⟩ | ⟨g, cap, cur, rfl, hb, hg, hn, hm, hs, ht⟩
  · omega
  · refine ⟨g, cap, rfl, hb, ?_, fun k hk => ?_, h0.frozenAt⟩
    · rcases Nat.lt_or_ge g w.heap.size with h | h
      · exact h
      · rw [Array.getElem?_eq_none h] at hg; cases hg
    · obtain ⟨g0, g1⟩ := flatW_get l k hk
      rw [h0.cellAt (k * 2) (by omega), h0.cellAt (k * 2 + 1) (by omega), g0, g1]
      exact ⟨rfl, rfl⟩
theorem OwnW.at_ {w : World} {base q n cap : Nat} {l : List Win} (h : OwnW w base (.slice (some ⟨q, 0, none⟩) n cap) l) (h1 : 1 ≤ l.length) : RowW w q l ∧ (∀ j, w.frozen? ⟨q, j, none⟩ = false) ∧ q < w.heap.size := by
  obtain ⟨q', cap', e, _, hl, hr, hf⟩ := h.form h1
  simp only [Value.slice.injEq, Option.some.injEq, Addr.mk.injEq, and_true] at e
  obtain ⟨rfl, _, _⟩ := e
  exact ⟨hr, hf, hl⟩
theorem OwnW.len {w : World} {base : Nat} {v : Value} {l : List Win} (h : OwnW w base v l) : ∃ A cap, v = .slice A l.length cap := by
  obtain ⟨_, h⟩ := h
  rcases h with ⟨rfl, h2⟩ | ⟨g, cap, cur, rfl, _⟩
  · exact ⟨none, 0, by rw [h2]⟩
  · exact ⟨_, _, rfl⟩
theorem OwnW.ge {w : World} {base : Nat} {v : Value} {l : List Win} (h : OwnW w base v l) : ∀ k, v.ownBlock = some k → base ≤ k := fun k hk => (World.ownsRow.lt h k hk).1
theorem OwnW.alloc {w : World} {base : Nat} {v : Value} {l : List Win} (h : OwnW w base v l) (o : Obj) : OwnW (w.alloc o) base v l := World.ownsRow.alloc h o
theorem OwnW.far {w : World} {base : Nat} {v : Value} {l : List Win} (h : OwnW w base v l) (p : Addr) (u : Value) (hp : v.ownBlock ≠ some p.block) : OwnW (w.setCell p u) base v l :=
  World.ownsRow.kept (row := some p.block) h ⟨rfl, rfl, rfl, by simp, fun k hk hne => heap_setCell_other w p k u (fun e => hne (by rw [e]))⟩ (Or.inr hp)
theorem OwnW.new {w : World} {base : Nat} {v : Value} {l : List Win} (h : OwnW w base v l) (o : Obj) (i : Nat) (u : Value) : OwnW ((w.alloc o).setCell ⟨w.heap.size, i, none⟩ u) base v l := by
  refine (h.alloc o).far _ _ fun e => ?_
  have := (World.ownsRow.lt h _ e).2
  exact absurd this (Nat.lt_irrefl _)
theorem OwnW.ret {w w0 : World} {v : Value} {l : List Win} {base : Nat} (h : OwnW w base v l) (hb : Below w0.heap.size w0 w) : RetWs w0 l (.returned v) w := by
  by_cases h1 : 1 ≤ l.length
  · obtain ⟨q, cap, rfl, hq, hl, hr, _⟩ := h.form h1
    exact ⟨_, cap, rfl, fun _ => ⟨q, 0, rfl, hl, fun k hk => by rw [Nat.zero_add]; exact hr k hk⟩, hb⟩
  · have h0 : l.length = 0 := by omega
    obtain ⟨_, h⟩ := h
    rcases h with ⟨rfl, h2⟩ | ⟨g, cap, cur, rfl, _⟩
    · rw [← h2] at *
      exact ⟨none, 0, by rw [h0], fun hh => absurd hh (by omega), hb⟩
    · exact ⟨_, cap, rfl, fun hh => absurd hh (by omega), hb⟩
theorem wpList_append_win {w : World} {ops : Array Oper} {rest : List Oper} {o : Oper} {a : Act} {Q : Exit → Act → World → Prop} (hgd : o.guard = none) (s x : Operand)
    (ho : o.op = .call { callee := .builtin .append, args := #[s, x], argTypes := #[30, 30] })
    (base : Nat) (v : Value) (out : List Win) (hs : a.eval s = v) (hown : OwnW w base v out) (blk c : Nat) (p q : Int) (hx : a.eval x = .slice (some ⟨blk, 0, none⟩) 1 c)
    (h0 : w.cell? ⟨blk, 0, none⟩ = some (.int .i64 p)) (h1 : w.cell? ⟨blk, 1, none⟩ = some (.int .i64 q)) (hlen : out.length ≤ 100000) (w0 : World) (hB : Below base w0 w) (hbase : base ≤ w.heap.size)
    (h : ∀ v' w', Hid (OwnW w' base v' (out ++ [(p, q)])) → Below base w0 w' → wpList Tryd.prog ops Q rest (a.put o.dst v') w') : wpList Tryd.prog ops Q (o :: rest) a w := by
  obtain ⟨ii, hii, hz0, hz1, hz2⟩ := info_parts info_win
  refine wpList_append_own_at w hgd s x 30 ho base 23 ii (.agg #[.int .i64 0, .int .i64 0]) 2 16 Tryd.underlying30 hii hz0 hz1 hz2 rfl (by decide) v out.length (flatW out) hs hown ⟨blk, 0, none⟩ 1 c [.int .i64 p, .int .i64 q] hx rfl
    (fun j u hj => ?_) (fun u hu => ?_) (by unfold maxLen; omega) (by omega) hbase (fun v' w' ho' hg _ _ => h v' w' ?_ (hB.grown hg hbase hown.ge))
  · match j, hj with
    | 0, hj => simp at hj; subst hj; exact h0
    | 1, hj => simp at hj; subst hj; exact h1
  · simp at hu
    rcases hu with rfl | rfl <;> rfl
  · show w'.ownsRow base 23 2 v' (out ++ [(p, q)]).length (flatW (out ++ [(p, q)]))
    rw [flatW_append, List.length_append]
    exact ho'

theorem flatW_set (o : List Win) (x y u : Int) : (flatW (o ++ [(x, y)])).set (o.length * 2 + 1) (.int .i64 u) = flatW (o ++ [(x, u)]) := by
  rw [flatW_append, flatW_append, List.set_append_right _ _ (by rw [flatW_length]; omega), flatW_length]
  simp [flatW]
theorem OwnW.last {w : World} {base : Nat} {q n cap : Nat} {o : List Win} {x y : Int} (h : OwnW w base (.slice (some ⟨q, 0, none⟩) n cap) (o ++ [(x, y)])) (u : Int) :
    OwnW (w.setCell ⟨q, o.length * 2 + 1, none⟩ (.int .i64 u)) base (.slice (some ⟨q, 0, none⟩) n cap) (o ++ [(x, u)]) := by
  obtain ⟨q', cap', e, _⟩ := h.form (by simp)
  simp only [Value.slice.injEq, Option.some.injEq, Addr.mk.injEq, and_true] at e
  obtain ⟨rfl, rfl, rfl⟩ := e
  have h2 := (World.ownsRow.stored (show w.ownsRow base 23 2 (.slice (some ⟨q, 0, none⟩) (o ++ [(x, y)]).length cap) (o ++ [(x, y)]).length (flatW (o ++ [(x, y)])) from h) (o.length * 2 + 1) (.int .i64 u)).1
  rw [flatW_set] at h2
  unfold OwnW
  have e : (o ++ [(x, y)]).length = (o ++ [(x, u)]).length := by simp
  rw [e] at h2 ⊢
  exact h2

set_option maxRecDepth 100000 in
set_option maxHeartbeats 2000000 in
theorem normal_any (l : List Win) (A : Option Addr) (cap : Nat) (w : World) (hl : l.length ≤ 1000) (hv : allB l = true) (hwd : WideW l) (h : WsR w A l) :
    Calls Tryd.prog 40 #[.slice A l.length cap] w (RetWs w (nf l)) := by
  obtain ⟨ii, hii, hz0, hz1, hz2⟩ := info_parts info_win
  have hsort := fun g cap W => sort_any g cap l W hl
  obtain ⟨n, hn⟩ : ∃ n, l.length = n := ⟨_, rfl⟩
  have HN := Lib.hid hn
  have H := Lib.hid h
  have HV := Lib.hid hv
  have HW := Lib.hid hwd
  rw [hn] at hl hsort ⊢
  have hmk := make_wins n (by omega)
  have HS := Lib.hid hsort
  clear hn h hv hwd hsort
  go_enter Tryd.func40, Tryd.ntmps40
  go_wp2_with (with_reducible refine wpList_copy_wins rfl (.tmp 11) (.tmp 12) 30 30 rfl 23 Tryd.underlying30 size_win w.heap.size n n cap A rfl rfl l HN.out ?ha ?hc ?hf ?hg w.heap.size w ?hb (Nat.le_refl _) ?_)
  case ha => exact H.out.below ((Below.refl _ _).alloc (Nat.le_refl _) _)
  case hc => intro j hj; rw [World.cell?_alloc_new]; simp [size_madeCells, hj]
  case hf => intro j hj; exact World.frozen?_alloc_new _ _ _ _
  case hg => simp
  case hb => exact (Below.refl _ _).alloc (Nat.le_refl _) _
  intro w1 HH hb1 hg1
  go_wp2_with fail
  refine (HS.out _ _ _ HH.out hg1 w.heap.size (Nat.le_refl _)).mono ?_
  rintro e w2 ⟨rfl, s, hs1, hs2, hs3, hs4, hb2⟩
  have hb12 : Below w.heap.size w w2 := hb1.trans hb2
  have hg2 : w.heap.size < w2.heap.size := Nat.lt_of_lt_of_le hg1 hb2.size
  have hok := allB_mem HV.out
  have HSF : Hid (mga s = nf l) := nf_of_sorted HV.out hs3 hs2
  have HSX : Hid (∀ k, k < n → okB (s.getD k (0, 0)) = true) := Lib.hid fun k hk => hok _ ((hs3 _).1 (by simp [hs1, hk]))
  have HSN := Lib.hid hs1
  have HSR := Lib.hid hs4
  clear HH hs1 hs2 hs3 hs4 hok hb1 hb2 HS hmk HV HW H HN hg1
  go_wp2_with fail
  go_loopw [4, 18] (fun vo vi wr => ∃ (k : Nat) (out : List Win), vi = .int .i64 (k : Int) ∧ k ≤ n ∧ out.length ≤ k ∧ Hid (Mid s out k) ∧ Hid (OwnW wr w2.heap.size vo out) ∧ Below w2.heap.size w2 wr) (fun _ vi _ => n - (intOf vi).toNat)
  case atStart => exact ⟨0, [], rfl, by omega, Nat.le_refl _, Lib.hid (Mid.start s), Lib.hid (OwnW.nil _ _), Below.refl _ _⟩
  case round =>
    obtain ⟨k, out, rfl, hk, hok, hmid, hown, hB⟩ := hrel
    by_cases hlt : k < n
    · have hltz : (k : Int) < (n : Int) := by omega
      have hks : k < s.length := by rw [HSN.out]; exact hlt
      obtain ⟨c0, c1⟩ := (HSR.out.below hB hg2) k hks
      have hx0 := okB_true (HSX.out k hlt)
      have HKS := Lib.hid hks
      obtain ⟨a, b, hab⟩ : ∃ a b, s.getD k (0, 0) = (a, b) := ⟨_, _, rfl⟩
      rw [hab] at c0 c1 hx0
      have hx : 0 ≤ a ∧ a ≤ b ∧ b ≤ 4294944000 := hx0
      have HAB := Lib.hid hab
      have hgw : w.heap.size < wr.heap.size := Nat.lt_of_lt_of_le hg2 hB.size
      clear hks hab hx0
      by_cases hE : a = b
      · have HM2 := Lib.hid (hmid.out.skip HKS.out HAB.out hE)
        subst hE
        go_wp2_with fail
        go_roundw
        case rel => exact ⟨k + 1, out, by go_num, by omega, by omega, HM2, Lib.hid (hown.out.alloc _), hB.alloc hB.size _⟩
        case measure => simp only [intOf]; omega
      · have hEb : (a == b) = false := beq_eq_false_iff_ne.2 hE
        rcases List.eq_nil_or_concat out with rfl | ⟨o, ⟨x, y⟩, rfl⟩
        · have HM2 := Lib.hid (hmid.out.first HKS.out HAB.out hE)
          obtain ⟨Ao, co, hvo⟩ := hown.out.len
          have hvo' : u4 = .slice Ao 0 co := hvo
          subst hvo'
          clear hvo
          go_wp2_with fail
          go_quiet (fail)
          have hO : Hid (OwnW ((wr.alloc (.cells #[.int .i64 a, .int .i64 b] 23)).drewN nq) w2.heap.size (.slice Ao 0 co) []) := Lib.hid (hown.out.alloc _)
          have hB3 : Below w2.heap.size w2 ((wr.alloc (.cells #[.int .i64 a, .int .i64 b] 23)).drewN nq) := (hB.alloc hB.size _).trans ((below_drewN' _ nq).mono (by have := hB.size; simp; omega))
          have p0 : ((wr.alloc (.cells #[.int .i64 a, .int .i64 b] 23)).drewN nq).cell? ⟨wr.heap.size, 0, none⟩ = some (.int .i64 a) := by show (wr.alloc _).cell? _ = _; rw [World.cell?_alloc_new]; rfl
          have p1 : ((wr.alloc (.cells #[.int .i64 a, .int .i64 b] 23)).drewN nq).cell? ⟨wr.heap.size, 1, none⟩ = some (.int .i64 b) := by show (wr.alloc _).cell? _ = _; rw [World.cell?_alloc_new]; rfl
          generalize (wr.alloc (.cells #[.int .i64 a, .int .i64 b] 23)).drewN nq = w3 at hO hB3 p0 p1 ⊢
          clear hown hB hmid c0 c1
          go_wp2_with (at_builtin; refine wpList_append_win rfl _ _ rfl w2.heap.size _ _ rfl (hO.out.alloc _) w3.heap.size _ a b rfl ?c0 ?c1 ?c2 w2 ?c3 ?c4 ?_)
          case c0 => rw [World.cell?_alloc_new]; rfl
          case c1 => rw [World.cell?_alloc_new]; rfl
          case c2 => simp
          case c3 => exact hB3.alloc hB3.size _
          case c4 => have := hB3.size; simp; omega
          intro v4 w4 hO4 hB4
          go_wp2
          go_roundw
          case rel => exact ⟨k + 1, _, by go_num, by omega, by simp, HM2, hO4, hB4⟩
          case measure => simp only [intOf]; omega
        · rw [List.concat_eq_append] at *
          obtain ⟨q, co, hvo, hq1, hq2, hrow, hfz⟩ := hown.out.form (by simp)
          obtain ⟨m, hm⟩ : ∃ m, o.length = m := ⟨_, rfl⟩
          have hle : (o ++ [(x, y)]).length = m + 1 := by simp [hm]
          obtain ⟨r0, r1⟩ := hrow m (by omega)
          have hgx : (o ++ [(x, y)]).getD m (0, 0) = (x, y) := by simp [← hm]
          rw [hgx] at r0 r1
          rw [hle] at hvo hok
          subst hvo
          have HLE := Lib.hid hle
          have HM := Lib.hid hm
          have f1 := hfz (m * 2 + 1)
          clear hgx hle hrow hm hfz
          have hz : ((m + 1 : Nat) : Int) - 1 = (m : Int) := by omega
          have hy0 : True := trivial
          by_cases hj : a ≤ y
          · have HM2 := Lib.hid (hmid.out.join HKS.out HAB.out hE hj)
            go_wp2_with fail
            go_quiet (fail)
            have hO : Hid (OwnW ((wr.alloc (.cells #[.int .i64 a, .int .i64 b] 23)).drewN nq) w2.heap.size (.slice (some ⟨q, 0, none⟩) (m + 1) co) (o ++ [(x, y)])) := Lib.hid (hown.out.alloc _)
            have hB3 : Below w2.heap.size w2 ((wr.alloc (.cells #[.int .i64 a, .int .i64 b] 23)).drewN nq) := (hB.alloc hB.size _).trans ((below_drewN' _ nq).mono (by have := hB.size; simp; omega))
            have p1 : ((wr.alloc (.cells #[.int .i64 a, .int .i64 b] 23)).drewN nq).cell? ⟨wr.heap.size, 1, none⟩ = some (.int .i64 b) := by show (wr.alloc _).cell? _ = _; rw [World.cell?_alloc_new]; rfl
            generalize (wr.alloc (.cells #[.int .i64 a, .int .i64 b] 23)).drewN nq = w3 at hO hB3 p1 ⊢
            obtain ⟨hr3, hf3, _⟩ := hO.out.at_ (by simp)
            obtain ⟨_, q1⟩ := hr3 m (by rw [HLE.out]; omega)
            have g1 := hf3 (m * 2 + 1)
            rw [show (o ++ [(x, y)]).getD m (0, 0) = (x, y) by rw [← HM.out]; simp] at q1
            clear hr3 hf3
            have hmz : (m : Int) < ((m + 1 : Nat) : Int) := by omega
            have hmz2 : (m : Int) < (m : Int) + 1 := by omega
            clear hown hB hmid c0 c1 r0 r1 f1
            go_wp2_with fail
            go_still_tail 12, (by kernel_rfl)
            change wpList _ _ _ _ _ w3.drew
            have hO4 : Hid (OwnW w3.drew w2.heap.size (.slice (some ⟨q, 0, none⟩) (m + 1) co) (o ++ [(x, y)])) := hO
            have hB4 : Below w2.heap.size w2 w3.drew := hB3.drew
            have q2 : w3.drew.cell? ⟨q, m * 2 + 1, none⟩ = some (.int .i64 y) := q1
            have g2 : w3.drew.frozen? ⟨q, m * 2 + 1, none⟩ = false := g1
            clear hO hB3 p1 q1 g1
            generalize w3.drew = w4 at hO4 hB4 q2 g2 ⊢
            go_wp2
            go_roundw
            case rel => exact ⟨k + 1, _, by go_num, by omega, by have := HLE.out; simp at this ⊢; omega, HM2, by have h5 := hO4.out.last (max y b); rw [HM.out] at h5; exact Lib.hid h5, hB4.setCell hq1 _⟩
            case measure => simp only [intOf]; omega
          · have HM2 := Lib.hid (hmid.out.apart HKS.out HAB.out hE hj)
            go_wp2_with fail
            go_quiet (fail)
            have hO : Hid (OwnW ((wr.alloc (.cells #[.int .i64 a, .int .i64 b] 23)).drewN nq) w2.heap.size (.slice (some ⟨q, 0, none⟩) (m + 1) co) (o ++ [(x, y)])) := Lib.hid (hown.out.alloc _)
            have hB3 : Below w2.heap.size w2 ((wr.alloc (.cells #[.int .i64 a, .int .i64 b] 23)).drewN nq) := (hB.alloc hB.size _).trans ((below_drewN' _ nq).mono (by have := hB.size; simp; omega))
            have p0 : ((wr.alloc (.cells #[.int .i64 a, .int .i64 b] 23)).drewN nq).cell? ⟨wr.heap.size, 0, none⟩ = some (.int .i64 a) := by show (wr.alloc _).cell? _ = _; rw [World.cell?_alloc_new]; rfl
            have p1 : ((wr.alloc (.cells #[.int .i64 a, .int .i64 b] 23)).drewN nq).cell? ⟨wr.heap.size, 1, none⟩ = some (.int .i64 b) := by show (wr.alloc _).cell? _ = _; rw [World.cell?_alloc_new]; rfl
            generalize (wr.alloc (.cells #[.int .i64 a, .int .i64 b] 23)).drewN nq = w3 at hO hB3 p0 p1 ⊢
            clear hown hB hmid c0 c1 r0 r1 f1
            go_wp2_with (at_builtin; refine wpList_append_win rfl _ _ rfl w2.heap.size _ _ rfl (hO.out.alloc _) w3.heap.size _ a b rfl ?d0 ?d1 ?d2 w2 ?d3 ?d4 ?_)
            case d0 => rw [World.cell?_alloc_new]; rfl
            case d1 => rw [World.cell?_alloc_new]; rfl
            case d2 => rw [HLE.out]; omega
            case d3 => exact hB3.alloc hB3.size _
            case d4 => have := hB3.size; simp; omega
            intro v4 w4 hO4 hB4
            go_wp2
            go_roundw
            case rel => exact ⟨k + 1, _, by go_num, by omega, by have := HLE.out; simp at this ⊢; omega, HM2, hO4, hB4⟩
            case measure => simp only [intOf]; omega
    · have hnlt : ¬ (k : Int) < (n : Int) := by omega
      have hout : out = nf l := by
        rw [hmid.out.done (by rw [HSN.out]; omega)]
        exact HSF.out
      subst hout
      clear hmid
      go_wp2
      go_ret
      exact hown.out.ret (hb12.trans (hB.mono (by omega)))
end Go.Proofs.YtkiedopknoekpaaDoor
