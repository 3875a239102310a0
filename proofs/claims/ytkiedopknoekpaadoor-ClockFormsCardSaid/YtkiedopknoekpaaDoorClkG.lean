/-
  The contracts of gaps, Union and Length of package clock. Condition: lists of at most 1000 windows.
-/
import Derived.Test.YtkiedopknoekpaaDoorClkE
import Derived.BigRegion
namespace Go.Proofs.YtkiedopknoekpaaDoor
open Go.RowKit
set_option linter.unusedVariables false

theorem WideW.of' {l : List Win} {k : Nat} {x y : Int} (h : WideW l) (hk : k < l.length) (e : l.getD k (0, 0) = (x, y)) : -9223372036854775808 ≤ x ∧ x ≤ 9223372036854775807 ∧ -9223372036854775808 ≤ y ∧ y ≤ 9223372036854775807 := by
  have := h k hk
  rw [e] at this
  exact this
/-- Every cell outside the row of v reads as before. -/
def KeptOut (w w' : World) (v : Value) : Prop := ∀ p : Addr, p.block < w.heap.size → v.ownBlock ≠ some p.block → w'.cell? p = w.cell? p
theorem wpList_append_win2 {w : World} {ops : Array Oper} {rest : List Oper} {o : Oper} {a : Act} {Q : Exit → Act → World → Prop} (hgd : o.guard = none) (s x : Operand)
    (ho : o.op = .call { callee := .builtin .append, args := #[s, x], argTypes := #[30, 30] })
    (base : Nat) (v : Value) (out : List Win) (hs : a.eval s = v) (hown : OwnW w base v out) (blk c : Nat) (p q : Int) (hx : a.eval x = .slice (some ⟨blk, 0, none⟩) 1 c)
    (h0 : w.cell? ⟨blk, 0, none⟩ = some (.int .i64 p)) (h1 : w.cell? ⟨blk, 1, none⟩ = some (.int .i64 q)) (hlen : out.length ≤ 100000) (w0 : World) (hB : Below base w0 w) (hbase : base ≤ w.heap.size)
    (h : ∀ v' w', Hid (OwnW w' base v' (out ++ [(p, q)])) → Below base w0 w' → KeptOut w w' v → wpList Tryd.prog ops Q rest (a.put o.dst v') w') : wpList Tryd.prog ops Q (o :: rest) a w := by
  obtain ⟨ii, hii, hz0, hz1, hz2⟩ := info_parts info_win
  refine wpList_append_own_at w hgd s x 30 ho base 23 ii (.agg #[.int .i64 0, .int .i64 0]) 2 16 Tryd.underlying30 hii hz0 hz1 hz2 rfl (by decide) v out.length (flatW out) hs hown ⟨blk, 0, none⟩ 1 c [.int .i64 p, .int .i64 q] hx rfl
    (fun j u hj => ?_) (fun u hu => ?_) (by unfold maxLen; omega) (by omega) hbase (fun v' w' ho' hg _ _ => h v' w' ?_ (hB.grown hg hbase hown.ge) (fun p hp hne => World.cell?_of_block (hg.block _ hp (fun e => hne e.symm))))
  · match j, hj with
    | 0, hj => simp at hj; subst hj; exact h0
    | 1, hj => simp at hj; subst hj; exact h1
  · simp at hu
    rcases hu with rfl | rfl <;> rfl
  · show w'.ownsRow base 23 2 v' (out ++ [(p, q)]).length (flatW (out ++ [(p, q)]))
    rw [flatW_append, List.length_append]
    exact ho'

theorem gp_step (l : List Win) (k : Nat) (f x y : Int) (hk : k < l.length) (hx : l.getD k (0, 0) = (x, y)) : gp f (l.drop k) = (if f < x then [(f, x)] else []) ++ gp y (l.drop (k + 1)) := by
  have e1 := dropW_cons l k hk
  rw [hx] at e1
  rw [e1]; rfl
theorem gp_end_yes {f : Int} (h : f ≤ 4294943999) : gp f [] = [(f, 4294944000)] := if_pos h
theorem gp_end_no {f : Int} (h : ¬ f ≤ 4294943999) : gp f [] = [] := if_neg h

set_option maxRecDepth 100000 in
set_option maxHeartbeats 4000000 in
theorem gaps_any (l : List Win) (A : Option Addr) (ca : Nat) (w : World) (hl : l.length ≤ 1000) (hwd : WideW l) (h : WsR w A l) :
    Calls Tryd.prog 42 #[.slice A l.length ca] w (RetWs w (gp 0 l)) := by
  obtain ⟨p, hp⟩ : ∃ n, l.length = n := ⟨_, rfl⟩
  have HP := Lib.hid hp
  have H := Lib.hid h
  have HW := Lib.hid hwd
  rw [hp] at hl ⊢
  clear hp h hwd
  go_enter Tryd.func42, Tryd.ntmps42
  go_wp2_with fail
  go_loopw [3, 4, 9] (fun vo vf vi wr => ∃ (i : Nat) (f : Int) (out : List Win), vi = .int .i64 (i : Int) ∧ vf = .int .i64 f ∧ -9223372036854775808 ≤ f ∧ f ≤ 9223372036854775807 ∧ i ≤ p ∧ out.length ≤ i ∧ Hid (out ++ gp f (l.drop i) = gp 0 l) ∧ Hid (OwnW wr w.heap.size vo out) ∧ Below w.heap.size w wr) (fun _ _ vi _ => p - (intOf vi).toNat)
  case atStart => exact ⟨0, 0, [], rfl, rfl, by omega, by omega, by omega, by simp, rfl, Lib.hid (OwnW.nil _ _), Below.refl _ _⟩
  case round =>
    obtain ⟨i, f, out, rfl, rfl, hf0, hf1, hi, hol, hrem, hown, hB⟩ := hrel
    by_cases hlt : i < p
    · have zi : (i : Int) < (p : Int) := by omega
      have il : i < l.length := by rw [HP.out]; exact hlt
      obtain ⟨b, o, rfl, hbl, hc⟩ := (H.out.below hB) (by omega)
      obtain ⟨c0, c1⟩ := hc i il
      obtain ⟨x, y, hxy⟩ : ∃ x y, l.getD i (0, 0) = (x, y) := ⟨_, _, rfl⟩
      have hw1 := HW.out.of' il hxy
      have hr := hrem.out
      rw [gp_step l i f x y il hxy] at hr
      rw [hxy] at c0 c1
      obtain ⟨Ao, co, hvo⟩ := hown.out.len
      subst hvo
      clear hc hxy hrem il
      by_cases hfx : f < x
      · rw [if_pos hfx, ← List.append_assoc] at hr
        have HR := Lib.hid hr
        clear hr
        have hlt9 := (World.ownsRow.lt hown.out)
        have hne : (Value.slice Ao out.length co).ownBlock ≠ some wr.heap.size := fun e => absurd (hlt9 _ e).2 (Nat.lt_irrefl _)
        have HNE := Lib.hid hne
        clear hlt9 hne
        go_wp2_with (at_builtin; refine wpList_append_win2 rfl _ _ rfl w.heap.size _ _ rfl ((hown.out.alloc _).alloc _) (wr.heap.size + 1) _ f x rfl ?d0 ?d1 ?d2 w ?d3 ?d4 ?_)
        case d2 => omega
        case d3 => exact (hB.alloc hB.size _).alloc (by have := hB.size; simp; omega) _
        case d4 => have := hB.size; simp; omega
        intro v4 w4 hO4 hB4 hK4
        have q1 := hK4 ⟨wr.heap.size, 1, none⟩ (by simp; omega) HNE.out
        rw [World.cell?_alloc_lt _ _ _ (by simp), World.cell?_alloc_new] at q1
        have q2 : w4.cell? ⟨wr.heap.size, 1, none⟩ = some (.int .i64 y) := q1
        clear hK4 q1
        go_wp2
        go_roundw
        case rel => exact ⟨i + 1, y, _, by go_num, rfl, by omega, by omega, by omega, by simp; omega, HR, hO4, hB4⟩
        case measure => simp only [intOf]; omega
      · rw [if_neg hfx, List.nil_append] at hr
        have HR := Lib.hid hr
        clear hr
        go_wp2
        go_roundw
        case rel => exact ⟨i + 1, y, out, by go_num, rfl, by omega, by omega, by omega, by omega, HR, Lib.hid (hown.out.alloc _), hB.alloc hB.size _⟩
        case measure => simp only [intOf]; omega
    · have zi : ¬ (i : Int) < (p : Int) := by omega
      have hr := hrem.out
      rw [show l.drop i = [] from List.drop_eq_nil_of_le (by rw [HP.out]; omega)] at hr
      obtain ⟨Ao, co, hvo⟩ := hown.out.len
      subst hvo
      clear hrem
      by_cases hff : f ≤ 4294943999
      · rw [gp_end_yes hff] at hr
        have HR := Lib.hid hr
        clear hr
        go_wp2_with (at_builtin; refine wpList_append_win rfl _ _ rfl w.heap.size _ _ rfl (hown.out.alloc _) wr.heap.size _ f 4294944000 rfl ?e0 ?e1 ?e2 w ?e3 ?e4 ?_)
        case e2 => omega
        case e3 => exact hB.alloc hB.size _
        case e4 => have := hB.size; simp; omega
        intro v4 w4 hO4 hB4
        rw [HR.out] at hO4
        go_wp2
        go_ret
        exact hO4.out.ret hB4
      · rw [gp_end_no hff, List.append_nil] at hr
        subst hr
        go_wp2
        go_ret
        exact hown.out.ret hB

/-- What Union returns, and the error. -/
def RetWsE (w0 : World) (r : List Win) (E : Int) (e : Ending) (w' : World) : Prop := ∃ A cap, e = .returned (.tuple #[.slice A r.length cap, .int .i64 E]) ∧ WsR w' A r ∧ Below w0.heap.size w0 w'
def unionS (l : List Win) : List Win × Int := if allB l then (nf l, 0) else ([], 1)
set_option maxRecDepth 100000 in
set_option maxHeartbeats 1000000 in
theorem union_any (l : List Win) (A : Option Addr) (ca : Nat) (w : World) (hl : l.length ≤ 1000) (hwd : WideW l) (h : WsR w A l) :
    Calls Tryd.prog 21 #[.slice A l.length ca] w (RetWsE w (unionS l).1 (unionS l).2) := by
  have h1 := allValid_any l A ca w hl hwd h
  have h2 := fun w' (hb : Below w.heap.size w w') hv => normal_any l A ca w' hl hv hwd (h.below hb)
  cases hv : allB l
  · have e : unionS l = ([], 1) := by simp [unionS, hv]
    rw [e]
    rw [hv] at h1
    have H1 := Lib.hid h1
    generalize l.length = n at H1 ⊢
    clear h1 h2 hv e h hwd hl
    go_enter Tryd.func21, Tryd.ntmps21
    go_wp2_with fail
    refine H1.out.mono ?_
    rintro e w1 ⟨rfl, hb1⟩
    go_wp2_with fail
    go_ret2
    exact ⟨none, 0, rfl, fun hh => absurd hh (Nat.lt_irrefl _), hb1⟩
  · have e : unionS l = (nf l, 0) := by simp [unionS, hv]
    rw [e]
    rw [hv] at h1
    have H1 := Lib.hid h1
    have H2 := Lib.hid (fun w' hb => h2 w' hb hv)
    generalize l.length = n at H1 H2 ⊢
    generalize nf l = r at H2 ⊢
    clear h1 h2 hv e h hwd hl
    go_enter Tryd.func21, Tryd.ntmps21
    go_wp2_with fail
    refine H1.out.mono ?_
    rintro e w1 ⟨rfl, hb1⟩
    go_wp2_with fail
    refine (H2.out w1 hb1).mono ?_
    rintro e w2 ⟨B, cap, rfl, hr2, hb2⟩
    go_wp2_with fail
    go_ret2
    exact ⟨B, cap, rfl, hr2, Below.step hb1 hb2⟩

def lengthS (l : List Win) : Int × Int := if allB l then (len (nf l), 0) else (0, 1)
theorem len_snoc (l : List Win) (k : Nat) (hk : k < l.length) : len (l.take (k + 1)) = len (l.take k) + ((l.getD k (0, 0)).2 - (l.getD k (0, 0)).1) := by
  rw [takeW_snoc l k hk, len_append]
  simp [len]
theorem nf_takes (r : List Win) (lo hi : Int) (h : Nf lo hi r) (hl : lo ≤ hi) (k : Nat) : Nf lo hi (r.take k) := by
  induction r generalizing lo k with
  | nil => simpa using h
  | cons x r ih =>
    cases k with
    | zero => simp [Nf]
    | succ k =>
      obtain ⟨h1, h2, h3, h4⟩ := h
      exact ⟨h1, h2, h3, ih x.2 h4 h3 k⟩
set_option maxRecDepth 100000 in
set_option maxHeartbeats 2000000 in
theorem length_any (l : List Win) (A : Option Addr) (ca : Nat) (w : World) (hl : l.length ≤ 1000) (hwd : WideW l) (h : WsR w A l) :
    Calls Tryd.prog 27 #[.slice A l.length ca] w fun e w' => e = .returned (.tuple #[.int .i64 (lengthS l).1, .int .i64 (lengthS l).2]) ∧ Below w.heap.size w w' := by
  have h1 := allValid_any l A ca w hl hwd h
  have h2 := fun w' (hb : Below w.heap.size w w') hv => normal_any l A ca w' hl hv hwd (h.below hb)
  cases hv : allB l
  · have e : lengthS l = (0, 1) := by simp [lengthS, hv]
    rw [e]
    rw [hv] at h1
    have H1 := Lib.hid h1
    generalize l.length = n at H1 ⊢
    clear h1 h2 hv e h hwd hl
    go_enter Tryd.func27, Tryd.ntmps27
    go_wp2_with fail
    refine H1.out.mono ?_
    rintro e w1 ⟨rfl, hb1⟩
    go_wp2_with fail
    go_ret2
    exact ⟨rfl, hb1⟩
  · have e : lengthS l = (len (nf l), 0) := by simp [lengthS, hv]
    rw [e]
    rw [hv] at h1
    have hnf := (nf_nf hv).1
    have hrl : (nf l).length ≤ 1000 := Nat.le_trans (nf_len l) hl
    have hbd := fun k => len_bd _ _ _ (nf_takes _ _ _ hnf (by omega) k) (by omega)
    have hok := fun k (hk : k < (nf l).length) => okB_true (hnf.ok (by omega) (by omega) ((nf l).getD k (0, 0)) (by simp [hk]))
    have H1 := Lib.hid h1
    have H2 := Lib.hid (fun w' hb => h2 w' hb hv)
    generalize l.length = n at H1 H2 ⊢
    generalize nf l = r at H2 hnf hrl hbd hok ⊢
    clear h1 h2 hv e h hwd hl
    have HBD := Lib.hid hbd
    have HOK := Lib.hid hok
    clear hnf hbd hok
    go_enter Tryd.func27, Tryd.ntmps27
    go_wp2_with fail
    refine H1.out.mono ?_
    rintro e w1 ⟨rfl, hb1⟩
    go_wp2_with fail
    refine (H2.out w1 hb1).mono ?_
    rintro e w2 ⟨B, cap, rfl, hr2, hb2⟩
    have hb12 : Below w.heap.size w w2 := Below.step hb1 hb2
    obtain ⟨m, hm⟩ : ∃ m, r.length = m := ⟨_, rfl⟩
    have HM := Lib.hid hm
    have HR := Lib.hid hr2
    rw [hm] at hrl ⊢
    clear hm hr2 H1 H2 hb1 hb2
    go_wp2_with fail
    go_loopw [4, 13] (fun vs vi wr => ∃ i : Nat, vi = .int .i64 (i : Int) ∧ vs = .int .i64 (len (r.take i)) ∧ i ≤ m ∧ Below w2.heap.size w2 wr) (fun _ vi _ => m - (intOf vi).toNat)
    case atStart => exact ⟨0, rfl, by simp [len], by omega, Below.refl _ _⟩
    case round =>
      obtain ⟨i, rfl, rfl, hi, hB⟩ := hrel
      obtain ⟨b0, b1⟩ := HBD.out i
      by_cases hlt : i < m
      · have zi : (i : Int) < (m : Int) := by omega
        have il : i < r.length := by rw [HM.out]; exact hlt
        obtain ⟨b, o, rfl, hbl, hc⟩ := (HR.out.below hB) (by omega)
        obtain ⟨c0, c1⟩ := hc i il
        obtain ⟨k0, k1, k2⟩ := HOK.out i il
        have hs := Lib.hid (len_snoc r i il)
        obtain ⟨x, y, hxy⟩ : ∃ x y, r.getD i (0, 0) = (x, y) := ⟨_, _, rfl⟩
        rw [hxy] at c0 c1 k0 k1 k2 hs
        have k0' : 0 ≤ x := k0
        have k1' : x ≤ y := k1
        have k2' : y ≤ 4294944000 := k2
        obtain ⟨L, hL⟩ : ∃ L, len (r.take i) = L := ⟨_, rfl⟩
        rw [hL] at b0 b1 hs ⊢
        clear hc hxy il k0 k1 k2 hL
        go_wp2
        go_roundw
        case rel => exact ⟨i + 1, by go_num, val_int' (by rw [hs.out]), by omega, hB.alloc hB.size _⟩
        case measure => simp only [intOf]; omega
      · have zi : ¬ (i : Int) < (m : Int) := by omega
        have ht : r.take i = r := List.take_of_length_le (by rw [HM.out]; omega)
        rw [ht]
        go_wp2
        go_ret2
        exact ⟨rfl, hb12.trans (hB.mono hb12.size)⟩
end Go.Proofs.YtkiedopknoekpaaDoor
