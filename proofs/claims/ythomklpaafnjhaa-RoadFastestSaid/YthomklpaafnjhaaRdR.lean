/-
  A region that draws its order and whose last operation waits for all the others: that one comes last, and of the world behind it nothing need be said on the way. No condition.
-/
import Derived.Test.YthomklpaafnjhaaRdB
import Derived.Deep.RegionHeld3
namespace Go.Proofs.Ythomklpaafnjhaa
open Go.RowKit
set_option linter.unusedVariables false

/-- What is to be shown ahead of the last operation. -/
def LastQ (P : Program) (L : Oper) (Q : Exit → Act → World → Prop) : Exit → Act → World → Prop
  | .normal, a, w => L.wp P a w (Q .normal) Q
  | e, a, w => Q e a w
/-- Each one of pre is waited for, by L or by a later one of pre; of pre each one waits only for such as stand before it; no guards. -/
structure Lasts (pre : Array Oper) (L : Oper) : Prop where
  gL : L.guard = none
  gP : ∀ (i : Nat) o, pre[i]? = some o → o.guard = none
  all : ∀ i, i < pre.size → (∃ e ∈ L.after, Region.binds .any e = true ∧ e.on = i) ∨ ∃ j o, i < j ∧ pre[j]? = some o ∧ ∃ e ∈ o.after, Region.binds .any e = true ∧ e.on = i
  inL : ∀ e ∈ L.after, e.on < pre.size
  inP : ∀ (i : Nat) o, pre[i]? = some o → ∀ e ∈ o.after, e.on < i
def lastsB (pre : Array Oper) (L : Oper) : Bool :=
  L.guard.isNone && (List.range pre.size).all (fun i => (L.after.any fun e => Region.binds .any e && e.on == i) || (List.range pre.size).any fun j => decide (i < j) && match pre[j]? with | some o => o.after.any fun e => Region.binds .any e && e.on == i | none => false) && L.after.all (fun e => decide (e.on < pre.size)) &&
  (List.range pre.size).all (fun i => match pre[i]? with | some o => o.guard.isNone && o.after.all (fun e => decide (e.on < i)) | none => true)
theorem Lasts.of {pre : Array Oper} {L : Oper} (h : lastsB pre L = true) : Lasts pre L := by
  unfold lastsB at h
  simp only [Bool.and_eq_true, Bool.or_eq_true, List.all_eq_true, List.any_eq_true, List.mem_range, Array.any_eq_true', Array.all_eq_true', Option.isNone_iff_eq_none, decide_eq_true_eq, beq_iff_eq] at h
  obtain ⟨⟨⟨h1, h2⟩, h3⟩, h4⟩ := h
  refine ⟨h1, fun i o ho => ?_, fun i hi => ?_, fun e he => h3 e he, fun i o ho e he => ?_⟩
  · have hi := (Array.getElem?_eq_some_iff.1 ho).1
    have := h4 i hi
    rw [ho] at this
    simp only [Bool.and_eq_true, Option.isNone_iff_eq_none] at this
    exact this.1
  · rcases h2 i hi with ⟨e, he, hb, hon⟩ | ⟨j, hj, hij, hm⟩
    · exact Or.inl ⟨e, he, hb, hon⟩
    · cases ho : pre[j]? with
      | none => rw [ho] at hm; cases hm
      | some o =>
        rw [ho] at hm
        simp only [Array.any_eq_true', Bool.and_eq_true, beq_iff_eq] at hm
        obtain ⟨e, he, hb, hon⟩ := hm
        exact Or.inr ⟨j, o, hij, ho, e, he, hb, hon⟩
  · have hi := (Array.getElem?_eq_some_iff.1 ho).1
    have := h4 i hi
    rw [ho] at this
    simp only [Bool.and_eq_true, Array.all_eq_true', decide_eq_true_eq] at this
    exact this.2 e he

theorem push_getD (l : Array Bool) (i : Nat) (d : Bool) (hi : i < l.size) : (l.push false).getD i d = l.getD i d := by
  simp [Array.getD, hi, Nat.lt_succ_of_lt hi, Array.getElem_push_lt hi]
theorem push_getD_last (l : Array Bool) (d : Bool) : (l.push false).getD l.size d = false := by
  simp [Array.getD]
/-- Who has come up has all come up for which it waits. -/
def Closed (pre : Array Oper) (l : Array Bool) : Prop := ∀ (j : Nat) o, pre[j]? = some o → l.getD j false = true → ∀ e ∈ o.after, Region.binds .any e = true → l.getD e.on false = true
theorem Closed.set {pre : Array Oper} {l : Array Bool} (h : Closed pre l) (hl : l.size = pre.size) {i : Nat} (hi : i ∈ Region.ready .any pre l) : Closed pre (l.setIfInBounds i true) := fun j o ho hj e he hb => by
  have hset : ∀ k, (l.setIfInBounds i true).getD k false = if i = k ∧ i < l.size then true else l.getD k false := fun k => by
    rw [Array.getD_eq_getD_getElem?, Array.getElem?_setIfInBounds, Array.getD_eq_getD_getElem?]
    by_cases e1 : i = k
    · subst e1
      by_cases e2 : i < l.size
      · simp [e2]
      · simp [e2]
    · simp [e1]
  rw [hset] at hj ⊢
  by_cases e1 : i = e.on ∧ i < l.size
  · rw [if_pos e1]
  · rw [if_neg e1]
    by_cases e2 : i = j ∧ i < l.size
    · obtain ⟨rfl, _⟩ := e2
      have := (List.mem_filter.1 hi).2
      rw [ho] at this
      simp only [Bool.and_eq_true, Option.map_some, Option.getD_some, Array.all_eq_true'] at this
      have := this.2 e he
      rw [hb] at this
      simpa using this
    · rw [if_neg e2] at hj
      exact h j o ho hj e he hb
theorem ready_pre {pre : Array Oper} {L : Oper} (H : Lasts pre L) (l : Array Bool) (hl : l.size = pre.size) (hcl : Closed pre l) :
    Region.ready .any (pre.push L) (l.push false) = Region.ready .any pre l ++ (if (∀ i, i < pre.size → l.getD i false = true) then [pre.size] else []) := by
  unfold Region.ready
  rw [Array.size_push, List.range_succ, List.filter_append]
  congr 1
  · refine List.filter_congr fun i hi => ?_
    have hi := List.mem_range.1 hi
    rw [push_getD l i true (by omega)]
    congr 1
    rw [Array.getElem?_push_lt hi]
    rw [show pre[i]? = some pre[i] from Array.getElem?_eq_getElem hi]
    simp only [Option.map_some, Option.getD_some]
    rw [Bool.eq_iff_iff, Array.all_eq_true', Array.all_eq_true']
    have key : ∀ e ∈ pre[i].after, (l.push false).getD e.on false = l.getD e.on false := fun e he => push_getD l e.on false (by have := H.inP i _ (Array.getElem?_eq_getElem hi) e he; omega)
    constructor
    · intro h e he; have := h e he; rw [key e he] at this; exact this
    · intro h e he; have := h e he; rw [key e he]; exact this
  · have h1 : (l.push false).getD pre.size true = false := by rw [← hl]; exact push_getD_last l true
    have h2 : (pre.push L)[pre.size]? = some L := by simp
    have key : ∀ e ∈ L.after, (l.push false).getD e.on false = l.getD e.on false := fun e he => push_getD l e.on false (by have := H.inL e he; omega)
    have h3 : (L.after.all fun e => !Region.binds .any e || (l.push false).getD e.on false) = true ↔ ∀ i, i < pre.size → l.getD i false = true := by
      rw [Array.all_eq_true']
      constructor
      · intro h i hi
        obtain ⟨d, hd⟩ : ∃ d, pre.size - i = d := ⟨_, rfl⟩
        induction d using Nat.strongRecOn generalizing i with
        | ind d ih =>
          rcases H.all i hi with ⟨e, he, hb, hon⟩ | ⟨j, o, hij, ho, e, he, hb, hon⟩
          · have := h e he
            rw [key e he, hb, hon] at this
            simpa using this
          · have hj := (Array.getElem?_eq_some_iff.1 ho).1
            have := hcl j o ho (ih (pre.size - j) (by omega) j hj rfl) e he hb
            rwa [hon] at this
      · intro h e he
        rw [key e he, h e.on (H.inL e he)]
        simp
    by_cases hc : ∀ i, i < pre.size → l.getD i false = true
    · rw [if_pos hc]
      have hp : (!(l.push false).getD pre.size true && ((((pre.push L)[pre.size]?).map fun o : Oper => o.after.all fun e => !Region.binds .any e || (l.push false).getD e.on false).getD false)) = true := by
        rw [h1, h2]
        simp only [Bool.not_false, Bool.true_and, Option.map_some, Option.getD_some]
        exact h3.2 hc
      rw [List.filter_cons, if_pos hp]
      rfl
    · rw [if_neg hc]
      have h4 : (L.after.all fun e => !Region.binds .any e || (l.push false).getD e.on false) = false := by
        cases hx : (L.after.all fun e => !Region.binds .any e || (l.push false).getD e.on false) with
        | true => exact absurd (h3.1 hx) hc
        | false => rfl
      have hp : ¬ (!(l.push false).getD pre.size true && ((((pre.push L)[pre.size]?).map fun o : Oper => o.after.all fun e => !Region.binds .any e || (l.push false).getD e.on false).getD false)) = true := by
        rw [h1, h2]
        simp only [Bool.not_false, Bool.true_and, Option.map_some, Option.getD_some]
        rw [h4]
        exact Bool.false_ne_true
      rw [List.filter_cons, if_neg hp]
      rfl
theorem ready_none {pre : Array Oper} {L : Oper} (H : Lasts pre L) (l : Array Bool) (hl : l.size = pre.size) (h : Region.ready .any pre l = []) : ∀ i, i < pre.size → l.getD i false = true := by
  intro i
  induction i using Nat.strongRecOn with
  | ind i ih =>
    intro hi
    cases hx : l.getD i false with
    | true => rfl
    | false =>
      exfalso
      have hm : i ∈ Region.ready .any pre l := by
        unfold Region.ready
        refine List.mem_filter.2 ⟨List.mem_range.2 hi, ?_⟩
        have e1 : l.getD i true = false := by
          simp [Array.getD, show i < l.size by omega] at hx ⊢
          exact hx
        rw [e1, Array.getElem?_eq_getElem hi]
        simp only [Bool.not_false, Bool.true_and, Option.map_some, Option.getD_some]
        rw [Array.all_eq_true']
        intro e he
        have hlt := H.inP i _ (Array.getElem?_eq_getElem hi) e he
        rw [ih e.on hlt (by omega)]
        simp
      rw [h] at hm
      cases hm
theorem lets_last {P : Program} {L : Oper} {Q : Exit → Act → World → Prop} (h : LetsOut (LastQ P L Q)) : LetsOut Q := h
theorem wp_lastQ {P : Program} {o L : Oper} {a : Act} {w : World} {K : Act → World → Prop} {Q : Exit → Act → World → Prop} (hh : o.wp P a w K (LastQ P L Q)) : o.wp P a w K Q := by
  unfold Oper.wp at *
  generalize (execOp a.eval o).run P w = r at *
  cases r with
  | ok n w' =>
    cases n <;> simp only [Oper.upon] at hh ⊢ <;> first | exact hh | exact Calls.mono hh (fun e w'' he => by cases e <;> exact he)
  | halt x w' => cases x <;> simp only [Oper.upon] at hh ⊢ <;> exact hh
theorem set_push (l : Array Bool) (i : Nat) (hi : i < l.size) : (l.push false).setIfInBounds i true = (l.setIfInBounds i true).push false := by
  apply Array.ext_getElem?
  intro j
  rw [Array.getElem?_setIfInBounds, Array.getElem?_push, Array.getElem?_push, Array.getElem?_setIfInBounds, Array.size_push, Array.size_setIfInBounds]
  by_cases e : i = j
  · subst e
    rw [if_pos rfl, if_pos (by omega), if_neg (by omega), if_pos rfl, if_pos hi]
  · rw [if_neg e, if_neg e]
theorem wpAny_last {P : Program} {pre : Array Oper} {L : Oper} {Q : Exit → Act → World → Prop} (H : Lasts pre L) : ∀ (fuel : Nat) (l : Array Bool) (a : Act) (w : World), l.size = pre.size → Closed pre l →
    wpAny P .any pre (LastQ P L Q) fuel l a w → wpAny P .any (pre.push L) Q (fuel + 1) (l.push false) a w := by
  -- where all of pre are through
  have fin : ∀ (fuel : Nat) (l : Array Bool) (a : Act) (w : World), l.size = pre.size → Closed pre l → Region.ready .any pre l = [] → LastQ P L Q .normal a w → wpAny P .any (pre.push L) Q (fuel + 1) (l.push false) a w := by
    intro fuel l a w hl hcl h0 hq
    have hall := ready_none H l hl h0
    have hr : Region.ready .any (pre.push L) (l.push false) = [pre.size] := by rw [ready_pre H l hl hcl, h0, if_pos hall]; rfl
    refine wpAny_all hr (by simp) fun i hi => ?_
    obtain rfl := List.mem_singleton.1 hi
    unfold wpOp
    rw [show (pre.push L)[pre.size]? = some L by simp]
    have hw : ∀ y, Region.wanted L y = true := fun y => by simp [Region.wanted, H.gL]
    simp only [hw, if_true]
    refine Or.inl (Oper.wp_mono (fun a' w' hq' => wpAny_done ?_ hq' fuel) hq)
    unfold Region.ready
    refine List.filter_eq_nil_iff.2 fun i hi => ?_
    have hi := List.mem_range.1 hi
    rw [Array.size_push] at hi
    have e1 : ((l.push false).setIfInBounds pre.size true).getD i true = true := by
      rw [Array.getD_eq_getD_getElem?, Array.getElem?_setIfInBounds]
      by_cases e : pre.size = i
      · rw [if_pos e]
        split <;> rfl
      · have e2 := hall i (by omega)
        have hil : i < l.size := by omega
        rw [if_neg e, Array.getElem?_push, if_neg (by omega), Array.getElem?_eq_getElem hil]
        rw [Array.getD_eq_getD_getElem?, Array.getElem?_eq_getElem hil] at e2
        exact e2
    rw [e1]
    simp
  intro fuel
  induction fuel with
  | zero =>
    intro l a w hl hcl h
    exact fin 0 l a w hl hcl h.1 h.2
  | succ fuel ih =>
    intro l a w hl hcl h
    by_cases h0 : Region.ready .any pre l = []
    · exact fin (fuel + 1) l a w hl hcl h0 (h.1 h0)
    · have hnall : ¬ ∀ i, i < pre.size → l.getD i false = true := fun hall => by
        refine h0 (List.filter_eq_nil_iff.2 fun i hi => ?_)
        have hi := List.mem_range.1 hi
        have e2 := hall i hi
        have hil : i < l.size := by omega
        have e1 : l.getD i true = true := by
          simp [Array.getD, hil] at e2 ⊢
          exact e2
        rw [e1]; simp
      have hr : Region.ready .any (pre.push L) (l.push false) = Region.ready .any pre l := by rw [ready_pre H l hl hcl, if_neg hnall, List.append_nil]
      refine wpAny_all hr h0 fun i hi => ?_
      have hin : i < pre.size := List.mem_range.1 (List.mem_filter.1 hi).1
      have h2 := h.2 i hi
      unfold wpOp at h2 ⊢
      have e1 : pre[i]? = some pre[i] := Array.getElem?_eq_getElem hin
      rw [e1] at h2
      rw [Array.getElem?_push_lt hin]
      have hw : ∀ y, Region.wanted pre[i] y = true := fun y => by simp [Region.wanted, H.gP i _ e1]
      simp only [hw, if_true] at h2 ⊢
      rw [set_push l i (by omega)]
      rcases h2 with h2 | ⟨h2, h3⟩
      · exact Or.inl (wp_lastQ (Oper.wp_mono (fun a' w' hh => ih _ a' w' (by simpa using hl) (hcl.set hl hi) hh) h2))
      · exact Or.inr ⟨h2, lets_last h3⟩
theorem wp_region_last {P : Program} {ops pre : Array Oper} {L : Oper} {Q : Exit → Act → World → Prop} {id : Nat} {a : Act} {w : World} {S : World → Prop} (hm : P.follows .mixedOrders = true) (he : ops = pre.push L) (H : lastsB pre L = true)
    (hS : S w.drew) (h : S w.drew → wpAnyH P .any pre (LastQ P L Q) S pre.size (Array.replicate pre.size false) a w.drew) : (Code.region id ops true).wp P Q a w := by
  subst he
  refine wp_region_any hm ?_
  have := wpAny_last (Lasts.of H) pre.size (Array.replicate pre.size false) a w.drew (by simp) (fun j o ho hj => absurd hj (by simp [Array.getD])) (wpAny_of_held _ _ _ _ (h hS))
  rw [Array.size_push]
  rw [show Array.replicate (pre.size + 1) false = (Array.replicate pre.size false).push false by simp [Array.replicate_succ]]
  exact this
theorem wp_region_lastL {P : Program} {l pre : List Oper} {L : Oper} {Q : Exit → Act → World → Prop} {id : Nat} {a : Act} {w : World} {S : World → Prop} (hm : P.follows .mixedOrders = true) (he : l.dropLast = pre) (hL : l.getLast? = some L) (H : lastsB pre.toArray L = true)
    (hS : S w.drew) (h : S w.drew → wpAnyH P .any pre.toArray (LastQ P L Q) S pre.length (Array.replicate pre.length false) a w.drew) : (Code.region id l.toArray true).wp P Q a w := by
  have e : l.toArray = pre.toArray.push L := by
    subst he
    have hne : l ≠ [] := fun e => by rw [e] at hL; cases hL
    have h2 := List.dropLast_concat_getLast hne
    rw [List.getLast?_eq_some_getLast hne] at hL
    rw [Option.some.inj hL] at h2
    rw [List.push_toArray, h2]
  exact wp_region_last hm e H hS (by simpa using h)
end Go.Proofs.Ythomklpaafnjhaa
