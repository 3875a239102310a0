/-
  The contracts of the specification's Check, Has, Same and Normal, and of few. Condition: lists of at most 1000 windows.
-/
import Derived.Test.YtkiedopknoekpaaDoorClkB
import Derived.Shelf.SlSortCmp.QuietGrown
namespace Go.Proofs.YtkiedopknoekpaaDoor
open Go.RowKit
set_option linter.unusedVariables false

set_option maxRecDepth 100000 in
set_option maxHeartbeats 1000000 in
theorem check_any (l : List Win) (A : Option Addr) (cap : Nat) (w : World) (hl : l.length ≤ 1000) (hwd : WideW l) (h : WsR w A l) :
    Calls Tryd.prog 34 #[.slice A l.length cap] w fun e w' => e = .returned (.int .i64 (if allB l then 0 else 1)) ∧ Below w.heap.size w w' := by
  obtain ⟨len, hlen⟩ : ∃ n, l.length = n := ⟨_, rfl⟩
  have HL := Lib.hid hlen
  have H := Lib.hid h
  rw [hlen] at hl ⊢
  have H0 : Hid (allB l = false → (if allB l = true then 0 else 1 : Int) = 1) := Lib.hid fun e => by rw [e]; rfl
  have H1 : Hid (allB l = true → (if allB l = true then 0 else 1 : Int) = 0) := Lib.hid fun e => by rw [e]; rfl
  generalize (if allB l = true then 0 else 1 : Int) = R at H0 H1 ⊢
  clear hlen h
  go_enter Tryd.func34, Tryd.ntmps34
  go_wp2
  go_loopw [3] (fun i wr => ∃ k : Nat, k ≤ len ∧ i = .int .i64 (k : Int) ∧ Hid (allB (l.take k) = true) ∧ Below w.heap.size w wr) (fun i _ => len - (intOf i).toNat)
  case atStart => exact ⟨0, by omega, rfl, rfl, Below.refl _ _⟩
  case round =>
    obtain ⟨k, hk, rfl, hva, hB⟩ := hrel
    by_cases hlt : k < len
    · have hkl : k < l.length := by rw [HL.out]; exact hlt
      obtain ⟨b, o, rfl, hbl, hc⟩ := (H.out.below hB) (by omega)
      obtain ⟨c0, c1⟩ := hc k hkl
      have hx := hwd k hkl
      have HBAD := Lib.hid (allB_bad l k hkl)
      have HGOOD := Lib.hid (allB_snoc l k hkl hva.out)
      obtain ⟨x, y, hxy⟩ : ∃ x y, l.getD k (0, 0) = (x, y) := ⟨_, _, rfl⟩
      rw [hxy] at hx c0 c1 HBAD HGOOD
      clear hxy hkl hc
      have hltz : (k : Int) < (len : Int) := by omega
      cases hv : okB (x, y)
      · go_wp2_with (go_at_call 18; refine (refValid_any _ _ _ (by omega) (by omega) (by omega) (by omega)).mono ?_; rintro e w' ⟨rfl, rfl⟩)
        go_ret
        exact ⟨ret_int (H0.out (HBAD.out hv)).symm, hB.alloc hB.size _⟩
      · go_wp2_with (go_at_call 18; refine (refValid_any _ _ _ (by omega) (by omega) (by omega) (by omega)).mono ?_; rintro e w' ⟨rfl, rfl⟩)
        go_roundw
        case rel => exact ⟨k + 1, by omega, by go_num, HGOOD.out hv, hB.alloc hB.size _⟩
        case measure => simp only [intOf]; omega
    · have hnlt : ¬ (k : Int) < (len : Int) := by omega
      have hva2 := hva.out
      rw [List.take_of_length_le (by rw [HL.out]; omega)] at hva2
      have HV := Lib.hid hva2
      clear hva hva2
      go_wp2
      go_ret
      exact ⟨ret_int (H1.out HV.out).symm, hB⟩

theorem hasB_snoc (l : List Win) (k : Nat) (t : Int) (hk : k < l.length) : hasB (l.take (k + 1)) t = (hasB (l.take k) t || (decide ((l.getD k (0, 0)).1 ≤ t) && decide (t < (l.getD k (0, 0)).2))) := by
  rw [takeW_snoc l k hk, Bool.eq_iff_iff, hasB_append, Bool.or_eq_true]
  simp [hasB]
theorem hasB_hit (l : List Win) (k : Nat) (t : Int) (hk : k < l.length) (h1 : (l.getD k (0, 0)).1 ≤ t) (h2 : t < (l.getD k (0, 0)).2) : hasB l t = true :=
  (hasB_iff l t).2 ⟨l.getD k (0, 0), by simp [hk], h1, h2⟩

set_option maxRecDepth 100000 in
set_option maxHeartbeats 1000000 in
theorem has_any (l : List Win) (t : Int) (A : Option Addr) (cap : Nat) (w : World) (hl : l.length ≤ 1000) (ht : -9223372036854775808 ≤ t) (ht' : t ≤ 9223372036854775807) (hwd : WideW l) (h : WsR w A l) :
    Calls Tryd.prog 35 #[.slice A l.length cap, .int .i64 t] w fun e w' => e = .returned (.bool (hasB l t)) ∧ w = w' := by
  obtain ⟨len, hlen⟩ : ∃ n, l.length = n := ⟨_, rfl⟩
  have HL := Lib.hid hlen
  have H := Lib.hid h
  rw [hlen] at hl ⊢
  clear hlen h
  go_enter Tryd.func35, Tryd.ntmps35
  go_wp2
  go_loop [5] (fun i => ∃ k : Nat, k ≤ len ∧ i = .int .i64 (k : Int) ∧ Hid (hasB (l.take k) t = false)) (fun i => len - (intOf i).toNat)
  case atStart => exact ⟨0, by omega, rfl, rfl⟩
  case round =>
    obtain ⟨k, hk, rfl, hva⟩ := hrel
    by_cases hlt : k < len
    · have hkl : k < l.length := by rw [HL.out]; exact hlt
      obtain ⟨b, o, rfl, hbl, hc⟩ := H.out (by omega)
      obtain ⟨c0, c1⟩ := hc k hkl
      have hx := hwd k hkl
      have HS := Lib.hid (hasB_snoc l k t hkl)
      have HH := Lib.hid (hasB_hit l k t hkl)
      obtain ⟨x, y, hxy⟩ : ∃ x y, l.getD k (0, 0) = (x, y) := ⟨_, _, rfl⟩
      rw [hxy] at hx c0 c1 HS HH
      clear hxy hkl hc
      have hltz : (k : Int) < (len : Int) := by omega
      by_cases d0 : x ≤ t
      · by_cases d1 : t < y
        · go_wp2
          go_ret
          exact ⟨ret_bool (HH.out d0 d1).symm, rfl⟩
        · go_wp2
          go_round
          case rel => exact ⟨k + 1, by omega, by go_num, by unfold Hid; rw [HS.out, hva.out]; simp [d1]⟩
          case measure => simp only [intOf]; omega
      · go_wp2
        go_round
        case rel => exact ⟨k + 1, by omega, by go_num, by unfold Hid; rw [HS.out, hva.out]; simp [d0]⟩
        case measure => simp only [intOf]; omega
    · have hnlt : ¬ (k : Int) < (len : Int) := by omega
      have hva2 := hva.out
      rw [List.take_of_length_le (by rw [HL.out]; omega)] at hva2
      have HV := Lib.hid hva2
      clear hva hva2
      go_wp2
      go_ret
      exact ⟨ret_bool HV.out.symm, rfl⟩

/-- Are the lists equal? -/
def sameB (a b : List Win) : Bool := decide (a = b)
theorem same_ne {a b : List Win} (k : Nat) (ha : k < a.length) (hb : k < b.length) (h : a.getD k (0, 0) ≠ b.getD k (0, 0)) : sameB a b = false := by
  unfold sameB
  exact decide_eq_false fun e => h (by rw [e])
theorem same_all {a b : List Win} (hl : a.length = b.length) (h : ∀ k, k < a.length → a.getD k (0, 0) = b.getD k (0, 0)) : sameB a b = true := by
  unfold sameB
  refine decide_eq_true (List.ext_getElem hl fun i h1 h2 => ?_)
  have := h i h1
  simpa [h1, h2] using this
theorem same_len {a b : List Win} (hl : a.length ≠ b.length) : sameB a b = false := by
  unfold sameB
  exact decide_eq_false fun e => hl (by rw [e])

set_option maxRecDepth 100000 in
set_option maxHeartbeats 1000000 in
theorem same_any (l m : List Win) (A B : Option Addr) (cap cap' : Nat) (w : World) (hl : l.length ≤ 1000) (hm : m.length ≤ 1000) (h : WsR w A l) (h' : WsR w B m) :
    Calls Tryd.prog 29 #[.slice A l.length cap, .slice B m.length cap'] w fun e w' => e = .returned (.bool (sameB l m)) ∧ Below w.heap.size w w' := by
  by_cases hlm : l.length = m.length
  · obtain ⟨len, hlen⟩ : ∃ n, l.length = n := ⟨_, rfl⟩
    have hlen2 : m.length = len := by rw [← hlm]; exact hlen
    have HL := Lib.hid hlen
    have HL2 := Lib.hid hlen2
    have H := Lib.hid h
    have H2 := Lib.hid h'
    rw [hlen] at hl
    rw [hlen, hlen2]
    clear hlen h h' hlm hlen2 hm
    go_enter Tryd.func29, Tryd.ntmps29
    go_wp2
    go_loopw [5] (fun i wr => ∃ k : Nat, k ≤ len ∧ i = .int .i64 (k : Int) ∧ Hid (∀ j, j < k → l.getD j (0, 0) = m.getD j (0, 0)) ∧ Below w.heap.size w wr) (fun i _ => len - (intOf i).toNat)
    case atStart => exact ⟨0, by omega, rfl, Lib.hid fun j hj => absurd hj (Nat.not_lt_zero j), Below.refl _ _⟩
    case round =>
      obtain ⟨k, hk, rfl, hva, hB⟩ := hrel
      by_cases hlt : k < len
      · have hkl : k < l.length := by rw [HL.out]; exact hlt
        have hkm : k < m.length := by rw [HL2.out]; exact hlt
        obtain ⟨b, o, rfl, hbl, hc⟩ := (H.out.below hB) (by omega)
        obtain ⟨b', o', rfl, hbl', hc'⟩ := (H2.out.below hB) (by omega)
        obtain ⟨c0, c1⟩ := hc k hkl
        obtain ⟨e0, e1⟩ := hc' k hkm
        have HN := Lib.hid (fun h => same_ne (a := l) (b := m) k hkl hkm h)
        have HS : Hid (l.getD k (0, 0) = m.getD k (0, 0) → ∀ j, j < k + 1 → l.getD j (0, 0) = m.getD j (0, 0)) := Lib.hid fun e j hj => by
          by_cases c : j = k
          · rw [c]; exact e
          · exact hva.out j (by omega)
        obtain ⟨x, y, hxy⟩ : ∃ x y, l.getD k (0, 0) = (x, y) := ⟨_, _, rfl⟩
        obtain ⟨x', y', hxy'⟩ : ∃ x y, m.getD k (0, 0) = (x, y) := ⟨_, _, rfl⟩
        rw [hxy] at c0 c1 HN HS
        rw [hxy'] at e0 e1 HN HS
        clear hxy hxy' hkl hkm hc hc' hva
        have hltz : (k : Int) < (len : Int) := by omega
        by_cases d : (x, y) = (x', y')
        · have HSD := Lib.hid (HS.out d)
          obtain ⟨rfl, rfl⟩ := Prod.mk.inj d
          clear HS HN d
          go_wp2_with fail
          go_quiet (fail)
          go_wp2
          go_roundw
          case rel => exact ⟨k + 1, by omega, by go_num, HSD, Below.step hB (below_drewN' _ _)⟩
          case measure => simp only [intOf]; omega
        · have HND := Lib.hid (HN.out d)
          have dz : x = x' → ¬ y = y' := fun e e' => d (by rw [e, e'])
          clear HS HN d
          by_cases d0 : x = x'
          · have dy := dz d0
            have dyb : (y == y') = false := beq_eq_false_iff_ne.2 dy
            clear dz
            subst d0
            go_wp2_with fail
            go_quiet (fail)
            go_wp2
            go_ret
            exact ⟨ret_bool HND.out.symm, Below.step hB (below_drewN' _ _)⟩
          · have dxb : (x == x') = false := beq_eq_false_iff_ne.2 d0
            clear dz
            go_wp2_with fail
            go_quiet (fail)
            go_wp2
            go_ret
            exact ⟨ret_bool HND.out.symm, Below.step hB (below_drewN' _ _)⟩
      · have hnlt : ¬ (k : Int) < (len : Int) := by omega
        have hs : sameB l m = true := same_all (by rw [HL.out, HL2.out]) fun j hj => hva.out j (by rw [HL.out] at hj; omega)
        have HV := Lib.hid hs
        clear hva hs
        go_wp2
        go_ret
        exact ⟨ret_bool HV.out.symm, hB⟩
  · have HV := Lib.hid (same_len hlm)
    have hn : ((l.length : Int) == (m.length : Int)) = false := beq_eq_false_iff_ne.2 (by omega)
    have hn2 : ¬ ((l.length : Int) = (m.length : Int)) := by omega
    clear h h'
    generalize l.length = p at *
    generalize m.length = q at *
    go_enter Tryd.func29, Tryd.ntmps29
    go_wp2
    go_ret
    exact ⟨ret_bool HV.out.symm, Below.refl _ _⟩
theorem few_any (l m : List Win) (A B : Option Addr) (cap cap' : Nat) (w : World) (hl : l.length ≤ 9223372036854775807) (hm : m.length ≤ 9223372036854775807) :
    Calls Tryd.prog 20 #[.slice A l.length cap, .slice B m.length cap'] w fun e w' => e = .returned (.bool (decide (l.length ≤ 40) && decide (m.length ≤ 40))) ∧ w = w' := by
  generalize l.length = p at *
  generalize m.length = q at *
  by_cases c0 : p ≤ 40
  · by_cases c1 : q ≤ 40
    · have e : (decide (p ≤ 40) && decide (q ≤ 40)) = true := by simp [c0, c1]
      rw [e]
      clear e
      have z0 : (p : Int) ≤ 40 := by omega
      have z1 : (q : Int) ≤ 40 := by omega
      go_enter Tryd.func20, Tryd.ntmps20
      go_wp2
      go_ret
      exact ⟨rfl, rfl⟩
    · have e : (decide (p ≤ 40) && decide (q ≤ 40)) = false := by simp [c1]
      rw [e]
      clear e
      have z0 : (p : Int) ≤ 40 := by omega
      have z1 : ¬ (q : Int) ≤ 40 := by omega
      go_enter Tryd.func20, Tryd.ntmps20
      go_wp2
      go_ret
      exact ⟨rfl, rfl⟩
  · have e : (decide (p ≤ 40) && decide (q ≤ 40)) = false := by simp [c0]
    rw [e]
    clear e
    have z0 : ¬ (p : Int) ≤ 40 := by omega
    go_enter Tryd.func20, Tryd.ntmps20
    go_wp2
    go_ret
    exact ⟨rfl, rfl⟩
end Go.Proofs.YtkiedopknoekpaaDoor
