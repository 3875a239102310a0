/-
  Different lists have different encodings (plain), and the contract of the statement's own ints. Condition: integers of 64 bits.
-/
import Derived.Test.YthalnnhkeaanhaaDoorMacE2
import Derived.RegionTactic
namespace Go.Proofs.YthalnnhkeaanhaaDoor
open Go.RowKit Go.Maps
set_option linter.unusedVariables false

theorem zz_inj {n m : Int} (h : zz n = zz m) : n = m := by rw [← uz_zz n, ← uz_zz m, h]
theorem enc_inj {n m : Int} {r s : List UInt8} (ln : -9223372036854775808 ≤ n) (hn : n ≤ 9223372036854775807) (lm : -9223372036854775808 ≤ m) (hm : m ≤ 9223372036854775807) (h : enc n ++ r = enc m ++ s) : n = m ∧ r = s := by
  have h1 := dec_leb (zz_lt ln hn) r
  have h2 := dec_leb (zz_lt lm hm) s
  have h' : leb (zz n) ++ r = leb (zz m) ++ s := h
  rw [h', h2] at h1
  simp only [Prod.mk.injEq] at h1
  obtain rfl := zz_inj h1.1
  exact ⟨rfl, List.append_cancel_left h'⟩
theorem encs_inj : ∀ {L M : List Int}, (∀ x ∈ L, -9223372036854775808 ≤ x ∧ x ≤ 9223372036854775807) → (∀ x ∈ M, -9223372036854775808 ≤ x ∧ x ≤ 9223372036854775807) → L.length = M.length → encs L = encs M → L = M
  | [], [], _, _, _, _ => rfl
  | [], y :: M, _, _, h, _ => by simp at h
  | x :: L, [], _, _, h, _ => by simp at h
  | x :: L, y :: M, hL, hM, hl, h => by
    have hx := hL x List.mem_cons_self
    have hy := hM y List.mem_cons_self
    rw [encs, encs] at h
    obtain ⟨rfl, h2⟩ := enc_inj hx.1 hx.2 hy.1 hy.2 h
    rw [encs_inj (fun z hz => hL z (List.mem_cons_of_mem _ hz)) (fun z hz => hM z (List.mem_cons_of_mem _ hz)) (by simpa using hl) h2]
theorem encL_inj {L M : List Int} (hL : WideI L) (hM : WideI M) (l1 : L.length ≤ 1000) (l2 : M.length ≤ 1000) (h : encL L = encL M) : L = M := by
  unfold encL at h
  obtain ⟨h1, h2⟩ := enc_inj (by omega) (by omega) (by omega) (by omega) h
  exact encs_inj hL.mem hM.mem (by omega) h2
theorem list_ext {L M : List Int} (hl : L.length = M.length) (h : ∀ k, k < L.length → L.getD k 0 = M.getD k 0) : L = M := by
  refine List.ext_getElem hl fun k h1 h2 => ?_
  have := h k h1
  rw [List.getD_eq_getElem?_getD, List.getD_eq_getElem?_getD, List.getElem?_eq_getElem h1, List.getElem?_eq_getElem h2] at this
  simpa using this

set_option maxRecDepth 100000 in
set_option maxHeartbeats 1000000 in
theorem ints_same (A : Option Addr) (m c : Nat) (B : Option Addr) (d : Nat) (l : List Int) (w : World) (hm : l.length = m) (hl : m ≤ 100000) (h : IntR w A l) (hr : IntR w B l) :
    Calls Tryd.prog 17 #[.slice A m c, .slice B m d] w fun e w' => e = .returned (.bool true) ∧ Below w.heap.size w w' := by
  have HA := Lib.hid h
  have HB := Lib.hid hr
  have HM := Lib.hid hm
  clear h hr hm
  go_enter Tryd.func17, Tryd.ntmps17
  go_wp2_with fail
  go_loopw [5] (fun i wr => ∃ k n : Nat, k ≤ m ∧ i = .int .i64 (k : Int) ∧ wr = w.drewN n) (fun i _ => m - (intOf i).toNat)
  case atStart => exact ⟨0, 0, by omega, rfl, rfl⟩
  case round =>
    obtain ⟨k, n, hk, rfl, rfl⟩ := hrel
    by_cases hlt : k < m
    · have hkz : (k : Int) < (m : Int) := by omega
      have hkl : k < l.length := by rw [HM.out]; exact hlt
      obtain ⟨b, o, rfl, _, hc⟩ := HA.out.at (by omega)
      obtain ⟨b2, o2, rfl, _, hc2⟩ := HB.out.at (by omega)
      have c1 := hc k hkl
      have c2 := hc2 k hkl
      obtain ⟨x, hx⟩ : ∃ x, l.getD k 0 = x := ⟨_, rfl⟩
      rw [hx] at c1 c2
      have d1 : (w.drewN n).cell? ⟨b, o + k, none⟩ = some (.int .i64 x) := c1
      have d2 : (w.drewN n).cell? ⟨b2, o2 + k, none⟩ = some (.int .i64 x) := c2
      obtain ⟨W, hW⟩ : ∃ W, w.drewN n = W := ⟨_, rfl⟩
      rw [hW] at d1 d2 ⊢
      have HW := Lib.hid hW
      clear c1 c2 hx hW hc hc2 hkl
      go_wp2_with fail
      go_region
      all_goals go_wp2
      go_roundw
      case rel => exact ⟨k + 1, n + 1, by omega, by go_num, by rw [← HW.out]; rfl⟩
      case measure => simp only [intOf]; omega
    · have hkz : ¬ (k : Int) < (m : Int) := by omega
      go_wp2
      go_ret
      exact ⟨rfl, Below.drewN (Below.refl _ _) n⟩

set_option maxRecDepth 100000 in
set_option maxHeartbeats 1000000 in
theorem ints_other (A : Option Addr) (m c : Nat) (B : Option Addr) (n d : Nat) (l r : List Int) (w : World) (hm : l.length = m) (hn : r.length = n) (hl : m ≤ 100000) (hl2 : n ≤ 100000) (h : IntR w A l) (hr : IntR w B r) (hne : l ≠ r) :
    Calls Tryd.prog 17 #[.slice A m c, .slice B n d] w fun e w' => e = .returned (.bool false) ∧ Below w.heap.size w w' := by
  by_cases hlen : m = n
  · subst hlen
    have HA := Lib.hid h
    have HB := Lib.hid hr
    have HM := Lib.hid hm
    have HN := Lib.hid hn
    have HNE : Hid (¬ ∀ k, k < m → l.getD k 0 = r.getD k 0) := Lib.hid (fun hh => hne (list_ext (by omega) (fun k hk => hh k (by omega))))
    clear h hr hm hn hne
    go_enter Tryd.func17, Tryd.ntmps17
    go_wp2_with fail
    go_loopw [5] (fun i wr => ∃ k n : Nat, k ≤ m ∧ i = .int .i64 (k : Int) ∧ wr = w.drewN n ∧ Hid (∀ j, j < k → l.getD j 0 = r.getD j 0)) (fun i _ => m - (intOf i).toNat)
    case atStart => exact ⟨0, 0, by omega, rfl, rfl, Lib.hid (fun j hj => absurd hj (Nat.not_lt_zero j))⟩
    case round =>
      obtain ⟨k, n, hk, rfl, rfl, hP⟩ := hrel
      by_cases hlt : k < m
      · have hkz : (k : Int) < (m : Int) := by omega
        obtain ⟨b, o, rfl, _, hc⟩ := HA.out.at (by rw [HM.out]; omega)
        obtain ⟨b2, o2, rfl, _, hc2⟩ := HB.out.at (by rw [HN.out]; omega)
        have c1 := hc k (by rw [HM.out]; exact hlt)
        have c2 := hc2 k (by rw [HN.out]; exact hlt)
        have HP2 : Hid (l.getD k 0 = r.getD k 0 → ∀ j, j < k + 1 → l.getD j 0 = r.getD j 0) := Lib.hid (fun he j hj => by
          rcases (by omega : j < k ∨ j = k) with h1 | rfl
          · exact hP.out j h1
          · exact he)
        obtain ⟨x, hx⟩ : ∃ x, l.getD k 0 = x := ⟨_, rfl⟩
        obtain ⟨y, hy⟩ : ∃ y, r.getD k 0 = y := ⟨_, rfl⟩
        rw [hx] at c1
        rw [hy] at c2
        rw [hx, hy] at HP2
        have d1 : (w.drewN n).cell? ⟨b, o + k, none⟩ = some (.int .i64 x) := c1
        have d2 : (w.drewN n).cell? ⟨b2, o2 + k, none⟩ = some (.int .i64 y) := c2
        obtain ⟨W, hW⟩ : ∃ W, w.drewN n = W := ⟨_, rfl⟩
        rw [hW] at d1 d2 ⊢
        have HW := Lib.hid hW
        clear c1 c2 hx hy hW hc hc2
        by_cases hxy : x = y
        · have HP3 := Lib.hid (HP2.out hxy)
          subst hxy
          clear HP2
          go_wp2_with fail
          go_region
          all_goals go_wp2
          go_roundw
          case rel => exact ⟨k + 1, n + 1, by omega, by go_num, by rw [← HW.out]; rfl, HP3⟩
          case measure => simp only [intOf]; omega
        · have hbx : (x == y) = false := by simpa using hxy
          go_wp2_with fail
          go_region
          all_goals go_wp2
          go_ret
          exact ⟨rfl, by rw [← HW.out]; exact Below.drewN (Below.refl _ _) (n + 1)⟩
      · exact absurd (fun j hj => hP.out j (by omega)) HNE.out
  · have hz : ¬ (m : Int) = (n : Int) := by omega
    clear h hr hm hn hne
    go_enter Tryd.func17, Tryd.ntmps17
    go_wp2_with fail
    go_ret
    exact ⟨rfl, Below.refl _ _⟩

/-- An empty row that the call made. -/
theorem OwnB.empty (w : World) {base : Nat} (h : base ≤ w.heap.size) : OwnB (w.alloc (.cells #[] 5)) base (.slice (some ⟨w.heap.size, 0, none⟩) 0 0) [] :=
  ⟨rfl, Or.inr ⟨w.heap.size, 0, #[], rfl, h, heap_alloc_new w _, Nat.le_refl _, Nat.zero_le _, rfl, rfl⟩⟩
theorem OwnI.empty (w : World) {base : Nat} (h : base ≤ w.heap.size) : OwnI (w.alloc (.cells #[] 3)) base (.slice (some ⟨w.heap.size, 0, none⟩) 0 0) [] :=
  ⟨rfl, Or.inr ⟨w.heap.size, 0, #[], rfl, h, heap_alloc_new w _, Nat.le_refl _, Nat.zero_le _, rfl, rfl⟩⟩
/-- append onto an own row, as a step of a region that draws its order. -/
theorem step_append_ints {ops : Array Oper} {o : Oper} {a : Act} {w : World} {K : Act → World → Prop} {Q : Exit → Act → World → Prop} {E : Prop} (hw : Region.wanted o (yielded ops a.tmps) = true) (s x : Operand)
    (ho : o.op = .call { callee := .builtin .append, args := #[s, x], argTypes := #[29, 29] })
    (base : Nat) (v : Value) (l l2 : List Int) (hs : a.eval s = v) (hown : OwnI w base v l) (A : Option Addr) (m c : Nat) (hm : l2.length = m) (hx : a.eval x = .slice A m c) (hr : IntR w A l2)
    (hlen : l.length + m ≤ 100000) (hbase : base ≤ w.heap.size)
    (h : ∀ v' w', Hid (OwnI w' base v' (l ++ l2)) → Below base w w' → K (a.put o.dst v') w') : if Region.wanted o (yielded ops a.tmps) = true then Oper.wp Tryd.prog o a w K Q else E := by
  obtain ⟨ii, hii, hz0, hz1, hz2⟩ := info_parts info_int
  obtain ⟨v', w', hrun, h2, h3⟩ := run_append_vs w 29 o.type 3 ii (.int .i64 0) 8 Tryd.underlying29 hii hz0 hz1 hz2 rfl base v l.length (l.map ic) (l2.map ic) hown A m c (by rw [List.length_map]; exact hm) hr (one_ic l2) (by unfold maxLen; omega) (by omega) hbase
  rw [if_pos hw]
  unfold Oper.wp execOp
  simp only [ho, resolve, invoke, builtin, Sem.run_bind, Sem.run_pure, Result.andThen_ok, List.map_toArray, List.map_cons, List.map_nil, hs, hx, hrun]
  refine h v' w' ?_ h3
  show w'.ownsRow base 3 1 v' (l ++ l2).length ((l ++ l2).map ic)
  rw [List.map_append, List.length_append, hm]
  exact h2
theorem step_append_bytes {ops : Array Oper} {o : Oper} {a : Act} {w : World} {K : Act → World → Prop} {Q : Exit → Act → World → Prop} {E : Prop} (hw : Region.wanted o (yielded ops a.tmps) = true) (s x : Operand)
    (ho : o.op = .call { callee := .builtin .append, args := #[s, x], argTypes := #[25, 25] })
    (base : Nat) (v : Value) (l l2 : List UInt8) (hs : a.eval s = v) (hown : OwnB w base v l) (A : Option Addr) (m c : Nat) (hm : l2.length = m) (hx : a.eval x = .slice A m c) (hr : BytR w A l2)
    (hlen : l.length + m ≤ 100000) (hbase : base ≤ w.heap.size)
    (h : ∀ v' w', Hid (OwnB w' base v' (l ++ l2)) → Below base w w' → K (a.put o.dst v') w') : if Region.wanted o (yielded ops a.tmps) = true then Oper.wp Tryd.prog o a w K Q else E := by
  obtain ⟨ii, hii, hz0, hz1, hz2⟩ := info_parts info_u8
  obtain ⟨v', w', hrun, h2, h3⟩ := run_append_vs w 25 o.type 5 ii (.int .u8 0) 1 Tryd.underlying25 hii hz0 hz1 hz2 rfl base v l.length (l.map bc) (l2.map bc) hown A m c (by rw [List.length_map]; exact hm) hr (one_bc l2) (by unfold maxLen; omega) (by omega) hbase
  rw [if_pos hw]
  unfold Oper.wp execOp
  simp only [ho, resolve, invoke, builtin, Sem.run_bind, Sem.run_pure, Result.andThen_ok, List.map_toArray, List.map_cons, List.map_nil, hs, hx, hrun]
  refine h v' w' ?_ h3
  show w'.ownsRow base 5 1 v' (l ++ l2).length ((l ++ l2).map bc)
  rw [List.map_append, List.length_append, hm]
  exact h2

/-- What holds behind a piece of code that is cut off: it went on, with this frame but for a slice's address and room, in such a world. -/
def CutQ2 (A : Option Addr → Nat → Act) (J : World → Prop) : Exit → Act → World → Prop
  | .normal, a, w => ∃ x n, a = A x n ∧ J w
  | _, _, _ => False
theorem wp_cut2 {P : Program} {c : Code} {Q : Exit → Act → World → Prop} {a : Act} {w : World} (A : Option Addr → Nat → Act) (J : World → Prop) (h1 : c.wp P (CutQ2 A J) a w) (h2 : ∀ x n w', J w' → Q .normal (A x n) w') : c.wp P Q a w :=
  Code.wp_mono (fun e a' w' h => by
    cases e with
    | normal =>
      obtain ⟨x, n, ha, hj⟩ := h
      rw [ha]
      exact h2 x n w' hj
    | _ => exact h.elim) h1
end Go.Proofs.YthalnnhkeaanhaaDoor
