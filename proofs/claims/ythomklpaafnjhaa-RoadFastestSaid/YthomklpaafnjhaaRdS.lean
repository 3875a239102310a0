/-
  The contract of the specification's Times. Condition: at most 600 edges.
-/
import Derived.Test.YthomklpaafnjhaaRdQ
import Derived.Test.YthomklpaafnjhaaRdH
namespace Go.Proofs.Ythomklpaafnjhaa
open Go.RowKit
set_option linter.unusedVariables false

/-- The cells of the turned network. -/
def bkV (N : Int) (val : Value) (j : Nat) : Value := if j = 0 then .int .i64 N else val
theorem back_made (w : World) (N : Int) (t : TypeId) : Blk (w.alloc (.cells #[.int .i64 N, .slice none 0 0] t)) w.heap.size t 2 (bkV N (.slice none 0 0)) := by
  refine ⟨_, heap_alloc_new w _, rfl, fun j hj => ?_⟩
  obtain rfl | rfl : j = 0 ∨ j = 1 := by omega
  · rfl
  · rfl
theorem trnL_take {l : List Ed} {i : Nat} (h : i < l.length) : (trnL l).take (i + 1) = (trnL l).take i ++ [trn (l.getD i ed0)] := by
  have hl : i < (trnL l).length := by rw [trnL_length]; exact h
  rw [List.take_succ_eq_append_getElem hl, ← trnL_get l i h]
  simp [hl]
/-- The first k numbers are travel times. -/
def fxV (D : Nat → Option Nat) (k j : Nat) : Value := if j < k then .int .i64 (lS (D j)) else cS D j
theorem fxV_read {w : World} {g N : Nat} {D : Nat → Option Nat} (h : Blk w g 3 N (fxV D N)) : IntR w (some ⟨g, 0, none⟩) (tmL N D) := by
  obtain ⟨cur, h1, h2, h3⟩ := h
  exact tmV_read ⟨cur, h1, h2, fun j hj => by rw [h3 j hj]; unfold fxV tmV; rw [if_pos hj, if_pos hj]⟩
theorem rnds_bd {N a : Nat} {l : List Ed} (hO : OkL N l) (h64 : N ≤ 64) (hm : l.length ≤ 512) {D : Nat → Option Nat} (hD : rnds (rev (arcs l)) a N = D) : ∀ u p, D u = some p → 0 ≤ xS p ∧ xS p ≤ 40000000 := fun u p h => by
  have h2 : stB l a N 0 u = some p := by rw [stB_zero, hD]; exact h
  have := stB_bd hO h64 hm h64 (Nat.zero_le _) h2
  exact ⟨this.1, this.2.1⟩

set_option linter.unusedSimpArgs false in
set_option maxRecDepth 100000 in
set_option maxHeartbeats 8000000 in
theorem refTimes_any (n v : Int) (A : Option Addr) (m c : Nat) (l : List Ed) (D : Nat → Option Nat) (w : World) (hm : l.length = m) (hA : EdR w A l) (hD : Ds (arcs l) v.toNat D) :
    Calls Try.prog 12 #[.agg #[.int .i64 n, .slice A m c], .int .i64 v] w fun e w' => RetE w (tmA n l v D) (tmE n l v) e w' := by
  have HM := Lib.hid hm
  have HD := Lib.hid hD
  have HA1 := Lib.hid (hA.below (below_alloc w (.cells #[.int .i64 n, .slice A m c] 24)))
  have HBX := Lib.hid (BoxR.made w n A m c 24)
  have HB1 := Lib.hid (below_alloc w (.cells #[.int .i64 n, .slice A m c] 24))
  have HCK := Lib.hid (fun W (hE : EdR W A l) => refCheck_any n A m c l W hm hE)
  have HND := Lib.hid (fun W => refNode_any n v A m c W)
  clear hm hD hA
  by_cases h0 : ck n l = 0
  · obtain ⟨N, rfl, h1, h64, hm5, hO⟩ := ck_ok h0
    have HO := Lib.hid hO
    by_cases hv : nodeB (N : Int) v = true
    · have hE : tmE (N : Int) l v = 0 := by unfold tmE; rw [if_pos h0, if_pos hv]
      obtain ⟨a0, a1⟩ := nodeB_true.1 hv
      obtain ⟨a, rfl⟩ : ∃ a : Nat, v = (a : Int) := ⟨v.toNat, by omega⟩
      have hans : tmA (N : Int) l (a : Int) D = tmL N D := by unfold tmA; rw [if_pos hE]; rfl
      rw [hans, hE]
      have ha : a < N := by omega
      have hm6 : m ≤ 512 := by rw [← HM.out]; exact hm5
      have HRD : Hid (rnds (rev (arcs (trnL l))) a N = D) := Lib.hid (by
        rw [arcs_trn, rev_rev]
        funext u
        exact IsD.unique (rnds_Ds hO.net ha u) (HD.out u))
      have HBD := Lib.hid (rnds_bd hO.trn h64 (by rw [trnL_length]; exact hm5) HRD.out)
      have HTO := Lib.hid (fun W A' c' (hE : EdR W A' (trnL l)) => refTo_any N a m c' A' (trnL l) W h1 h64 (by rw [trnL_length]; exact HM.out) hm6 hE hO.trn ha)
      rw [HRD.out] at HTO
      rw [h0] at HCK
      rw [hv] at HND
      clear hans hE hv h0 hO
      go_enter Try.func12, Try.ntmps12
      go_wp2_with fail
      obtain ⟨w1, hw1⟩ : ∃ x, w.alloc (.cells #[.int .i64 (N : Int), .slice A m c] 24) = x := ⟨_, rfl⟩
      rw [hw1] at HA1 HBX HB1 ⊢
      clear hw1
      refine (HCK.out _ HA1.out).mono ?_
      rintro e w2 ⟨rfl, hB2⟩
      obtain ⟨x0, x1⟩ := HBX.out.below hB2
      have HB2 := Lib.hid hB2
      go_wp2_with fail
      refine (HND.out _).mono ?_
      rintro e w3 ⟨rfl, hB3⟩
      have hB13 := Below.step HB2.out hB3
      obtain ⟨y0, y1⟩ := HBX.out.below hB13
      have hbs : w.heap.size < w3.heap.size := World.block_lt_of_cell? _ _ y0
      have HB3 := Lib.hid hB13
      clear hB2 hB3 hB13 x0 x1 HB2
      go_wp2_with fail
      obtain ⟨gb, hgb⟩ : ∃ x, w3.heap.size = x := ⟨_, rfl⟩
      obtain ⟨bx, hbx⟩ : ∃ x, w.heap.size = x := ⟨_, rfl⟩
      have HK4 := Lib.hid (back_made w3 (N : Int) 24)
      have HB4 := Lib.hid (below_alloc w3 (.cells #[.int .i64 (N : Int), .slice none 0 0] 24))
      have HBX4 := Lib.hid ((HBX.out.below HB3.out).below HB4.out)
      have HA4 := Lib.hid ((HA1.out.below HB3.out).below HB4.out)
      obtain ⟨w4, hw4⟩ : ∃ x, w3.alloc (.cells #[.int .i64 (N : Int), .slice none 0 0] 24) = x := ⟨_, rfl⟩
      rw [hw4] at HK4 HB4 HBX4 HA4 ⊢
      rw [hgb] at HK4 HB4 hbs ⊢
      rw [hbx] at HBX4 hbs ⊢
      have HG : Hid (bx < gb ∧ w.heap.size ≤ gb ∧ w3.heap.size ≤ gb ∧ gb + 1 ≤ w4.heap.size) := Lib.hid ⟨hbs, by omega, by omega, Blk.lt HK4.out⟩
      have HBB : Hid (Below w.heap.size w w4) := Lib.hid (Below.step (Below.step HB1.out HB3.out) (by rw [hgb]; exact HB4.out))
      have HO4 : Hid (OwnA 43 w4 (gb + 1) (.slice none 0 0) ((trnL l).take 0)) := Lib.hid (OwnA.nil _ _ _)
      have HA3 := Lib.hid (HA1.out.below HB3.out)
      have HBX3 := Lib.hid (HBX.out.below HB3.out)
      rw [hbx] at HBX3
      have HGB := Lib.hid hgb
      have HWB := Lib.hid hbx
      clear hw4 hgb hbx hbs y0 y1
      go_loopw [8] (fun v8 wr => ∃ (i : Nat) (val : Value), i ≤ m ∧ v8 = .int .i64 (i : Int) ∧ Hid (Blk wr gb 24 2 (bkV (N : Int) val)) ∧ Hid (OwnA 43 wr (gb + 1) val ((trnL l).take i)) ∧ Hid (Below gb w4 wr)) (fun v8 _ => m - (intOf v8).toNat)
      case atStart => exact ⟨0, _, by omega, rfl, HK4, HO4, Lib.hid (Below.refl _ _)⟩
      case round =>
        obtain ⟨i, val, hi, rfl, HK, HO, HBW⟩ := hrel
        have HB3r : Hid (Below gb w3 wr) := Lib.hid (HB4.out.trans HBW.out)
        have HBr : Hid (Below w.heap.size w wr) := Lib.hid (HBB.out.trans (HBW.out.mono HG.out.2.1))
        have hgr : gb < wr.heap.size := HK.out.lt
        have hbxr : bx < wr.heap.size := by have := HG.out.1; omega
        have HBXr : Hid (BoxR wr bx (N : Int) A m c) := Lib.hid (HBX3.out.below (by rw [HGB.out]; exact HB3r.out))
        obtain ⟨x0, x1⟩ := HBXr.out
        have y1 := HK.out.cell (j := 1) (by decide)
        have y1' : wr.cell? ⟨gb, 1, none⟩ = some val := y1
        clear y1
        by_cases hlt : i < m
        · have hiz : (i : Int) < (m : Int) := by omega
          have hil : i < l.length := by rw [HM.out]; exact hlt
          obtain ⟨b, o, rfl, hbl, _⟩ := HA3.out.at hil
          rw [HGB.out] at hbl
          obtain ⟨b', o', e2, hbl', c0, c1, c2⟩ := (HA3.out.below (by rw [HGB.out]; exact HB3r.out)).at hil
          cases e2
          have HTK := Lib.hid (trnL_take hil)
          obtain ⟨⟨f, t, s⟩, hy⟩ : ∃ y, l.getD i ed0 = y := ⟨_, rfl⟩
          rw [hy] at c0 c1 c2 HTK
          simp only [trn] at c0 c1 c2 HTK
          have hbr : b < wr.heap.size := by omega
          have HXD := Lib.hid (HO.out.below (show Below wr.heap.size wr ((wr.alloc (.cells #[.int .i64 t, .int .i64 f, .int .i64 s] 43)).drew) from (below_alloc _ _).drew))
          have HTR : Hid (TriR ((wr.alloc (.cells #[.int .i64 t, .int .i64 f, .int .i64 s] 43)).drew) wr.heap.size ⟨t, f, s⟩) := Lib.hid (TriR.made wr t f s 43).drew
          have HBD2 : Hid (Below wr.heap.size wr ((wr.alloc (.cells #[.int .i64 t, .int .i64 f, .int .i64 s] 43)).drew)) := Lib.hid (below_alloc _ _).drew
          have HLEN : Hid (((trnL l).take i).length ≤ 10000) := Lib.hid (by rw [List.length_take]; have := Nat.min_le_left i (trnL l).length; omega)
          have HOGE : Hid (∀ x, val.ownBlock = some x → gb + 1 ≤ x ∧ x < wr.heap.size) := Lib.hid HO.out.ge
          have HSZ : Hid (gb + 1 ≤ ((wr.alloc (.cells #[.int .i64 t, .int .i64 f, .int .i64 s] 43)).drew).heap.size) := Lib.hid (by have := HBD2.out.size; omega)
          have hgb2 : bx < gb := HG.out.1
          clear hy hil
          go_wp2_with fail
          refine wp_region_lastL (S := (fun w' => w'.cell? ⟨bx, 1, none⟩ = some (.slice (some ⟨b, o, none⟩) m c) ∧ w'.cell? ⟨b, o + i * 3, none⟩ = some (.int .i64 f) ∧ w'.cell? ⟨b, o + i * 3 + 1, none⟩ = some (.int .i64 t) ∧ w'.cell? ⟨b, o + i * 3 + 2, none⟩ = some (.int .i64 s) ∧ w'.cell? ⟨gb, 1, none⟩ = some val)) (by kernel_rfl) (by dsimp only [List.dropLast]) (by simp only [List.getLast?_cons_cons, List.getLast?_singleton]; rfl) (by kernel_rfl) ?_ (fun hHeld => ?_)
          · exact ⟨x1, c0, c1, c2, y1'⟩
          refine wpAnyH_take (i := 0) (v := ?v0) rfl (by kernel_rfl) (by kernel_rfl) (by kernel_rfl) (fun _ _ _ h => h) (Or.inl ⟨by rfl, ?h0⟩) (by assumption) ?r0
          rotate_left
          · intro w hSw; (try dsimp only at hSw); go_simp; (try with_reducible rfl)
          try simp only [Act.put, List.getElem_toArray, List.getElem_cons_zero, List.getElem_cons_succ, List.setIfInBounds_toArray, List.set_cons_zero, List.set_cons_succ]
          refine wpAnyH_take (i := 1) (v := ?v1) rfl (by kernel_rfl) (by kernel_rfl) (by kernel_rfl) (fun _ _ _ h => h) (Or.inl ⟨by rfl, ?h1⟩) (by assumption) ?r1
          rotate_left
          · intro w hSw; (try dsimp only at hSw); go_simp; (try with_reducible rfl)
          try simp only [Act.put, List.getElem_toArray, List.getElem_cons_zero, List.getElem_cons_succ, List.setIfInBounds_toArray, List.set_cons_zero, List.set_cons_succ]
          refine wpAnyH_take (i := 2) (v := ?v2) rfl (by kernel_rfl) (by kernel_rfl) (by kernel_rfl) (fun _ _ _ h => h) (Or.inl ⟨by rfl, ?h2⟩) (by assumption) ?r2
          rotate_left
          · intro w hSw; (try dsimp only at hSw); go_simp; (try with_reducible rfl)
          try simp only [Act.put, List.getElem_toArray, List.getElem_cons_zero, List.getElem_cons_succ, List.setIfInBounds_toArray, List.set_cons_zero, List.set_cons_succ]
          refine wpAnyH_take (i := 3) (v := ?v3) rfl (by kernel_rfl) (by kernel_rfl) (by kernel_rfl) (fun _ _ _ h => h) (Or.inl ⟨by rfl, ?h3⟩) (by assumption) ?r3
          rotate_left
          · intro w hSw; (try dsimp only at hSw); go_simp; (try with_reducible rfl)
          try simp only [Act.put, List.getElem_toArray, List.getElem_cons_zero, List.getElem_cons_succ, List.setIfInBounds_toArray, List.set_cons_zero, List.set_cons_succ]
          refine wpAnyH_take (i := 4) (v := ?v4) rfl (by kernel_rfl) (by kernel_rfl) (by kernel_rfl) (fun _ _ _ h => h) (Or.inl ⟨by rfl, ?h4⟩) (by assumption) ?r4
          rotate_left
          · intro w hSw; (try dsimp only at hSw); go_simp; (try with_reducible rfl)
          try simp only [Act.put, List.getElem_toArray, List.getElem_cons_zero, List.getElem_cons_succ, List.setIfInBounds_toArray, List.set_cons_zero, List.set_cons_succ]
          refine wpAnyH_take (i := 5) (v := ?v5) rfl (by kernel_rfl) (by kernel_rfl) (by kernel_rfl) (fun _ _ _ h => h) (Or.inl ⟨by rfl, ?h5⟩) (by assumption) ?r5
          rotate_left
          · intro w hSw; (try dsimp only at hSw); go_simp; (try with_reducible rfl)
          try simp only [Act.put, List.getElem_toArray, List.getElem_cons_zero, List.getElem_cons_succ, List.setIfInBounds_toArray, List.set_cons_zero, List.set_cons_succ]
          refine wpAnyH_take (i := 6) (v := ?v6) rfl (by kernel_rfl) (by kernel_rfl) (by kernel_rfl) (fun _ _ _ h => h) (Or.inl ⟨by rfl, ?h6⟩) (by assumption) ?r6
          rotate_left
          · intro w hSw; (try dsimp only at hSw); go_simp; (try with_reducible rfl)
          try simp only [Act.put, List.getElem_toArray, List.getElem_cons_zero, List.getElem_cons_succ, List.setIfInBounds_toArray, List.set_cons_zero, List.set_cons_succ]
          refine wpAnyH_take (i := 7) (v := ?v7) rfl (by kernel_rfl) (by kernel_rfl) (by kernel_rfl) (fun _ _ _ h => h) (Or.inl ⟨by rfl, ?h7⟩) (by assumption) ?r7
          rotate_left
          · intro w hSw; (try dsimp only at hSw); go_simp; (try with_reducible rfl)
          try simp only [Act.put, List.getElem_toArray, List.getElem_cons_zero, List.getElem_cons_succ, List.setIfInBounds_toArray, List.set_cons_zero, List.set_cons_succ]
          refine wpAnyH_take (i := 8) (v := ?v8) rfl (by kernel_rfl) (by kernel_rfl) (by kernel_rfl) (fun _ _ _ h => h) (Or.inl ⟨by rfl, ?h8⟩) (by assumption) ?r8
          rotate_left
          · intro w hSw; (try dsimp only at hSw); go_simp; (try with_reducible rfl)
          try simp only [Act.put, List.getElem_toArray, List.getElem_cons_zero, List.getElem_cons_succ, List.setIfInBounds_toArray, List.set_cons_zero, List.set_cons_succ]
          refine wpAnyH_take (i := 9) (v := ?v9) rfl (by kernel_rfl) (by kernel_rfl) (by kernel_rfl) (fun _ _ _ h => h) (Or.inl ⟨by rfl, ?h9⟩) (by assumption) ?r9
          rotate_left
          · intro w hSw; (try dsimp only at hSw); go_simp; (try with_reducible rfl)
          try simp only [Act.put, List.getElem_toArray, List.getElem_cons_zero, List.getElem_cons_succ, List.setIfInBounds_toArray, List.set_cons_zero, List.set_cons_succ]
          refine wpAnyH_take (i := 10) (v := ?v10) rfl (by kernel_rfl) (by kernel_rfl) (by kernel_rfl) (fun _ _ _ h => h) (Or.inl ⟨by rfl, ?h10⟩) (by assumption) ?r10
          rotate_left
          · intro w hSw; (try dsimp only at hSw); go_simp; (try with_reducible rfl)
          try simp only [Act.put, List.getElem_toArray, List.getElem_cons_zero, List.getElem_cons_succ, List.setIfInBounds_toArray, List.set_cons_zero, List.set_cons_succ]
          refine wpAnyH_take (i := 11) (v := ?v11) rfl (by kernel_rfl) (by kernel_rfl) (by kernel_rfl) (fun _ _ _ h => h) (Or.inl ⟨by rfl, ?h11⟩) (by assumption) ?r11
          rotate_left
          · intro w hSw; (try dsimp only at hSw); go_simp; (try with_reducible rfl)
          try simp only [Act.put, List.getElem_toArray, List.getElem_cons_zero, List.getElem_cons_succ, List.setIfInBounds_toArray, List.set_cons_zero, List.set_cons_succ]
          refine wpAnyH_take (i := 12) (v := ?v12) rfl (by kernel_rfl) (by kernel_rfl) (by kernel_rfl) (fun _ _ _ h => h) (Or.inl ⟨by rfl, ?h12⟩) (by assumption) ?r12
          rotate_left
          · intro w hSw; (try dsimp only at hSw); go_simp; (try with_reducible rfl)
          try simp only [Act.put, List.getElem_toArray, List.getElem_cons_zero, List.getElem_cons_succ, List.setIfInBounds_toArray, List.set_cons_zero, List.set_cons_succ]
          refine wpAnyH_take (i := 13) (v := ?v13) rfl (by kernel_rfl) (by kernel_rfl) (by kernel_rfl) (fun _ _ _ h => h) (Or.inl ⟨by rfl, ?h13⟩) (by assumption) ?r13
          rotate_left
          · intro w hSw; (try dsimp only at hSw); go_simp; (try with_reducible rfl)
          try simp only [Act.put, List.getElem_toArray, List.getElem_cons_zero, List.getElem_cons_succ, List.setIfInBounds_toArray, List.set_cons_zero, List.set_cons_succ]
          refine wpAnyH_take (i := 14) (v := ?v14) rfl (by kernel_rfl) (by kernel_rfl) (by kernel_rfl) (fun _ _ _ h => h) (Or.inl ⟨by rfl, ?h14⟩) (by assumption) ?r14
          rotate_left
          · intro w hSw; (try dsimp only at hSw); go_simp; (try with_reducible rfl)
          try simp only [Act.put, List.getElem_toArray, List.getElem_cons_zero, List.getElem_cons_succ, List.setIfInBounds_toArray, List.set_cons_zero, List.set_cons_succ]
          refine wpAnyH_take (i := 15) (v := ?v15) rfl (by kernel_rfl) (by kernel_rfl) (by kernel_rfl) (fun _ _ _ h => h) (Or.inl ⟨by rfl, ?h15⟩) (by assumption) ?r15
          rotate_left
          · intro w hSw; (try dsimp only at hSw); go_simp; (try with_reducible rfl)
          try simp only [Act.put, List.getElem_toArray, List.getElem_cons_zero, List.getElem_cons_succ, List.setIfInBounds_toArray, List.set_cons_zero, List.set_cons_succ]
          refine wpAnyH_take (i := 16) (v := ?v16) rfl (by kernel_rfl) (by kernel_rfl) (by kernel_rfl) (fun _ _ _ h => h) (Or.inl ⟨by rfl, ?h16⟩) (by assumption) ?r16
          rotate_left
          · intro w hSw; (try dsimp only at hSw); go_simp; (try with_reducible rfl)
          try simp only [Act.put, List.getElem_toArray, List.getElem_cons_zero, List.getElem_cons_succ, List.setIfInBounds_toArray, List.set_cons_zero, List.set_cons_succ]
          refine wpAnyH_take (i := 17) (v := ?v17) rfl (by kernel_rfl) (by kernel_rfl) (by kernel_rfl) (fun _ _ _ h => h) (Or.inl ⟨by rfl, ?h17⟩) (by assumption) ?r17
          rotate_left
          · intro w hSw; (try dsimp only at hSw); go_simp; (try with_reducible rfl)
          try simp only [Act.put, List.getElem_toArray, List.getElem_cons_zero, List.getElem_cons_succ, List.setIfInBounds_toArray, List.set_cons_zero, List.set_cons_succ]
          refine wpAnyH_take (i := 18) (v := ?v18) rfl (by kernel_rfl) (by kernel_rfl) (by kernel_rfl) (fun _ _ _ h => h) (Or.inl ⟨by rfl, ?h18⟩) (by assumption) ?r18
          rotate_left
          · intro w hSw; (try dsimp only at hSw); go_simp; (try with_reducible rfl)
          try simp only [Act.put, List.getElem_toArray, List.getElem_cons_zero, List.getElem_cons_succ, List.setIfInBounds_toArray, List.set_cons_zero, List.set_cons_succ]
          refine wpAnyH_take (i := 19) (v := ?v19) rfl (by kernel_rfl) (by kernel_rfl) (by kernel_rfl) (fun _ _ _ h => h) (Or.inl ⟨by rfl, ?h19⟩) (by assumption) ?r19
          rotate_left
          · intro w hSw; (try dsimp only at hSw); go_simp; (try with_reducible rfl)
          try simp only [Act.put, List.getElem_toArray, List.getElem_cons_zero, List.getElem_cons_succ, List.setIfInBounds_toArray, List.set_cons_zero, List.set_cons_succ]
          refine wpAnyH_take (i := 20) (v := ?v20) rfl (by kernel_rfl) (by kernel_rfl) (by kernel_rfl) (fun _ _ _ h => h) (Or.inl ⟨by rfl, ?h20⟩) (by assumption) ?r20
          rotate_left
          · intro w hSw; (try dsimp only at hSw); go_simp; (try with_reducible rfl)
          try simp only [Act.put, List.getElem_toArray, List.getElem_cons_zero, List.getElem_cons_succ, List.setIfInBounds_toArray, List.set_cons_zero, List.set_cons_succ]
          refine wpAnyH_ready (rs := [21]) (by kernel_rfl) (by simp) ?_
          refine AllReadyH.cons rfl (fun K hK => ?_) AllReadyH.nil
          go_simp
          refine hK.out _ _ ?_ (fun hHeld => ?_)
          · go_keep
          clear hK K
          try simp only [Act.put, List.getElem_toArray, List.getElem_cons_zero, List.getElem_cons_succ, List.setIfInBounds_toArray, List.set_cons_zero, List.set_cons_succ]
          refine wpAnyH_ready (rs := [22]) (by kernel_rfl) (by simp) ?_
          refine AllReadyH.cons rfl (fun K hK => ?_) AllReadyH.nil
          (refine step_append_tri triE rfl _ _ rfl (gb + 1) val ((trnL l).take i) ⟨t, f, s⟩ _ _ rfl HXD.out rfl (by exact HTR.out) HLEN.out HSZ.out ?_; intro A4 n4 c4 w5 hn4 hO4 hg4 hat4; have k4 := (Keep.refl (fun k => val.ownBlock = some k) _).grown hg4.out (fun k e => Or.inl e); have q0 : ∀ (p : Addr) u, p.block ≤ gb → wr.cell? p = some u → w5.cell? p = some u := (fun p u hp hu => by rw [k4.cell (p := p) (Nat.lt_of_lt_of_le (by omega) HBD2.out.size) (fun e => by have := (HOGE.out _ e).1; omega), HBD2.out.cell (p := p) (by omega)]; exact hu)); have s4 := ((HK.out.below HBD2.out).keep k4 (fun e => by have := (HOGE.out _ e).1; omega)); have s1 := s4.frozen 1
          refine hK.out _ _ ?_ (fun hHeld => ?_)
          · exact ⟨q0 _ _ (by simp only; omega) x1, q0 _ _ (by simp only; omega) c0, q0 _ _ (by simp only; omega) c1, q0 _ _ (by simp only; omega) c2, q0 _ _ (Nat.le_refl _) y1'⟩
          clear hK K
          try simp only [Act.put, List.getElem_toArray, List.getElem_cons_zero, List.getElem_cons_succ, List.setIfInBounds_toArray, List.set_cons_zero, List.set_cons_succ]
          refine wpAnyH_take (i := 23) (v := ?v23) rfl (by kernel_rfl) (by kernel_rfl) (by kernel_rfl) (fun _ _ _ h => h) (Or.inl ⟨by rfl, ?h23⟩) (by assumption) ?r23
          rotate_left
          · intro w hSw; (try dsimp only at hSw); go_simp; (try with_reducible rfl)
          try simp only [Act.put, List.getElem_toArray, List.getElem_cons_zero, List.getElem_cons_succ, List.setIfInBounds_toArray, List.set_cons_zero, List.set_cons_succ]
          refine wpAnyH_done (by kernel_rfl) ?_ _
          simp only [LastQ]
          go_simp
          have HK5 : Hid (Blk (w5.setCell ⟨gb, 1, none⟩ (.slice A4 n4 c4)) gb 24 2 (bkV (N : Int) (.slice A4 n4 c4))) := Lib.hid (s4.set _ (by decide) (fun j hj => by
            unfold bkV
            obtain rfl | rfl : j = 0 ∨ j = 1 := by omega
            · rfl
            · rfl))
          have HO5 : Hid (OwnA 43 (w5.setCell ⟨gb, 1, none⟩ (.slice A4 n4 c4)) (gb + 1) (.slice A4 n4 c4) ((trnL l).take (i + 1))) := Lib.hid (by
            rw [HTK.out]
            exact hO4.out.keep ((Keep.refl (fun b => b = gb) _).set _ _ rfl) (fun g hg e => by have := (hO4.out.ge g hg).1; omega))
          have HB5 : Hid (Below gb w4 (w5.setCell ⟨gb, 1, none⟩ (.slice A4 n4 c4))) := Lib.hid (by
            have e1 : Below gb w4 _ := HBW.out.trans (HBD2.out.mono (Nat.le_of_lt hgr))
            have e2 : Below gb w4 w5 := e1.grown hg4.out (by have := HSZ.out; omega) (fun k e => by have := (HOGE.out k e).1; omega)
            exact e2.setCell (p := ⟨gb, 1, none⟩) (Nat.le_refl _) _)
          clear hn4 hO4 hg4 hat4 k4 q0 s4 s1 hHeld c0 c1 c2 x0 x1 y1'
          go_wp2_with fail
          go_roundw
          case rel => exact ⟨i + 1, _, by omega, by go_num, HK5, HO5, HB5⟩
          case measure => simp only [intOf]; omega
        · obtain rfl : i = m := by omega
          have hnlt : ¬ (i : Int) < (i : Int) := by omega
          have hlen : (trnL l).length = i := by rw [trnL_length]; exact HM.out
          have hall : (trnL l).take i = trnL l := List.take_of_length_le (by rw [hlen]; exact Nat.le_refl _)
          obtain ⟨A5, c5, hval, _, hE5, _⟩ := HO.out.form
          rw [hall] at hval hE5
          rw [hlen] at hval
          subst hval
          have y0 := HK.out.cell (j := 0) (by decide)
          have y0' : wr.cell? ⟨gb, 0, none⟩ = some (.int .i64 (N : Int)) := y0
          have HE5 := Lib.hid hE5
          clear hlen hall hE5 y0
          go_wp2_with fail
          refine (HTO.out _ A5 c5 HE5.out).mono ?_
          rintro e w6 ⟨g, h, rfl, hS6, _, hg6, _, _, hB6⟩
          have HS6 : Hid (Blk w6 g 3 N (fxV D 0)) := Lib.hid (by
            obtain ⟨cur, d1, d2, d3⟩ := hS6
            exact ⟨cur, d1, d2, fun j hj => by rw [d3 j hj]; unfold fxV; rw [if_neg (Nat.not_lt_zero j)]⟩)
          have HB6 : Hid (Below w.heap.size w w6) := Lib.hid (Below.step HBr.out hB6)
          have HG6 : Hid (w.heap.size ≤ g) := Lib.hid (Nat.le_trans HBr.out.size hg6)
          have hg66 : g < w6.heap.size := HS6.out.lt
          clear hS6 hB6 hg6 x0 x1 y0' y1'
          go_wp2_with fail
          clear HK HO HB3r HBr HBXr HTO
          go_loopw [11] (fun v ws => ∃ k : Nat, k ≤ N ∧ v = .int .i64 (k : Int) ∧ Hid (Blk ws g 3 N (fxV D k)) ∧ Hid (Keep (fun b => b = g) w6 ws)) (fun v _ => N - (intOf v).toNat)
          case atStart => exact ⟨0, by omega, rfl, HS6, Lib.hid (Keep.refl _ _)⟩
          case round =>
            obtain ⟨ws, rfl⟩ : ∃ x, x = wr := ⟨_, rfl⟩
            obtain ⟨k, hk, rfl, HR, HKS⟩ := hrel
            by_cases hlt : k < N
            · have hkz : (k : Int) < (N : Int) := by omega
              have r0 := HR.out.cell hlt
              have r1 := HR.out.frozen k
              have hgs : g < ws.heap.size := HR.out.lt
              have e0 : fxV D k k = cS D k := by unfold fxV; rw [if_neg (Nat.lt_irrefl k)]
              rw [e0] at r0
              unfold cS at r0
              have hst : ∀ u, u = lS (D k) → ∀ j, j < N → fxV D (k + 1) j = if j = k then .int .i64 u else fxV D k j := fun u hu j _ => by
                unfold fxV
                by_cases e : j = k
                · rw [if_pos e, if_pos (by omega), e, hu]
                · rw [if_neg e]
                  by_cases e2 : j < k
                  · rw [if_pos e2, if_pos (by omega)]
                  · rw [if_neg e2, if_neg (by omega)]
              cases hd : D k with
              | none =>
                rw [hd] at r0 hst
                simp only [fS] at r0
                have HR5 : Hid (Blk (ws.setCell ⟨g, k, none⟩ (.int .i64 (-1))) g 3 N (fxV D (k + 1))) := Lib.hid (HR.out.set _ hlt (hst (-1) rfl))
                have HK5 : Hid (Keep (fun b => b = g) w6 (ws.setCell ⟨g, k, none⟩ (.int .i64 (-1)))) := Lib.hid (HKS.out.set _ _ rfl)
                clear hst hd e0
                go_wp2_with fail
                go_roundw
                case rel => exact ⟨k + 1, by omega, by go_num, HR5, HK5⟩
                case measure => simp only [intOf]; omega
              | some p =>
                obtain ⟨b0, b1⟩ := HBD.out k p hd
                rw [hd] at r0 hst
                simp only [fS] at r0
                have HR5 : Hid (Blk ws g 3 N (fxV D (k + 1))) := Lib.hid (by
                  obtain ⟨cur, d1, d2, d3⟩ := HR.out
                  refine ⟨cur, d1, d2, fun j hj => ?_⟩
                  rw [d3 j hj, hst _ rfl j hj]
                  by_cases e : j = k
                  · rw [if_pos e, e, e0]; unfold cS; rw [hd]; rfl
                  · rw [if_neg e])
                obtain ⟨z, hz⟩ : ∃ z, xS p = z := ⟨_, rfl⟩
                rw [hz] at r0 b0 b1
                have hne : ¬ z = 1099511627776 := by omega
                clear hst hd e0 hz
                go_wp2_with fail
                go_roundw
                case rel => exact ⟨k + 1, by omega, by go_num, HR5, HKS⟩
                case measure => simp only [intOf]; omega
            · obtain rfl : k = N := by omega
              have hnlt : ¬ (k : Int) < (k : Int) := by omega
              go_wp2_with fail
              go_ret2
              exact ⟨_, _, _, rfl, tmL_length _ _, fxV_read HR.out, HB6.out.trans (HKS.out.below (fun x e => by rw [e]; exact HG6.out) HB6.out.size), fun a ha => by cases ha; exact HG6.out⟩
    · have hvf : nodeB (N : Int) v = false := by
        cases hh : nodeB (N : Int) v with
        | true => exact absurd hh hv
        | false => rfl
      have hE : tmE (N : Int) l v = 7 := by unfold tmE; rw [if_pos h0, if_neg hv]
      have hans : tmA (N : Int) l v D = [] := by unfold tmA; rw [hE]; rfl
      rw [hans, hE]
      rw [h0] at HCK
      rw [hvf] at HND
      clear hans hE hv h0 hO hvf
      go_enter Try.func12, Try.ntmps12
      go_wp2_with fail
      obtain ⟨w1, hw1⟩ : ∃ x, w.alloc (.cells #[.int .i64 (N : Int), .slice A m c] 24) = x := ⟨_, rfl⟩
      rw [hw1] at HA1 HBX HB1 ⊢
      clear hw1
      refine (HCK.out _ HA1.out).mono ?_
      rintro e w2 ⟨rfl, hB2⟩
      obtain ⟨x0, x1⟩ := HBX.out.below hB2
      have HB2 := Lib.hid hB2
      go_wp2_with fail
      refine (HND.out _).mono ?_
      rintro e w3 ⟨rfl, hB3⟩
      have HB3 := Lib.hid (Below.step HB1.out (Below.step HB2.out hB3))
      clear hB2 hB3 x0 x1
      go_wp2_with fail
      go_ret2
      exact ⟨none, 0, 0, rfl, rfl, IntR.nil _ _, HB3.out, fun a ha => by cases ha⟩
  · obtain ⟨X, hX⟩ : ∃ X, ck n l = X := ⟨_, rfl⟩
    have hE : tmE n l v = X := by unfold tmE; rw [if_neg h0]; exact hX
    have hX0 : ¬ X = 0 := fun e => h0 (hX.trans e)
    have hans : tmA n l v D = [] := by unfold tmA; rw [hE, if_neg hX0]
    rw [hans, hE]
    rw [hX] at HCK
    clear hans hE h0 hX
    go_enter Try.func12, Try.ntmps12
    go_wp2_with fail
    obtain ⟨w1, hw1⟩ : ∃ x, w.alloc (.cells #[.int .i64 n, .slice A m c] 24) = x := ⟨_, rfl⟩
    rw [hw1] at HA1 HBX HB1 ⊢
    clear hw1
    refine (HCK.out _ HA1.out).mono ?_
    rintro e w2 ⟨rfl, hB2⟩
    have HB2 := Lib.hid (Below.step HB1.out hB2)
    clear hB2
    go_wp2_with fail
    go_ret2
    exact ⟨none, 0, 0, rfl, rfl, IntR.nil _ _, HB2.out, fun a ha => by cases ha⟩
end Go.Proofs.Ythomklpaafnjhaa
