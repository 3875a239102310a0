/-
  What Table answers; the contract of Table. Condition: at most 600 edges, and a million nodes asked for.
-/
import Derived.Test.YthomklpaafnjhaaRdP
import Derived.BigRegion
namespace Go.Proofs.Ythomklpaafnjhaa
open Go.RowKit
set_option linter.unusedVariables false

/-- The error of Table. -/
def tbE (n : Int) (l : List Ed) (ns : List Int) : Int := if ck n l = 0 then (if 64 < ns.length then 8 else if allN n ns = true then 0 else 7) else ck n l
/-- The row of one node. -/
def tbRow (ns : List Int) (DD : Nat → Nat → Option Nat) (x : Int) : List Int := ns.map fun y => lS (DD x.toNat y.toNat)
def tbA (n : Int) (l : List Ed) (ns : List Int) (DD : Nat → Nat → Option Nat) : List (List Int) := if tbE n l ns = 0 then ns.map (tbRow ns DD) else []
theorem tbRow_length (ns : List Int) (DD : Nat → Nat → Option Nat) (x : Int) : (tbRow ns DD x).length = ns.length := by unfold tbRow; simp
theorem tbRow_get (ns : List Int) (DD : Nat → Nat → Option Nat) (x : Int) (k : Nat) (h : k < ns.length) : (tbRow ns DD x).getD k 0 = lS (DD x.toNat (ns.getD k 0).toNat) := by unfold tbRow; simp [h]
/-- A slice at address A reads as lists of integers. -/
def RowsR (w : World) (A : Option Addr) (L : List (List Int)) : Prop := 0 < L.length → ∃ b o, A = some ⟨b, o, none⟩ ∧ b < w.heap.size ∧
  ∀ k, k < L.length → ∃ B d, w.cell? ⟨b, o + k, none⟩ = some (.slice B (L.getD k []).length d) ∧ IntR w B (L.getD k [])
theorem RowsR.below {w w' : World} {A : Option Addr} {L : List (List Int)} (h : RowsR w A L) (hb : Below w.heap.size w w') : RowsR w' A L := fun hl => by
  obtain ⟨b, o, rfl, hlt, hc⟩ := h hl
  refine ⟨b, o, rfl, Nat.lt_of_lt_of_le hlt hb.size, fun k hk => ?_⟩
  obtain ⟨B, d, h1, h2⟩ := hc k hk
  exact ⟨B, d, by rw [hb.cell (p := ⟨b, o + k, none⟩) hlt]; exact h1, h2.below hb⟩
theorem RowsR.nil (w : World) (A : Option Addr) : RowsR w A [] := fun h => absurd h (Nat.lt_irrefl _)
/-- What Table returns. -/
def RetT (w : World) (L : List (List Int)) (X : Int) (e : Ending) (w' : World) : Prop :=
  ∃ B d k, e = .returned (.tuple #[.slice B k d, .int .i64 X]) ∧ L.length = k ∧ RowsR w' B L ∧ Below w.heap.size w w' ∧ ∀ a, B = some a → w.heap.size ≤ a.block
/-- The first k numbers of a row are laid. -/
def rwV (ns : List Int) (D : Nat → Option Nat) (k j : Nat) : Value := if j < k then .int .i64 (lS (D (ns.getD j 0).toNat)) else .int .i64 0
/-- A row that is whole. -/
def RowOk (w : World) (base gt n : Nat) (v : Value) (r : List Int) : Prop := ∃ g, v = .slice (some ⟨g, 0, none⟩) n n ∧ base ≤ g ∧ g ≠ gt ∧ g < w.heap.size ∧ IntR w (some ⟨g, 0, none⟩) r
theorem RowOk.keep {w w' : World} {base gt n : Nat} {v : Value} {r : List Int} {S : Nat → Prop} (h : RowOk w base gt n v r) (hk : Keep S w w') (hS : ∀ g, v = .slice (some ⟨g, 0, none⟩) n n → ¬ S g) : RowOk w' base gt n v r := by
  obtain ⟨g, rfl, h1, h2, h3, h4⟩ := h
  exact ⟨g, rfl, h1, h2, Nat.lt_of_lt_of_le h3 hk.size, h4.keep hk (fun a ha => by cases ha; exact hS g rfl)⟩
theorem make_tab (n : Nat) (hn : n ≤ 4096) (w : World) : (Instr.makeSlice 34 (.int .i64 (n : Int)) (.int .i64 (n : Int))).run Try.prog w = .ok (.slice (some ⟨w.heap.size, 0, none⟩) n n) (w.alloc (.cells (madeCells #[.slice none 0 0] n) 27)) :=
  make_one _ _ _ 24 Try.underlying34 (by kernel_rfl) rfl (by omega) n hn w

theorem XsR.keepT {w w' : World} {g0 N gt k : Nat} {t : TypeId} {X : Nat → List Ed} {V : Nat → Value} (h : XsR w g0 N X) (hT : Blk w gt t k V) (hV : ∀ j, j < k → ∃ A n c, V j = .slice A n c) (hk : Keep (fun b => b = gt) w w') (h0 : g0 ≠ gt) : XsR w' g0 N X := by
  refine ⟨Nat.lt_of_lt_of_le h.1 hk.size, fun v hv => ?_⟩
  obtain ⟨A, cap, h1, h2⟩ := h.2 v hv
  refine ⟨A, cap, by rw [hk.cell (p := ⟨g0, v, none⟩) h.1 h0]; exact h1, fun hl => ?_⟩
  obtain ⟨b, o, e, hlt, hc⟩ := h2 hl
  refine (h2.keep hk (fun a ha => ?_)) hl
  rw [e] at ha
  cases ha
  show ¬ b = gt
  rintro rfl
  have c0 := (hc 0 hl).1
  by_cases ho : o + 0 * 3 < k
  · rw [hT.cell ho] at c0
    obtain ⟨A', n', c', e'⟩ := hV _ ho
    rw [e'] at c0
    cases c0
  · obtain ⟨cur, d1, d2, _⟩ := hT
    rw [cell_of_row w b _ cur _ _ d1, Array.getElem?_eq_none (by omega)] at c0
    cases c0
theorem tbL_get (ns : List Int) (DD : Nat → Nat → Option Nat) (j : Nat) (h : j < ns.length) : (ns.map (tbRow ns DD)).getD j [] = tbRow ns DD (ns.getD j 0) := by simp [h]
theorem rwV_read {w : World} {g n : Nat} {ns : List Int} {DD : Nat → Nat → Option Nat} {x : Int} {a : Nat} (ha : x.toNat = a) (hn : ns.length = n) (h : Blk w g 3 n (rwV ns (DD a) n)) : IntR w (some ⟨g, 0, none⟩) (tbRow ns DD x) := fun h0 => by
  refine ⟨g, 0, rfl, h.lt, fun k hk => ?_⟩
  rw [tbRow_length, hn] at hk
  rw [Nat.zero_add, h.cell hk, tbRow_get _ _ _ _ (by omega), ha]
  unfold rwV; rw [if_pos hk]
/-- The first i rows of the table are laid. -/
def TabV (w : World) (gt k base i : Nat) (R : Nat → List Int) : Prop := ∃ val : Nat → Value, Blk w gt 27 k val ∧ (∀ j, j < k → ∃ A n c, val j = .slice A n c) ∧ ∀ j, j < i → RowOk w base gt k (val j) (R j)
theorem TabV.read {w : World} {gt k base : Nat} {ns : List Int} {DD : Nat → Nat → Option Nat} (hk : ns.length = k) (h : TabV w gt k base k (fun j => tbRow ns DD (ns.getD j 0))) : RowsR w (some ⟨gt, 0, none⟩) (ns.map (tbRow ns DD)) := fun _ => by
  obtain ⟨val, h1, _, h3⟩ := h
  refine ⟨gt, 0, rfl, h1.lt, fun j hj => ?_⟩
  have hj' : j < k := by simpa [hk] using hj
  obtain ⟨g, e, _, _, _, h4⟩ := h3 j hj'
  rw [tbL_get _ _ _ (by omega), tbRow_length, hk]
  exact ⟨_, _, by rw [Nat.zero_add, h1.cell hj', e], h4⟩

set_option maxRecDepth 100000 in
set_option maxHeartbeats 4000000 in
theorem table_any (n : Int) (A B : Option Addr) (m c k d : Nat) (l : List Ed) (ns : List Int) (DD : Nat → Nat → Option Nat) (w : World) (hm : l.length = m) (hA : EdR w A l) (hk : ns.length = k) (hk2 : k ≤ 1000) (hB : IntR w B ns) (hD : ∀ a, Ds (arcs l) a (DD a)) :
    Calls Try.prog 16 #[.agg #[.int .i64 n, .slice A m c], .slice B k d] w fun e w' => RetT w (tbA n l ns DD) (tbE n l ns) e w' := by
  have HM := Lib.hid hm
  have HD := Lib.hid hD
  have HK := Lib.hid hk
  have HBX := Lib.hid (BoxR.made w n A m c 24)
  have HB1 := Lib.hid (below_alloc w (.cells #[.int .i64 n, .slice A m c] 24))
  have HA1 := Lib.hid (hA.below HB1.out)
  have HI1 := Lib.hid (hB.below HB1.out)
  have HCK := Lib.hid (fun W (hE : EdR W A l) => check_any n A m c l W hm hE)
  clear hm hD hA hB hk
  by_cases h0 : ck n l = 0
  · obtain ⟨N, rfl, h1, h64, hm5, hO⟩ := ck_ok h0
    have HO := Lib.hid hO
    rw [h0] at HCK
    by_cases hkk : 64 < k
    · have hE : tbE (N : Int) l ns = 8 := by unfold tbE; rw [if_pos h0, if_pos (by rw [HK.out]; exact hkk)]
      have hans : tbA (N : Int) l ns DD = [] := by unfold tbA; rw [hE]; rfl
      rw [hans, hE]
      have hkz : (64 : Int) < (k : Int) := by omega
      clear hans hE h0 hO
      go_enter Try.func16, Try.ntmps16
      go_wp2_with fail
      obtain ⟨w1, hw1⟩ : ∃ x, w.alloc (.cells #[.int .i64 (N : Int), .slice A m c] 24) = x := ⟨_, rfl⟩
      rw [hw1] at HA1 HBX HB1 HI1 ⊢
      clear hw1
      refine (HCK.out _ HA1.out).mono ?_
      rintro e w2 ⟨rfl, hB2⟩
      have HBB := Lib.hid hB2
      clear hB2
      go_wp2_with fail
      go_ret2
      exact ⟨none, 0, 0, rfl, rfl, RowsR.nil _ _, Below.step HB1.out HBB.out, fun a ha => by cases ha⟩
    · have hkz : ¬ (64 : Int) < (k : Int) := by omega
      have HCO := Lib.hid (fun W (hb : BoxR W w.heap.size (N : Int) A m c) (hi : IntR W B ns) => contains_any (N : Int) A B m c w.heap.size k d ns W HK.out (by omega) hi hb)
      cases hall : allN (N : Int) ns with
      | false =>
        have hE : tbE (N : Int) l ns = 7 := by unfold tbE; rw [if_pos h0, if_neg (by rw [HK.out]; exact hkk), if_neg (by rw [hall]; simp)]
        have hans : tbA (N : Int) l ns DD = [] := by unfold tbA; rw [hE]; rfl
        rw [hans, hE]
        rw [hall] at HCO
        clear hans hE h0 hO hall
        go_enter Try.func16, Try.ntmps16
        go_wp2_with fail
        obtain ⟨w1, hw1⟩ : ∃ x, w.alloc (.cells #[.int .i64 (N : Int), .slice A m c] 24) = x := ⟨_, rfl⟩
        rw [hw1] at HA1 HBX HB1 HI1 ⊢
        clear hw1
        refine (HCK.out _ HA1.out).mono ?_
        rintro e w2 ⟨rfl, hB2⟩
        have HBB := Lib.hid hB2
        clear hB2
        go_wp2_with fail
        refine (HCO.out _ (HBX.out.below HBB.out) (HI1.out.below HBB.out)).mono ?_
        rintro e w3 ⟨rfl, hB3⟩
        have HBB := Lib.hid (Below.step HBB.out hB3)
        clear hB3
        go_wp2_with fail
        go_ret2
        exact ⟨none, 0, 0, rfl, rfl, RowsR.nil _ _, Below.step HB1.out HBB.out, fun a ha => by cases ha⟩
      | true =>
        have hE : tbE (N : Int) l ns = 0 := by unfold tbE; rw [if_pos h0, if_neg (by rw [HK.out]; exact hkk), if_pos hall]
        have hans : tbA (N : Int) l ns DD = ns.map (tbRow ns DD) := by unfold tbA; rw [if_pos hE]
        rw [hans, hE]
        have hm6 : m ≤ 512 := by rw [← HM.out]; exact hm5
        have HEX := Lib.hid (fun W (hE : EdR W A l) => exits_at N A m c l W h64 HM.out hm6 hE hO)
        have HLE := Lib.hid (fun W g0 a (ha : a < N) (hX : XsR W g0 N (fun v => exT l (v : Int) m)) => lengths_any N g0 a m (DD a) l W h1 h64 HM.out hm6 hO ha (HD.out a) hX)
        have HALL : Hid (∀ x ∈ ns, 0 ≤ x ∧ x < (N : Int)) := Lib.hid (fun x hx => nodeB_true.1 (List.all_eq_true.1 hall x hx))
        have hmk := make_tab k (by omega)
        have hmi := make_ints k (by omega)
        rw [hall] at HCO
        clear hans hE h0 hO hall
        go_enter Try.func16, Try.ntmps16
        go_wp2_with fail
        obtain ⟨w1, hw1⟩ : ∃ x, w.alloc (.cells #[.int .i64 (N : Int), .slice A m c] 24) = x := ⟨_, rfl⟩
        rw [hw1] at HA1 HBX HB1 HI1 ⊢
        clear hw1
        refine (HCK.out _ HA1.out).mono ?_
        rintro e w2 ⟨rfl, hB2⟩
        have HBB := Lib.hid hB2
        clear hB2
        go_wp2_with fail
        refine (HCO.out _ (HBX.out.below HBB.out) (HI1.out.below HBB.out)).mono ?_
        rintro e w3 ⟨rfl, hB3⟩
        have HB3 := Lib.hid (Below.step HBB.out hB3)
        obtain ⟨y0, y1⟩ := HBX.out.below HB3.out
        have hbs : w.heap.size < w3.heap.size := World.block_lt_of_cell? _ _ y0
        clear hB3 HBB HCO
        go_wp2_with fail
        obtain ⟨w4, hw4⟩ : ∃ x, w3.alloc (.cells (madeCells #[.slice none 0 0] k) 27) = x := ⟨_, rfl⟩
        obtain ⟨gt, hgt⟩ : ∃ x, w3.heap.size = x := ⟨_, rfl⟩
        have HT4 : Hid (Blk w4 gt 27 k (fun _ => .slice none 0 0)) := Lib.hid (by rw [← hw4, ← hgt]; exact Blk.made _ _ _ _ _ (fun _ => rfl))
        have HB4 : Hid (Below w1.heap.size w1 w4) := Lib.hid (by rw [← hw4]; exact Below.step HB3.out (below_alloc _ _))
        have HG : Hid (w.heap.size ≤ gt ∧ w1.heap.size ≤ gt) := Lib.hid (by rw [← hgt]; exact ⟨Nat.le_trans HB1.out.size HB3.out.size, HB3.out.size⟩)
        rw [hw4, hgt]
        clear hw4 hgt hmk y0 y1 hbs
        refine (HEX.out _ (HA1.out.below HB4.out)).mono ?_
        rintro e w5 ⟨g0, rfl, hX5, hG5, hB5⟩
        have HX5 := Lib.hid hX5
        have HT5 : Hid (TabV w5 gt k w5.heap.size 0 (fun j => tbRow ns DD (ns.getD j 0))) := Lib.hid ⟨_, HT4.out.below hB5, fun _ _ => ⟨_, _, _, rfl⟩, fun j hj => absurd hj (Nat.not_lt_zero j)⟩
        have HB5 : Hid (Below w1.heap.size w1 w5) := Lib.hid (Below.step HB4.out hB5)
        have hgt5 : gt < w5.heap.size := Nat.lt_of_lt_of_le HT4.out.lt hB5.size
        have HG0 : Hid (g0 ≠ gt) := Lib.hid (fun e => by have := HT4.out.lt; omega)
        clear hX5 hB5 HT4 HB4 hG5
        go_wp2_with fail
        go_loopw [32] (fun v wr => ∃ i : Nat, i ≤ k ∧ v = .int .i64 (i : Int) ∧ Hid (TabV wr gt k w5.heap.size i (fun j => tbRow ns DD (ns.getD j 0))) ∧ Hid (Keep (fun b => b = gt) w5 wr)) (fun v _ => k - (intOf v).toNat)
        case atStart => exact ⟨0, by omega, rfl, HT5, Lib.hid (Keep.refl _ _)⟩
        case round =>
          obtain ⟨i, hi, rfl, HT, HKP⟩ := hrel
          have HBr : Hid (Below w1.heap.size w1 wr) := Lib.hid (HB5.out.trans (HKP.out.below (fun b e => by rw [e]; exact HG.out.2) HB5.out.size))
          by_cases hlt : i < k
          · have hiz : (i : Int) < (k : Int) := by omega
            have hil : i < ns.length := by rw [HK.out]; exact hlt
            obtain ⟨bb, o, rfl, hbl, c0⟩ := (HI1.out.below HBr.out).at hil
            have HIr : Hid (IntR wr (some ⟨bb, o, none⟩) ns) := Lib.hid (HI1.out.below HBr.out)
            obtain ⟨x, hx⟩ : ∃ x, ns.getD i 0 = x := ⟨_, rfl⟩
            have hmem : x ∈ ns := by rw [← hx]; simp [hil]
            obtain ⟨a0, a1⟩ := HALL.out x hmem
            obtain ⟨a, rfl⟩ : ∃ a : Nat, x = (a : Int) := ⟨x.toNat, by omega⟩
            rw [hx] at c0
            have HXA := Lib.hid hx
            have ha : a < N := by omega
            have HXr : Hid (XsR wr g0 N (fun v => exT l (v : Int) m)) := Lib.hid (by
              obtain ⟨v5, d1, d2, _⟩ := HT5.out
              exact HX5.out.keepT d1 d2 HKP.out HG0.out)
            obtain ⟨val, t1, t2, t3⟩ := HT.out
            have hgr : gt < wr.heap.size := t1.lt
            have t1a := t1.below (below_alloc wr (.cells (madeCells #[.int .i64 0] k) 3))
            have r0 := t1a.cell hlt
            have r1 := t1a.frozen i
            have hne : ¬ wr.heap.size = gt := by omega
            have hne2 : ¬ gt = wr.heap.size := by omega
            obtain ⟨gr, hgrr⟩ : ∃ y, wr.heap.size = y := ⟨_, rfl⟩
            have HKA : Hid (Keep (fun b => b = gt) wr ((wr.alloc (.cells (madeCells #[.int .i64 0] k) 3)).setCell ⟨gt, i, none⟩ (.slice (some ⟨gr, 0, none⟩) k k))) := Lib.hid ((Keep.alloc0 _ _).set _ _ rfl)
            have HT6 : Hid (Blk ((wr.alloc (.cells (madeCells #[.int .i64 0] k) 3)).setCell ⟨gt, i, none⟩ (.slice (some ⟨gr, 0, none⟩) k k)) gt 27 k (fun j => if j = i then .slice (some ⟨gr, 0, none⟩) k k else val j)) := Lib.hid ((t1.below (below_alloc _ _)).set _ hlt (fun j _ => rfl))
            have HR6 : Hid (Blk ((wr.alloc (.cells (madeCells #[.int .i64 0] k) 3)).setCell ⟨gt, i, none⟩ (.slice (some ⟨gr, 0, none⟩) k k)) gr 3 k (rwV ns (DD a) 0)) := Lib.hid (by
              rw [← hgrr]
              exact (Blk.made wr k _ _ _ (fun j => if_neg (Nat.not_lt_zero j))).keep ((Keep.refl (fun b => b = gt) _).set _ _ rfl) (by omega))
            have HGR : Hid (w5.heap.size ≤ gr ∧ gr ≠ gt ∧ wr.heap.size = gr) := Lib.hid ⟨by rw [← hgrr]; exact HKP.out.size, by omega, hgrr⟩
            have HTV := Lib.hid (⟨t2, t3⟩ : (∀ j, j < k → ∃ A n c, val j = .slice A n c) ∧ ∀ j, j < i → RowOk wr w5.heap.size gt k (val j) (tbRow ns DD (ns.getD j 0)))
            have HBLK := Lib.hid t1
            clear hx t1 t1a t2 t3 hmem HT
            go_wp2_with fail
            obtain ⟨w6, hw6⟩ : ∃ y, (wr.alloc (.cells (madeCells #[.int .i64 0] k) 3)).setCell ⟨gt, i, none⟩ (.slice (some ⟨gr, 0, none⟩) k k) = y := ⟨_, rfl⟩
            rw [hw6]
            rw [hw6] at HKA HT6 HR6
            have HX6 : Hid (XsR w6 g0 N (fun v => exT l (v : Int) m)) := Lib.hid (HXr.out.keepT HBLK.out HTV.out.1 HKA.out HG0.out)
            have HS6 : Hid (gr < w6.heap.size) := Lib.hid HR6.out.lt
            clear hw6 hgrr hne hne2 r0 r1 c0 a0 a1
            refine (HLE.out w6 g0 a ha HX6.out).mono ?_
            rintro e w7 ⟨gl, rfl, hL7, hg7, hB7⟩
            have HL7 := Lib.hid hL7
            have HB7 := Lib.hid hB7
            have HT7 := Lib.hid (HT6.out.below hB7)
            have HR7 : Hid (Blk w7 gr 3 k (rwV ns (DD a) 0)) := Lib.hid (HR6.out.below hB7)
            have HGL : Hid (gl ≠ gt ∧ gl ≠ gr) := Lib.hid ⟨fun e => by have := HT6.out.lt; omega, fun e => by have := HS6.out; omega⟩
            have HB17 : Hid (Below w1.heap.size w1 w7) := Lib.hid (Below.step (HBr.out.trans (HKA.out.below (fun b e => by rw [e]; exact HG.out.2) HBr.out.size)) hB7)
            clear hL7 hg7 hB7 HX6
            go_wp2_with fail
            go_loopw [48] (fun v ws => ∃ j : Nat, j ≤ k ∧ v = .int .i64 (j : Int) ∧ Hid (Blk ws gr 3 k (rwV ns (DD a) j)) ∧ Hid (Keep (fun b => b = gr) w7 ws)) (fun v _ => k - (intOf v).toNat)
            case atStart => exact ⟨0, by omega, rfl, HR7, Lib.hid (Keep.refl _ _)⟩
            case round =>
              obtain ⟨ws, rfl⟩ : ∃ x, x = wr := ⟨_, rfl⟩
              obtain ⟨j, hj, rfl, HRT, HKT⟩ := hrel
              have HB18 : Hid (Below w1.heap.size w1 ws) := Lib.hid (HB17.out.trans (HKT.out.below (fun b e => by rw [e]; exact Nat.le_trans HB5.out.size HGR.out.1) HB17.out.size))
              have HTT : Hid (Blk ws gt 27 k (fun j => if j = i then .slice (some ⟨gr, 0, none⟩) k k else val j)) := Lib.hid (HT7.out.keep HKT.out (fun e => HGR.out.2.1 e.symm))
              by_cases hlt2 : j < k
              · have hjz : (j : Int) < (k : Int) := by omega
                have hjl : j < ns.length := by rw [HK.out]; exact hlt2
                obtain ⟨bb2, o2, e2, hbl2, c0⟩ := (HI1.out.below HB18.out).at hjl
                cases e2
                obtain ⟨y, hy⟩ : ∃ y, ns.getD j 0 = y := ⟨_, rfl⟩
                have hmem : y ∈ ns := by rw [← hy]; simp [hjl]
                obtain ⟨y0, y1⟩ := HALL.out y hmem
                obtain ⟨q, rfl⟩ : ∃ q : Nat, y = (q : Int) := ⟨y.toNat, by omega⟩
                rw [hy] at c0
                have hq : q < N := by omega
                have HLT : Hid (LenR ws gl N (DD a)) := Lib.hid (Blk.keep HL7.out HKT.out HGL.out.2)
                obtain ⟨l0, l1⟩ := HLT.out.at hq
                have hglr : gl < ws.heap.size := Blk.lt HLT.out
                have t0 := HTT.out.cell hlt
                simp only [if_true] at t0
                have hgtr : gt < ws.heap.size := HTT.out.lt
                have r0 := HRT.out.cell hlt2
                have r1 := HRT.out.frozen j
                have hgrr : gr < ws.heap.size := HRT.out.lt
                have HR8 : Hid (Blk (ws.setCell ⟨gr, j, none⟩ (.int .i64 (lS (DD a q)))) gr 3 k (rwV ns (DD a) (j + 1))) := Lib.hid (HRT.out.set _ hlt2 (V' := rwV ns (DD a) (j + 1)) (fun z _ => by
                  unfold rwV
                  by_cases e : z = j
                  · rw [if_pos e, if_pos (by omega), e, hy, Int.toNat_natCast]
                  · rw [if_neg e]
                    by_cases e2 : z < j
                    · rw [if_pos e2, if_pos (by omega)]
                    · rw [if_neg e2, if_neg (by omega)]))
                have HK8 : Hid (Keep (fun b => b = gr) w7 (ws.setCell ⟨gr, j, none⟩ (.int .i64 (lS (DD a q)))).drew) := Lib.hid (HKT.out.set _ _ rfl).drew
                clear hy hmem y0 y1 l1
                go_wp2_with fail
                go_region
                go_wp2_with fail
                go_roundw
                case rel => exact ⟨j + 1, by omega, by go_num, HR8, HK8⟩
                case measure => simp only [intOf]; omega
              · obtain rfl : j = k := by omega
                have hnlt : ¬ (j : Int) < (j : Int) := by omega
                have HK9 : Hid (Keep (fun b => b = gt) w5 ws) := Lib.hid (((HKP.out.step HKA.out).on HB7.out).trans HKT.out (fun b e => Or.inr (by have e : b = gr := e; rw [e]; exact HGR.out.1)))
                have HT9 : Hid (TabV ws gt j w5.heap.size (i + 1) (fun j => tbRow ns DD (ns.getD j 0))) := Lib.hid (by
                  refine ⟨_, HTT.out, fun z hz => ?_, fun z hz => ?_⟩
                  · by_cases e : z = i
                    · exact ⟨_, _, _, if_pos e⟩
                    · obtain ⟨A', n', c', e'⟩ := HTV.out.1 z hz
                      exact ⟨A', n', c', by rw [← e']; exact if_neg e⟩
                  · by_cases e : z = i
                    · refine ⟨gr, by simp only [if_pos e], HGR.out.1, HGR.out.2.1, HRT.out.lt, ?_⟩
                      rw [e]
                      show IntR _ _ (tbRow ns DD (ns.getD i 0))
                      rw [HXA.out]
                      exact rwV_read (Int.toNat_natCast a) HK.out HRT.out
                    · obtain ⟨g', e', f1, f2, f3, f4⟩ := HTV.out.2 z (by omega)
                      have g3 : g' ≠ gr := by have := HGR.out.2.2; omega
                      have f5 := ((f4.keep HKA.out (fun a ha e => by cases ha; exact f2 e)).below HB7.out).keep HKT.out (fun a ha e => by cases ha; exact g3 e)
                      exact ⟨g', by simp only [if_neg e]; exact e', f1, f2, Nat.lt_of_lt_of_le f3 (Nat.le_trans HKA.out.size (Nat.le_trans HB7.out.size HKT.out.size)), f5⟩)
                go_wp2_with fail
                go_roundw
                case rel => exact ⟨i + 1, by omega, by go_num, HT9, HK9⟩
                case measure => simp only [intOf]; omega
          · obtain rfl : i = k := by omega
            have hnlt : ¬ (i : Int) < (i : Int) := by omega
            go_wp2_with fail
            go_ret2
            exact ⟨_, _, _, rfl, by rw [List.length_map]; exact HK.out, TabV.read HK.out HT.out, HB1.out.trans (HBr.out.mono HB1.out.size), fun a ha => by cases ha; exact HG.out.1⟩
  · obtain ⟨X, hX⟩ : ∃ X, ck n l = X := ⟨_, rfl⟩
    have hE : tbE n l ns = X := by unfold tbE; rw [if_neg h0]; exact hX
    have hX0 : ¬ X = 0 := fun e => h0 (hX.trans e)
    have hans : tbA n l ns DD = [] := by unfold tbA; rw [hE, if_neg hX0]
    rw [hans, hE]
    rw [hX] at HCK
    clear hans hE h0 hX
    go_enter Try.func16, Try.ntmps16
    go_wp2_with fail
    obtain ⟨w1, hw1⟩ : ∃ x, w.alloc (.cells #[.int .i64 n, .slice A m c] 24) = x := ⟨_, rfl⟩
    rw [hw1] at HA1 HBX HB1 HI1 ⊢
    clear hw1
    refine (HCK.out _ HA1.out).mono ?_
    rintro e w2 ⟨rfl, hB2⟩
    have HBB := Lib.hid hB2
    clear hB2
    go_wp2_with fail
    go_ret2
    exact ⟨none, 0, 0, rfl, rfl, RowsR.nil _ _, Below.step HB1.out HBB.out, fun a ha => by cases ha⟩
end Go.Proofs.Ythomklpaafnjhaa
