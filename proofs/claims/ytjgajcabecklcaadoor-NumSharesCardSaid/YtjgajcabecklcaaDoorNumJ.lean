/-
  The contracts of weigh and Same, and facts on rows of integers that a call has made. Condition: lists of at most 4096 integers.
-/
import Derived.Test.YtjgajcabecklcaaDoorNumE
import Derived.RegionTactic
import Derived.ChangeAlike
import Derived.WalkSmall
import Derived.Laws.NewBlocks
namespace Go.Proofs.YtjgajcabecklcaaDoor
open Go.RowKit
set_option linter.unusedVariables false

/-- Block blk holds the list l, and none of its cells is frozen. -/
def Row (w : World) (blk : Nat) (l : List Int) : Prop := ∀ k, k < l.length → w.cell? ⟨blk, k, none⟩ = some (.int .i64 (l.getD k 0)) ∧ w.frozen? ⟨blk, k, none⟩ = false
theorem Row.set {w : World} {blk : Nat} {l : List Int} (h : Row w blk l) (k : Nat) (x : Int) : Row (w.setCell ⟨blk, k, none⟩ (.int .i64 x)) blk (l.set k x) := fun j hj => by
  rw [List.length_set] at hj
  obtain ⟨hc, hf⟩ := h j hj
  refine ⟨?_, by rw [World.frozen?_setCell]; exact hf⟩
  by_cases e : k = j
  · subst e
    rw [World.cell?_setCell_same _ _ _ hc]
    simp [hj]
  · rw [World.cell?_setCell_other _ _ _ _ (by intro e'; simp only [Addr.mk.injEq] at e'; omega), hc]
    simp [e]
theorem Row.far {w : World} {blk : Nat} {l : List Int} (h : Row w blk l) (a : Addr) (v : Value) (hb : a.block ≠ blk) : Row (w.setCell a v) blk l := fun j hj => by
  obtain ⟨hc, hf⟩ := h j hj
  refine ⟨?_, by rw [World.frozen?_setCell]; exact hf⟩
  rw [World.cell?_setCell_other _ _ _ _ (by intro e'; rw [e'] at hb; exact hb rfl), hc]
theorem Row.drewN {w : World} {blk : Nat} {l : List Int} (h : Row w blk l) (n : Nat) : Row (w.drewN n) blk l := h
theorem Row.below {w w' : World} {blk B : Nat} {l : List Int} (h : Row w blk l) (hb : Below B w w') (hB : blk < B) : Row w' blk l := fun j hj => by
  rw [hb.cell (p := ⟨blk, j, none⟩) hB, hb.frozen (p := ⟨blk, j, none⟩) hB]
  exact h j hj
theorem Row.made (w : World) (n : Nat) (t : TypeId) : Row (w.alloc (.cells (Array.replicate n (.int .i64 0)) t)) w.heap.size (List.replicate n 0) := fun j hj => by
  rw [List.length_replicate] at hj
  rw [World.cell?_alloc_new, World.frozen?_alloc_new]
  simp [hj]
theorem Row.ints {w : World} {blk cap : Nat} {l : List Int} (h : Row w blk l) (hl : l.length ≤ 9223372036854775807) (h1 : 1 ≤ l.length) : IntsAt w (.slice (some ⟨blk, 0, none⟩) l.length cap) l :=
  Or.inr ⟨blk, 0, cap, rfl, hl, h1, fun k hk => by rw [Nat.zero_add]; exact (h k hk).1⟩
theorem Row.lt {w : World} {blk : Nat} {l : List Int} (h : Row w blk l) (h1 : 1 ≤ l.length) : blk < w.heap.size := World.block_lt_of_cell? _ _ (h 0 (by omega)).1
/-- What is read stays where nothing that was there is turned. -/
theorem IntsAt.below {w w' : World} {v : Value} {l : List Int} (h : IntsAt w v l) (hb : Below w.heap.size w w') : IntsAt w' v l := by
  rcases h with h | ⟨b, o, cap, rfl, hl, h1, hc⟩
  · exact Or.inl h
  · refine Or.inr ⟨b, o, cap, rfl, hl, h1, fun k hk => ?_⟩
    rw [hb.cell (p := ⟨b, o + k, none⟩) (World.block_lt_of_cell? _ _ (hc k hk))]
    exact hc k hk
theorem IntsAt.len {w : World} {v : Value} {l : List Int} (h : IntsAt w v l) : ∃ a cap, v = .slice a l.length cap := by
  rcases h with ⟨rfl, rfl | ⟨a, cap, rfl⟩⟩ | ⟨b, o, cap, rfl, _⟩
  · exact ⟨_, _, rfl⟩
  · exact ⟨_, _, rfl⟩
  · exact ⟨_, _, rfl⟩

/-- make([]int, n). -/
theorem replicate_cells (n : Nat) : madeCells #[Value.int .i64 0] n = Array.replicate n (.int .i64 0) := by
  apply Array.toList_inj.1
  rw [toList_madeCells_one, Array.toList_replicate]
theorem info_int : (Tryd.prog.info? 3).map (fun i => (i.zero, i.size, i.bytes)) = some (some (.int .i64 0), 1, 8) := by kernel_rfl
theorem make_ints (n : Nat) (hn : n ≤ 4096) (w : World) : (Instr.makeSlice 27 (.int .i64 (n : Int)) (.int .i64 (n : Int))).run Tryd.prog w = .ok (.slice (some ⟨w.heap.size, 0, none⟩) n n) (w.alloc (.cells (Array.replicate n (.int .i64 0)) 3)) := by
  obtain ⟨i, hi, hz0, hz1, hz2⟩ := info_parts info_int
  have h := run_make w 27 3 i (.int .i64 0) Tryd.underlying27 hi hz0 .i64 .i64 (n : Int) (n : Int) (by omega) (by omega) (by rw [hz2]; omega) (by omega)
  rw [h, hz1, Int.toNat_natCast, Nat.mul_one, show (Value.int .i64 0).cells = #[Value.int .i64 0] from rfl, replicate_cells]

/-- What weigh returns: the sum, the error. -/
def weighS (total : Int) (l : List Int) : Int × Int :=
  if natB total && (l.length != 0 && decide (l.length ≤ 512)) then
    if l.all natB then (if 1125899906842624 < l.sum then (0, 2) else if l.sum = 0 ∧ total ≠ 0 then (0, 10) else (l.sum, 0)) else (0, 1)
  else (0, 1)
theorem nat_bad (l : List Int) (k : Nat) (hk : k < l.length) (h : natB (l.getD k 0) = false) : l.all natB = false := by
  cases ha : l.all natB
  · rfl
  · have hm : l.getD k 0 ∈ l := by simp [hk]
    have := List.all_eq_true.1 ha _ hm
    rw [h] at this
    exact absurd this (by decide)
theorem nat_snoc (l : List Int) (k : Nat) (hk : k < l.length) (h : (l.take k).all natB = true) (h2 : natB (l.getD k 0) = true) : (l.take (k + 1)).all natB = true := by
  rw [take_snoc l k hk, List.all_append, h]
  simp only [List.all_cons, List.all_nil, h2, Bool.and_self]
theorem nat_bd (l : List Int) (h : l.all natB = true) : 0 ≤ l.sum ∧ l.sum ≤ 1125899906842624 * (l.length : Int) := by
  have := sum_bd 0 1125899906842624 l fun x hx => natB_true (List.all_eq_true.1 h x hx)
  omega
theorem nat_take (l : List Int) (k : Nat) (h : l.all natB = true) : (l.take k).all natB = true :=
  List.all_eq_true.2 fun x hx => List.all_eq_true.1 h x (List.mem_of_mem_take hx)

set_option maxHeartbeats 1000000 in
theorem weigh_any (total : Int) (l : List Int) (v : Value) (w : World) (h1 : -9223372036854775808 ≤ total) (h2 : total ≤ 9223372036854775807) (hl : l.length ≤ 4096) (hwd : Wide l) (h : IntsAt w v l) :
    Calls Tryd.prog 39 #[.int .i64 total, v] w fun e w' => e = .returned (.tuple #[.int .i64 (weighS total l).1, .int .i64 (weighS total l).2]) ∧ w = w' := by
  obtain ⟨a, cap, hv⟩ := h.len
  cases ht : natB total
  · rw [show weighS total l = (0, 1) by simp [weighS, ht], hv]
    clear h hwd hv
    go_enter Tryd.func39, Tryd.ntmps39
    go_wp2_with (go_at_call 37; refine (natural_any _ _ (by omega) (by omega)).mono ?_; rintro e w' ⟨rfl, rfl⟩)
    go_ret2
    exact ⟨rfl, rfl⟩
  have ht2 := natB_true ht
  by_cases hz : l.length = 0
  · rw [show weighS total l = (0, 1) by simp [weighS, hz], hv, hz]
    clear h hwd hv hz hl
    go_enter Tryd.func39, Tryd.ntmps39
    go_wp2_with (go_at_call 37; refine (natural_any _ _ (by omega) (by omega)).mono ?_; rintro e w' ⟨rfl, rfl⟩)
    go_ret2
    exact ⟨rfl, rfl⟩
  by_cases hb : 512 < l.length
  · have hbz : (512 : Int) < (l.length : Int) := by omega
    have hz0 : ((l.length : Int) == 0) = false := beq_eq_false_iff_ne.2 (by omega)
    rw [show weighS total l = (0, 1) by
      have : ¬ l.length ≤ 512 := by omega
      simp [weighS, this], hv]
    clear h hwd hv hz
    go_enter Tryd.func39, Tryd.ntmps39
    go_wp2_with (go_at_call 37; refine (natural_any _ _ (by omega) (by omega)).mono ?_; rintro e w' ⟨rfl, rfl⟩)
    go_ret2
    exact ⟨rfl, rfl⟩
  rcases h with ⟨rfl, _⟩ | ⟨b, o, cap, rfl, _, hlen1, hc⟩
  · exact absurd rfl hz
  clear hv
  have hW : weighS total l = if l.all natB then (if 1125899906842624 < l.sum then (0, 2) else if l.sum = 0 ∧ total ≠ 0 then (0, 10) else (l.sum, 0)) else (0, 1) := by
    have : l.length ≤ 512 := by omega
    have h0 : l ≠ [] := fun e => hz (by rw [e]; rfl)
    simp [weighS, ht, this, h0]
  obtain ⟨len, hlen⟩ : ∃ n, l.length = n := ⟨_, rfl⟩
  rw [hlen] at hl hz hb hlen1 ⊢
  have hz0 : ((len : Int) == 0) = false := beq_eq_false_iff_ne.2 (by omega)
  have hbz : ¬ (512 : Int) < (len : Int) := by omega
  have HC := Lib.hid hc
  have HL := Lib.hid hlen
  have HW := Lib.hid hW
  clear hc hlen hW hz hb
  go_enter Tryd.func39, Tryd.ntmps39
  go_wp2_with (go_at_call 37; refine (natural_any _ _ (by omega) (by omega)).mono ?_; rintro e w' ⟨rfl, rfl⟩)
  go_loop [6, 23] (fun s i => ∃ k : Nat, k ≤ len ∧ i = .int .i64 (k : Int) ∧ s = .int .i64 (l.take k).sum ∧ Hid ((l.take k).all natB = true)) (fun _ i => len - (intOf i).toNat)
  case atStart => exact ⟨0, by omega, rfl, rfl, rfl⟩
  case round =>
    obtain ⟨k, hk, rfl, rfl, hva⟩ := hrel
    have hbd := nat_bd _ hva.out
    have hll : (l.take k).length ≤ 4096 := by rw [List.length_take]; omega
    obtain ⟨A, hA⟩ : ∃ A, (l.take k).sum = A := ⟨_, rfl⟩
    rw [hA] at hbd ⊢
    have hA0 : 0 ≤ A ∧ A ≤ 4611686018427387904 := by omega
    clear hbd hll
    have HA := Lib.hid hA
    clear hA
    by_cases hlt : k < len
    · have hkl : k < l.length := by rw [HL.out]; exact hlt
      have hx := hwd k hkl
      have hcell := HC.out k hkl
      have hsn := Lib.hid (take_snoc l k hkl)
      have HBAD := Lib.hid (nat_bad l k hkl)
      have HGOOD := Lib.hid (nat_snoc l k hkl hva.out)
      obtain ⟨x, hxd⟩ : ∃ x, l.getD k 0 = x := ⟨_, rfl⟩
      rw [hxd] at hx hcell hsn HBAD HGOOD
      clear hxd hkl
      have hltz : (k : Int) < (len : Int) := by omega
      cases hv : natB x
      · have HF : Hid (weighS total l = (0, 1)) := by unfold Hid; rw [HW.out, HBAD.out hv]; rfl
        go_wp2_with (go_at_call 37; refine (natural_any _ _ (by omega) (by omega)).mono ?_; rintro e w' ⟨rfl, rfl⟩)
        go_ret2
        exact ⟨ret_pair (by rw [HF.out]) (by rw [HF.out]), rfl⟩
      · have hx2 := natB_true hv
        go_wp2_with (go_at_call 37; refine (natural_any _ _ (by omega) (by omega)).mono ?_; rintro e w' ⟨rfl, rfl⟩)
        go_round
        case rel => exact ⟨k + 1, by omega, by go_num, val_int' (by rw [hsn.out, List.sum_append, HA.out]; simp), HGOOD.out hv⟩
        case measure => simp only [intOf]; omega
    · have hnlt : ¬ (k : Int) < (len : Int) := by omega
      have htk : l.take k = l := by rw [List.take_of_length_le]; rw [HL.out]; omega
      have hva2 := hva.out
      rw [htk] at hva2
      have hA2 := HA.out
      rw [htk] at hA2
      have hS := HW.out
      rw [if_pos hva2, hA2] at hS
      have HS := Lib.hid hS
      clear htk hva2 hva hS hA2
      by_cases c1 : 1125899906842624 < A
      · have HF : Hid (weighS total l = (0, 2)) := by unfold Hid; rw [HS.out, if_pos c1]
        go_wp2_with (go_at_call 37; refine (natural_any _ _ (by omega) (by omega)).mono ?_; rintro e w' ⟨rfl, rfl⟩)
        go_ret2
        exact ⟨ret_pair (by rw [HF.out]) (by rw [HF.out]), rfl⟩
      · by_cases c2 : A = 0
        · subst c2
          by_cases c3 : total = 0
          · subst c3
            have HF : Hid (weighS 0 l = (0, 0)) := by unfold Hid; rw [HS.out]; rfl
            go_wp2_with (go_at_call 37; refine (natural_any _ _ (by omega) (by omega)).mono ?_; rintro e w' ⟨rfl, rfl⟩)
            go_ret2
            exact ⟨ret_pair (by rw [HF.out]) (by rw [HF.out]), rfl⟩
          · have c3z : (total != 0) = true := by rw [bne_iff_ne]; exact c3
            have HF : Hid (weighS total l = (0, 10)) := by unfold Hid; rw [HS.out, if_neg c1, if_pos ⟨rfl, c3⟩]
            go_wp2_with (go_at_call 37; refine (natural_any _ _ (by omega) (by omega)).mono ?_; rintro e w' ⟨rfl, rfl⟩)
            go_ret2
            exact ⟨ret_pair (by rw [HF.out]) (by rw [HF.out]), rfl⟩
        · have c2z : (A == 0) = false := beq_eq_false_iff_ne.2 c2
          have HF : Hid (weighS total l = (A, 0)) := by unfold Hid; rw [HS.out, if_neg c1, if_neg (fun h => c2 h.1)]
          clear c2
          go_wp2_with (go_at_call 37; refine (natural_any _ _ (by omega) (by omega)).mono ?_; rintro e w' ⟨rfl, rfl⟩)
          go_ret2
          exact ⟨ret_pair (by rw [HF.out]) (by rw [HF.out]), rfl⟩
end Go.Proofs.YtjgajcabecklcaaDoor
