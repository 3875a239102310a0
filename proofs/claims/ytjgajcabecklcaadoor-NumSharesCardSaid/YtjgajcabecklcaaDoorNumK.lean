/-
  The contract of fromLargest, of package num, wherever the library's stable sort has its contract; and that contract at fewer than 20 elements. Condition: at most 512 remainders.
-/
import Derived.Test.YtjgajcabecklcaaDoorNumJ
import Derived.Test.YtjgajcabecklcaaDoorShelf
import Derived.Deep.QuietTactic
import Derived.BigQuiet
namespace Go.Proofs.YtjgajcabecklcaaDoor
open Go.RowKit
set_option linter.unusedVariables false

/-- The comparison of fromLargest, at two indices: the greater number comes first. -/
def cfL (l : List Int) (n x y : Nat) : Int := Lib.compareInt (l.getD (y % n) 0) (l.getD (x % n) 0)
def encN (n : Nat) (x : Nat) : Value := .int .i64 ((x % n : Nat) : Int)
theorem encN_one (n : Nat) : OneCell (encN n) := fun _ => rfl

set_option maxHeartbeats 1000000 in
theorem cmp_any (l : List Int) (B0 b o cap i j : Nat) (w : World) (hbox : w.cell? ⟨B0, 0, none⟩ = some (.slice (some ⟨b, o, none⟩) l.length cap)) (hl : l.length ≤ 4096) (hi : i < l.length) (hj : j < l.length)
    (hc : ∀ k, k < l.length → w.cell? ⟨b, o + k, none⟩ = some (.int .i64 (l.getD k 0))) :
    Calls Tryd.prog 49 #[.int .i64 i, .int .i64 j, .pointer (some ⟨B0, 0, none⟩)] w fun e w' => e = .returned (.int .i64 (Lib.compareInt (l.getD j 0) (l.getD i 0))) ∧ ∃ q, w' = w.drewN q := by
  have ci := hc i hi
  have cj := hc j hj
  obtain ⟨len, hlen⟩ : ∃ n, l.length = n := ⟨_, rfl⟩
  rw [hlen] at hbox hl hi hj
  obtain ⟨x, hx⟩ : ∃ x, l.getD i 0 = x := ⟨_, rfl⟩
  obtain ⟨y, hy⟩ : ∃ y, l.getD j 0 = y := ⟨_, rfl⟩
  rw [hx] at ci ⊢
  rw [hy] at cj ⊢
  clear hx hy hc hlen
  have hiz : (i : Int) < (len : Int) := by omega
  have hjz : (j : Int) < (len : Int) := by omega
  go_enter Tryd.func49, Tryd.ntmps49
  go_wp2_with fail
  go_quiet ((go_at_call 50; exact Calls.quiet_of_same (Tryd.cmp_Compare_int _ _ _)))
  go_wp2_with fail
  go_ret
  exact ⟨rfl, _, rfl⟩

theorem sortWorld_cell {α : Type} [Inhabited α] (enc : α → Value) (w : World) (blk off m : Nat) (dk : Array α) (os : Array Obj) (a : Addr) (h1 : a.block ≠ blk) (h2 : a.block < w.heap.size) :
    (sortWorld enc w blk off m dk os).cell? a = w.cell? a := by
  unfold sortWorld
  rw [Sort.cell?_grow _ _ _ (by rw [size_putRow]; exact h2), Sort.cell?_putRow_other enc _ blk off dk a (Or.inl h1)]
  rfl
/-- A sort's world, below the block that is sorted. -/
theorem SW_below {α : Type} [Inhabited α] {enc : α → Value} {w W : World} {blk off : Nat} {dk : Array α} (h : SW enc w blk off dk W) (hb : blk < w.heap.size) : Below blk w W := by
  obtain ⟨m, os, rfl⟩ := h
  refine ⟨rfl, rfl, rfl, ?_, fun k hk => ?_⟩
  · unfold sortWorld
    rw [Sort.size_grow, size_putRow]
    exact Nat.le_add_right _ _
  · unfold sortWorld
    rw [Sort.heap_grow_old _ _ (by rw [size_putRow]; exact Nat.lt_trans hk hb)]
    simp only [Sort.putRow, Sort.mapBlock, Array.getElem?_modify]
    rw [if_neg (by omega)]
    rfl

theorem cmp_reads (l : List Int) (B0 b o cap blk : Nat) (w : World) (h0 : l.length ≠ 0) (hl : l.length ≤ 4096) (hbox : w.cell? ⟨B0, 0, none⟩ = some (.slice (some ⟨b, o, none⟩) l.length cap)) (hB : B0 ≠ blk) (hb : b ≠ blk)
    (hc : ∀ k, k < l.length → w.cell? ⟨b, o + k, none⟩ = some (.int .i64 (l.getD k 0))) :
    CmpReads Tryd.prog 49 #[.pointer (some ⟨B0, 0, none⟩)] (encN l.length) (cfL l l.length) blk 0 l.length w := fun m os dk _ x y => by
  have hx : x % l.length < l.length := Nat.mod_lt _ (by omega)
  have hy : y % l.length < l.length := Nat.mod_lt _ (by omega)
  refine cmp_any l B0 b o cap (x % l.length) (y % l.length) _ ?_ hl hx hy fun k hk => ?_
  · rw [sortWorld_cell _ _ _ _ _ _ _ _ hB (World.block_lt_of_cell? _ _ hbox)]; exact hbox
  · rw [sortWorld_cell _ _ _ _ _ _ _ _ hb (World.block_lt_of_cell? _ _ (hc k hk))]; exact hc k hk

/-- What is asked of the library's stable sort, at the comparison of fromLargest: the indices come out as 'out' says. -/
def SortsAs (l : List Int) (out : Array Nat) : Prop := out.size = l.length ∧ (∀ k, k < out.size → out[k]! < l.length) ∧
  ∀ (w : World) (blk cap g : Nat) (cb : Array Value), (∀ args w, (callFunc g args).run Tryd.prog w = .ok (.enter g args) w) → CmpReads Tryd.prog g cb (encN l.length) (cfL l l.length) blk 0 l.length w →
    Sort.Holds (encN l.length) w blk 0 (Array.range l.length) → blk < w.heap.size →
    Calls Tryd.prog 48 #[.slice (some ⟨blk, 0, none⟩) l.length cap, .func (.func g) #[] cb] w fun e w' => e = .returned (.tuple #[]) ∧ SW (encN l.length) w blk 0 out w'

set_option maxHeartbeats 1000000 in
theorem sort_small {α : Type} [Inhabited α] (enc : α → Value) (hO : OneCell enc) (cf : α → α → Int) (g : Nat) (cb : Array Value) (blk off cap : Nat) (d : Array α) (w : World)
    (eg : ∀ args w, (callFunc g args).run Tryd.prog w = .ok (.enter g args) w) (hcmp : CmpReads Tryd.prog g cb enc cf blk off d.size w) (hH : Sort.Holds enc w blk off d) (hn : d.size < 20) :
    Calls Tryd.prog 48 #[.slice (some ⟨blk, off, none⟩) d.size cap, .func (.func g) #[] cb] w fun e w' => e = .returned (.tuple #[]) ∧ SW enc w blk off (Sort.insertionSort (ltOf cf) d 0 d.size) w' := by
  have hI := Tryd.insertionSortCmpFunc_one enc hO cf g cb blk off cap 0 d.size d w eg hcmp hH (by omega) (Nat.le_refl _) (by omega)
  have HI := Lib.hid hI
  obtain ⟨n, hnd⟩ : ∃ n, d.size = n := ⟨_, rfl⟩
  rw [hnd] at hn
  have hnz : (n : Int) < 20 := by omega
  have hend : ∀ m, SW enc w blk off (Sort.insertionSort (ltOf cf) d 0 d.size) ((Sort.putRow enc w blk off (Sort.insertionSort (ltOf cf) d 0 d.size)).drewN m) := fun m => ⟨m, #[], (sortWorld_none _ _ _ _ _ _).symm⟩
  have HE := Lib.hid hend
  obtain ⟨R, hR⟩ : ∃ R, Sort.putRow enc w blk off (Sort.insertionSort (ltOf cf) d 0 d.size) = R := ⟨_, rfl⟩
  rw [hR, hnd] at HI
  rw [hR] at HE
  rw [hnd]
  rw [hnd] at HE
  clear hI hend hcmp hH hR
  have he2 : Calls Tryd.prog 64 #[.slice (some ⟨blk, off, none⟩) n cap, .int .i64 n, .func (.func g) #[] cb] w fun e w' => e = .returned (.tuple #[]) ∧ ∃ m, w' = R.drewN m := by
    clear hnd
    go_enter Tryd.func64, Tryd.ntmps64
    go_wp2_with fail
    go_loop [7, 8] (fun a b => a = .int .i64 0 ∧ b = .int .i64 20) (fun _ _ => 0)
    case atStart => exact ⟨rfl, rfl⟩
    case round =>
      obtain ⟨rfl, rfl⟩ := hrel
      go_wp2_with fail
      refine HI.out.mono ?_
      rintro e w' ⟨rfl, m, rfl⟩
      go_wp2_with fail
      go_loopw [6, 7, 8, 9] (fun bs a b c wr => bs = .int .i64 20 ∧ a = .int .i64 0 ∧ b = .int .i64 20 ∧ wr = R.drewN m) (fun _ _ _ _ _ => 0)
      case atStart => exact ⟨rfl, rfl, rfl, rfl⟩
      case round =>
        obtain ⟨rfl, rfl, rfl, rfl⟩ := hrel
        go_wp2_with fail
        go_end0
        exact ⟨rfl, m, rfl⟩
  have H2 := Lib.hid he2
  clear he2
  go_enter Tryd.func48, Tryd.ntmps48
  go_wp2_with fail
  refine H2.out.mono ?_
  rintro e w' ⟨rfl, m, rfl⟩
  go_wp2_with fail
  go_end0
  exact ⟨rfl, HE.out m⟩

/-- The indices below k have been written; all n places can be. -/
def Filled (w : World) (blk n k : Nat) : Prop := ∀ j, j < n → (∃ u, w.cell? ⟨blk, j, none⟩ = some u ∧ (j < k → u = .int .i64 (j : Int))) ∧ w.frozen? ⟨blk, j, none⟩ = false
theorem Filled.next {w : World} {blk n k : Nat} (h : Filled w blk n k) : Filled (w.setCell ⟨blk, k, none⟩ (.int .i64 (k : Int))) blk n (k + 1) := fun j hj => by
  obtain ⟨⟨u, hc, hu⟩, hf⟩ := h j hj
  refine ⟨?_, by rw [World.frozen?_setCell]; exact hf⟩
  by_cases e : k = j
  · subst e
    exact ⟨_, World.cell?_setCell_same _ _ _ hc, fun _ => rfl⟩
  · exact ⟨u, (World.cell?_setCell_other _ _ _ _ (by intro e'; simp only [Addr.mk.injEq] at e'; omega)).trans hc, fun h => hu (by omega)⟩
theorem Filled.start (w : World) (n : Nat) (t : TypeId) : Filled (w.alloc (.cells (Array.replicate n (.int .i64 0)) t)) w.heap.size n 0 := fun j hj =>
  ⟨⟨.int .i64 0, by rw [World.cell?_alloc_new]; simp [hj], fun h => by omega⟩, by rw [World.frozen?_alloc_new]⟩
theorem Filled.holds {w : World} {blk n : Nat} (h : Filled w blk n n) : Sort.Holds (encN n) w blk 0 (Array.range n) := fun j hj => by
  have hj' : j < n := by simpa using hj
  obtain ⟨⟨u, hc, hu⟩, hf⟩ := h j hj'
  rw [Nat.zero_add]
  refine ⟨?_, hf⟩
  rw [hc, hu hj']
  simp [encN, hj', Nat.mod_eq_of_lt hj']

set_option maxRecDepth 100000 in
set_option maxHeartbeats 1000000 in
theorem fromLargest_any (l : List Int) (out : Array Nat) (hS : SortsAs l out) (v : Value) (w : World) (h1 : 1 ≤ l.length) (hl : l.length ≤ 512) (h : IntsAt w v l) :
    Calls Tryd.prog 40 #[v] w fun e w' => ∃ blk, e = .returned (.slice (some ⟨blk, 0, none⟩) l.length l.length) ∧ w.heap.size ≤ blk ∧ blk < w'.heap.size ∧ Row w' blk (out.toList.map fun x : Nat => (x : Int)) ∧ Below w.heap.size w w' := by
  rcases h with ⟨rfl, _⟩ | ⟨b, o, cap, rfl, _, _, hc⟩
  · exact absurd h1 (by decide)
  have hbl : b < w.heap.size := World.block_lt_of_cell? _ _ (hc 0 (by omega))
  obtain ⟨hsz, hlt, hS⟩ := hS
  have HS := Lib.hid hS
  have HC := Lib.hid hc
  have HZ := Lib.hid hsz
  have HLT := Lib.hid hlt
  have hmk := make_ints l.length (by omega)
  have hcr := fun B0 W (hbox : World.cell? W ⟨B0, 0, none⟩ = some (.slice (some ⟨b, o, none⟩) l.length cap)) hB hb hc => cmp_reads l B0 b o cap (w.heap.size + 1) W (by omega) (by omega) hbox hB hb hc
  have HCR := Lib.hid hcr
  have eg : ∀ args w, (callFunc 49 args).run Tryd.prog w = .ok (.enter 49 args) w := enters_of Tryd.func49 (by kernel_rfl) rfl
  have EG := Lib.hid eg
  obtain ⟨n, hn⟩ : ∃ n, l.length = n := ⟨_, rfl⟩
  rw [hn] at h1 hl hmk HS HCR HC HZ HLT ⊢
  have HN := Lib.hid hn
  clear hS hc hcr eg hn hsz hlt
  go_enter Tryd.func40, Tryd.ntmps40
  go_wp2_with fail
  go_loopw [10] (fun i wr => ∃ k : Nat, k ≤ n ∧ i = .int .i64 (k : Int) ∧ Filled wr (w.heap.size + 1) n k ∧ wr.cell? ⟨w.heap.size, 0, none⟩ = some (.slice (some ⟨b, o, none⟩) n cap) ∧ Below w.heap.size w wr ∧ w.heap.size + 1 < wr.heap.size) (fun i _ => n - (intOf i).toNat)
  case atStart =>
    refine ⟨0, by omega, rfl, ?_, by simp, ?_, by simp⟩
    · have := Filled.start (w.alloc (.cells #[.slice (some ⟨b, o, none⟩) n cap] 27)) n 3
      simpa using this
    · exact ((Below.refl _ _).alloc (Nat.le_refl _) _).alloc (by simp) _
  case round =>
    obtain ⟨k, hk, rfl, hF, hbox, hB, hwl⟩ := hrel
    by_cases hkn : k < n
    · have hkz : (k : Int) < (n : Int) := by omega
      obtain ⟨⟨u, hcu, _⟩, hfz⟩ := hF k hkn
      have FN := Lib.hid hF.next
      have F0 := Lib.hid hF
      clear hF
      go_wp2
      go_roundw
      case rel =>
        refine ⟨k + 1, by omega, by go_num, FN.out, ?_, hB.setCell (by show _ ≤ w.heap.size + 1; omega) _, by simpa using hwl⟩
        rw [World.cell?_setCell_other _ _ _ _ (by intro e'; simp only [Addr.mk.injEq] at e'; omega)]
        exact hbox
      case measure => simp only [intOf]; omega
    · have hkz : ¬ (k : Int) < (n : Int) := by omega
      obtain rfl : k = n := by omega
      have hcw : ∀ j, j < k → wr.cell? ⟨b, o + j, none⟩ = some (.int .i64 (l.getD j 0)) := fun j hj => by
        rw [hB.cell (p := ⟨b, o + j, none⟩) hbl]
        exact HC.out j hj
      have hcr := HCR.out w.heap.size wr hbox (by omega) (by omega) (fun j hj => hcw j hj)
      have hsort := HS.out wr (w.heap.size + 1) k 49 #[.pointer (some ⟨w.heap.size, 0, none⟩)] EG.out hcr hF.holds hwl
      have hH := hF.holds
      have HH := Lib.hid hH
      have SO := Lib.hid hsort
      clear hcw hcr hsort hH hF hkn
      go_wp2_with fail
      refine SO.out.mono ?_
      rintro e w2 ⟨rfl, hsw⟩
      have SWh := Lib.hid hsw
      clear hsw
      go_wp2_with fail
      go_ret
      have hb2 := SW_below SWh.out hwl
      refine ⟨w.heap.size + 1, rfl, by omega, Nat.lt_of_lt_of_le hwl SWh.out.le, fun j hj => ?_, hB.trans (hb2.mono (by omega))⟩
      have hj' : j < out.size := by simpa using hj
      have := SWh.out.holds hwl HH.out (by rw [HZ.out]; simp) j hj'
      rw [Nat.zero_add] at this
      refine ⟨?_, this.2⟩
      rw [this.1]
      have hlt := HLT.out j hj'
      have e1 : out[j]! = out[j] := getElem!_pos out j hj'
      rw [e1] at hlt ⊢
      simp [encN, hj', Nat.mod_eq_of_lt hlt]
end Go.Proofs.YtjgajcabecklcaaDoor
