/-
  The contracts of with and Pop, and of lengths. Condition: a network that Check passes.
-/
import Derived.Test.YthomklpaafnjhaaRdC
import Derived.Test.YthomklpaafnjhaaRdE
import Derived.Deep.LoopGhost
namespace Go.Proofs.Ythomklpaafnjhaa
open Go.RowKit
set_option linter.unusedVariables false

theorem results_c {fn : Func} {p : Tmp} {ty : TypeId} (h : fn.results = #[.cell p ty]) (tmps : Array Value) (P : Program) (w : World) :
    (results fn tmps).run P w = ((asAddr (tmps.getD p undef)).run P w).andThen fun a w₁ => (loadVar ty a).run P w₁ := by
  simp only [results, h]
  simp [Sem.run_bind]
theorem with_any (a b e t s : Int) (ha : 0 ≤ a) (ha2 : a ≤ 1000000000) (hb : 0 ≤ b) (hb2 : b ≤ 1000000000) (hs : 0 ≤ s) (hs2 : s ≤ 1000) (w : World) :
    Calls Try.prog 38 #[.agg #[.int .i64 a, .int .i64 b], .agg #[.int .i64 e, .int .i64 t, .int .i64 s]] w fun en w' => en = .returned (.agg #[.int .i64 (a + s), .int .i64 (b + 1)]) ∧ Below w.heap.size w w' := by
  go_enter Try.func38, Try.ntmps38
  go_wp2_with fail
  try simp only [Exit.inBlock, Exit.then]
  refine bodyPost_ret (v := .agg #[.int .i64 (a + s), .int .i64 (b + 1)]) ?_ rfl ⟨rfl, ?_⟩
  · rw [results_c rfl]; go_simp
  exact (((((Below.refl _ _).alloc (Nat.le_refl _) _).alloc (by simp) _).alloc (by simp; omega) _))
def hdI : List It → It
  | [] => (0, 0)
  | x :: _ => x
theorem hdV_eq (V : List It) : hdV V = .tuple #[.agg #[.int .i64 (hdI V).1, .int .i64 (xS (hdI V).2), .int .i64 (xE (hdI V).2)], .bool (!V.isEmpty)] := by
  cases V with
  | nil => simp [hdV, hdI, x_zero.1, x_zero.2]
  | cons x V => rfl
theorem pop_any (b : Nat) (S : Nat → Prop) (dn : Bool) (N : Nat) (V : List It) (w : World) (H : QR w b S dn N V) (hN : N ≤ 100000) :
    Calls Try.prog 37 #[.pointer (some ⟨b, 0, none⟩)] w fun e w' => e = .returned (hdV V) ∧ QR w' b S dn N V.tail ∧ Keep S w w' := by
  cases V with
  | nil => exact (pop_none b S dn N w H).mono fun e w' ⟨h1, h2⟩ => ⟨h1, H.below h2, Keep.ofBelow h2⟩
  | cons x V => exact pop_some b S dn N x V w H hN
/-- A way in a block of its own. -/
structure VarW (w : World) (r : Nat) (x : It) : Prop where
  c0 : w.cell? ⟨r, 0, none⟩ = some (.int .i64 x.1)
  c1 : w.cell? ⟨r, 1, none⟩ = some (.int .i64 (xS x.2))
  c2 : w.cell? ⟨r, 2, none⟩ = some (.int .i64 (xE x.2))
  f0 : w.frozen? ⟨r, 0, none⟩ = false
  f1 : w.frozen? ⟨r, 1, none⟩ = false
  f2 : w.frozen? ⟨r, 2, none⟩ = false
theorem VarW.lt {w : World} {r : Nat} {x : It} (h : VarW w r x) : r < w.heap.size := World.block_lt_of_cell? _ _ h.c0
theorem VarW.keep {w w' : World} {r : Nat} {x : It} {S : Nat → Prop} (h : VarW w r x) (hk : Keep S w w') (hS : ¬ S r) : VarW w' r x := by
  have hr := h.lt
  refine ⟨?_, ?_, ?_, ?_, ?_, ?_⟩
  · rw [hk.cell (p := ⟨r, 0, none⟩) hr hS]; exact h.c0
  · rw [hk.cell (p := ⟨r, 1, none⟩) hr hS]; exact h.c1
  · rw [hk.cell (p := ⟨r, 2, none⟩) hr hS]; exact h.c2
  · rw [hk.frozen (p := ⟨r, 0, none⟩) hr hS]; exact h.f0
  · rw [hk.frozen (p := ⟨r, 1, none⟩) hr hS]; exact h.f1
  · rw [hk.frozen (p := ⟨r, 2, none⟩) hr hS]; exact h.f2
theorem VarW.below {w w' : World} {r : Nat} {x : It} (h : VarW w r x) (hB : Below w.heap.size w w') : VarW w' r x := h.keep (Keep.ofBelow (S := fun _ => False) hB) (fun e => e)
theorem VarW.made (w : World) (x : It) (t : TypeId) : VarW (w.alloc (.cells #[.int .i64 x.1, .int .i64 (xS x.2), .int .i64 (xE x.2)] t)) w.heap.size x :=
  ⟨by rw [World.cell?_alloc_new]; rfl, by rw [World.cell?_alloc_new]; rfl, by rw [World.cell?_alloc_new]; rfl, World.frozen?_alloc_new _ _ _ _, World.frozen?_alloc_new _ _ _ _, World.frozen?_alloc_new _ _ _ _⟩
/-- The world with a way written anew. -/
def putW (w : World) (r : Nat) (y : It) : World := ((w.setCell ⟨r, 0, none⟩ (.int .i64 y.1)).setCell ⟨r, 1, none⟩ (.int .i64 (xS y.2))).setCell ⟨r, 2, none⟩ (.int .i64 (xE y.2))
theorem VarW.put {w : World} {r : Nat} {x : It} (h : VarW w r x) (y : It) : VarW (putW w r y) r y := by
  unfold putW
  refine ⟨?_, ?_, ?_, by simp only [World.frozen?_setCell]; exact h.f0, by simp only [World.frozen?_setCell]; exact h.f1, by simp only [World.frozen?_setCell]; exact h.f2⟩
  · rw [World.cell?_setCell_other _ _ _ _ (by simp), World.cell?_setCell_other _ _ _ _ (by simp)]; exact World.cell?_setCell_same _ _ _ h.c0
  · rw [World.cell?_setCell_other _ _ _ _ (by simp)]; exact World.cell?_setCell_same _ _ _ (by rw [World.cell?_setCell_other _ _ _ _ (by simp)]; exact h.c1)
  · exact World.cell?_setCell_same _ _ _ (by rw [World.cell?_setCell_other _ _ _ _ (by simp), World.cell?_setCell_other _ _ _ _ (by simp)]; exact h.c2)
theorem Keep.putW (w : World) (r : Nat) (y : It) : Keep (fun k => k = r) w (Go.Proofs.Ythomklpaafnjhaa.putW w r y) := (((Keep.refl (fun k => k = r) w).set _ _ rfl).set _ _ rfl).set _ _ rfl

/-- The work between two rounds, in memory; cur: the way at hand and those in the queue. -/
structure Mid (w0 : World) (b g r N a m : Nat) (l : List Ed) (D : Nat → Option Nat) (wr : World) (cur : List It) (S : Nat → Prop) (p : Nat) (L : Nat → Option Nat) : Prop where
  q : QR wr b S false p cur.tail
  dj : Dj l N a D L cur
  len : LenR wr g N L
  cnt : p + unT l L m ≤ 1 + m
  bel : Below w0.heap.size w0 wr
  sS : ∀ k, S k → w0.heap.size ≤ k ∧ k ≠ g
  sr : w0.heap.size ≤ r ∧ ¬ S r ∧ r ≠ g ∧ r < wr.heap.size
  sg : w0.heap.size ≤ g
theorem Mid.len_le {w0 : World} {b g r N a m : Nat} {l : List Ed} {D : Nat → Option Nat} {wr : World} {cur : List It} {S : Nat → Prop} {p : Nat} {L : Nat → Option Nat} (h : Mid w0 b g r N a m l D wr cur S p L) (hm : m ≤ 512) : p ≤ 513 := by
  have := h.cnt; omega
/-- The next way is taken out of the queue, into a new variable. -/
theorem Mid.pop {w0 : World} {b g r N a m : Nat} {l : List Ed} {D : Nat → Option Nat} {wr w4 : World} {x : It} {V : List It} {S : Nat → Prop} {p : Nat} {L : Nat → Option Nat} (q : QR wr b S false p V) (len : LenR wr g N L) (bel : Below w0.heap.size w0 wr)
    (sS : ∀ k, S k → w0.heap.size ≤ k ∧ k ≠ g) (sg : w0.heap.size ≤ g) (cnt : p + unT l L m ≤ 1 + m) (dj : Dj l N a D L V)
    (q4 : QR w4 b S false p V.tail) (k4 : Keep S (wr.alloc (.cells #[.int .i64 x.1, .int .i64 (xS x.2), .int .i64 (xE x.2)] 65)) w4) :
    Mid w0 b g wr.heap.size N a m l D (putW w4 wr.heap.size (hdI V)) V S p L ∧ VarW (putW w4 wr.heap.size (hdI V)) wr.heap.size (hdI V) := by
  have hs := k4.size
  simp at hs
  have hr4 : wr.heap.size < w4.heap.size := by omega
  have hnS : ¬ S wr.heap.size := fun e => by have := q.lt _ e; omega
  have hbs : w0.heap.size ≤ wr.heap.size := bel.size
  have hk : Keep (fun k => S k) wr w4 := (Keep.alloc0 wr _).step k4
  have kp := Keep.putW w4 wr.heap.size (hdI V)
  have hgl : g < wr.heap.size := Blk.lt len
  refine ⟨⟨q4.keep kp (fun k e e2 => hnS (by rw [← e2]; exact e)), dj, (Blk.keep len hk (fun e => (sS g e).2 rfl)).keep kp (by omega), cnt, ?_, sS, ⟨hbs, hnS, by omega, Nat.lt_of_lt_of_le hr4 kp.size⟩, sg⟩, ?_⟩
  · refine bel.trans ?_
    exact (hk.below (fun k e => (sS k e).1) hbs).trans (kp.below (fun k e => by rw [e]; exact hbs) (by omega))
  · exact (VarW.keep (VarW.made wr x _) k4 hnS).put _
end Go.Proofs.Ythomklpaafnjhaa
