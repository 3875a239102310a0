/-
  The contract of Merge, for items. Condition: at most 100000 pushes.
-/
import Derived.Test.YtkbfpkejogdieaaPqI
import Derived.Deep.LoopGhost
import Derived.LaidEqlPtr
namespace Go.Proofs.Ytkbfpkejogdieaa
open Go.RowKit
set_option linter.unusedVariables false

theorem pop_any (b : Nat) (S : Nat → Prop) (dn : Bool) (N : Nat) (V : List It) (w : World) (H : QR w b S dn N V) (hN : N ≤ 100000) :
    Calls Try.prog 19 #[.pointer (some ⟨b, 0, none⟩)] w fun e w' => e = .returned (hdV V) ∧ QR w' b S dn N V.tail ∧ Keep S w w' := by
  cases V with
  | nil => exact (pop_none b S dn N w H).mono fun e w' ⟨he, hB⟩ => ⟨he, H.below hB, Keep.ofBelow hB⟩
  | cons x V => exact pop_some b S dn N x V w H hN
theorem push_nil (x : It) (w : World) : Calls Try.prog 16 #[.pointer none, .agg #[.int .i64 x.1, .int .i64 x.2]] w fun e w' => e = .returned (.tuple #[]) ∧ Below w.heap.size w w' := by
  obtain ⟨x0, x1⟩ := x
  go_enter Try.func16, Try.ntmps16
  go_wp2_with fail
  try simp only [Exit.inBlock, Exit.then]
  first | go_end0 | refine bodyPost_ret (results_none rfl _ _ _) rfl ?_
  exact ⟨rfl, (Below.refl w.heap.size w).alloc (Nat.le_refl _) _⟩
theorem merge_nilq (p : Option Addr) (w : World) : Calls Try.prog 23 #[.pointer none, .pointer p] w fun e w' => e = .returned (.tuple #[]) ∧ Below w.heap.size w w' := by
  go_enter Try.func23, Try.ntmps23
  go_wp2_with fail
  try simp only [Exit.inBlock, Exit.then]
  first | go_end0 | refine bodyPost_ret (results_none rfl _ _ _) rfl ?_
  exact ⟨rfl, Below.refl _ _⟩
theorem size_que : (Try.prog.info? 61).map (·.size) = some 3 := by kernel_rfl
theorem ptr_same (a : Addr) (w : World) : (binOp .eql 24 (.pointer (some a)) (.pointer (some a))).run Try.prog w = .ok (.bool true) w := by
  have hs := size_que
  cases hj : Try.prog.info? 61 with
  | none => rw [hj] at hs; cases hs
  | some j => exact run_eql_ptr_same w a Try.underlying24 hj
theorem ptr_other (p q : Nat) (w : World) (hpq : ¬ p = q) (hp : BlkC w p) (hq : BlkC w q) : (binOp .eql 24 (.pointer (some ⟨p, 0, none⟩)) (.pointer (some ⟨q, 0, none⟩))).run Try.prog w = .ok (.bool false) w := by
  have hs := size_que
  cases hj : Try.prog.info? 61 with
  | none => rw [hj] at hs; cases hs
  | some j =>
    rw [hj] at hs
    have hs2 : j.size = 3 := by simpa using hs
    obtain ⟨ca, ta, ha⟩ := hp
    obtain ⟨cb, tb, hb⟩ := hq
    exact run_eql_ptr_other w Try.underlying24 hj (by omega) (fun e => hpq (by injection e)) ha hb
theorem merge_same (q : Nat) (w : World) : Calls Try.prog 23 #[.pointer (some ⟨q, 0, none⟩), .pointer (some ⟨q, 0, none⟩)] w fun e w' => e = .returned (.tuple #[]) ∧ Below w.heap.size w w' := by
  have hpe := ptr_same ⟨q, 0, none⟩
  go_enter Try.func23, Try.ntmps23
  go_wp2_with fail
  try simp only [Exit.inBlock, Exit.then]
  first | go_end0 | refine bodyPost_ret (results_none rfl _ _ _) rfl ?_
  exact ⟨rfl, Below.refl _ _⟩
/-- A variable that holds an item. -/
structure VarI (w : World) (r : Nat) (x : It) : Prop where
  c0 : w.cell? ⟨r, 0, none⟩ = some (.int .i64 x.1)
  c1 : w.cell? ⟨r, 1, none⟩ = some (.int .i64 x.2)
  f0 : w.frozen? ⟨r, 0, none⟩ = false
  f1 : w.frozen? ⟨r, 1, none⟩ = false
theorem VarI.lt {w : World} {r : Nat} {x : It} (h : VarI w r x) : r < w.heap.size := World.block_lt_of_cell? _ _ h.c0
theorem VarI.keep {w w' : World} {r : Nat} {x : It} {S : Nat → Prop} (h : VarI w r x) (hk : Keep S w w') (hS : ¬ S r) : VarI w' r x := by
  obtain ⟨h0, h1, h2, h3⟩ := h
  have hr := World.block_lt_of_cell? _ _ h0
  refine ⟨?_, ?_, ?_, ?_⟩
  · rw [hk.cell (p := ⟨r, 0, none⟩) hr hS]; exact h0
  · rw [hk.cell (p := ⟨r, 1, none⟩) hr hS]; exact h1
  · rw [hk.frozen (p := ⟨r, 0, none⟩) hr hS]; exact h2
  · rw [hk.frozen (p := ⟨r, 1, none⟩) hr hS]; exact h3
theorem VarI.made (w : World) (x : It) (t : TypeId) : VarI (w.alloc (.cells #[.int .i64 x.1, .int .i64 x.2] t)) w.heap.size x :=
  ⟨by rw [World.cell?_alloc_new]; rfl, by rw [World.cell?_alloc_new]; rfl, World.frozen?_alloc_new _ _ _ _, World.frozen?_alloc_new _ _ _ _⟩
theorem VarI.below {w w' : World} {r : Nat} {x : It} (h : VarI w r x) (hB : Below w.heap.size w w') : VarI w' r x := h.keep (Keep.ofBelow (S := fun _ => False) hB) (fun e => e)
theorem VarI.set {w : World} {r : Nat} {x : It} (h : VarI w r x) (y : It) : VarI ((w.setCell ⟨r, 0, none⟩ (.int .i64 y.1)).setCell ⟨r, 1, none⟩ (.int .i64 y.2)) r y := by
  obtain ⟨h0, h1, h2, h3⟩ := h
  refine ⟨?_, ?_, ?_, ?_⟩
  · rw [World.cell?_setCell_other _ _ _ _ (by simp)]; exact World.cell?_setCell_same _ _ _ h0
  · exact World.cell?_setCell_same _ _ _ (by rw [World.cell?_setCell_other _ _ _ _ (by simp)]; exact h1)
  · simp only [World.frozen?_setCell]; exact h2
  · simp only [World.frozen?_setCell]; exact h3
/-- The item that Peek and Pop answer. -/
def hdI : List It → It
  | [] => (0, 0)
  | x :: _ => x
theorem hdV_eq (V : List It) : hdV V = .tuple #[.agg #[.int .i64 (hdI V).1, .int .i64 (hdI V).2], .bool (!V.isEmpty)] := by
  cases V <;> rfl

set_option maxRecDepth 100000 in
set_option maxHeartbeats 2000000 in
theorem merge_any (q p : Nat) (Sq Sp : Nat → Prop) (dq dp : Bool) (Nq Np : Nat) (Vq Vp : List It) (w : World) (Hq : QR w q Sq dq Nq Vq) (Hp : QR w p Sp dp Np Vp) (hdis : ∀ k, Sq k → ¬ Sp k) (hN : Nq + Vp.length ≤ 100000) (hNp : Np ≤ 100000) :
    Calls Try.prog 23 #[.pointer (some ⟨q, 0, none⟩), .pointer (some ⟨p, 0, none⟩)] w fun e w' => e = .returned (.tuple #[]) ∧ ∃ Sq', QR w' q Sq' dq (Nq + Vp.length) (Vp.foldl (fun V x => insR (kI dq) x V) Vq) ∧ QR w' p Sp dp Np [] ∧
      Keep (fun k => Sq k ∨ Sp k) w w' ∧ (∀ k, Sq' k → Sq k ∨ w.heap.size ≤ k) ∧ ∀ k, Sq' k → ¬ Sp k := by
  have hpq : ¬ p = q := fun e => hdis q Hq.sb (e ▸ Hp.sb)
  have hpe := ptr_other p q w hpq Hp.blk Hq.blk
  have HPOP := Lib.hid (pop_any p Sp dp Np Vp w Hp hNp)
  rw [hdV_eq] at HPOP
  have HQ := Lib.hid Hq
  have HPP := Lib.hid Hp
  have HDIS := Lib.hid hdis
  obtain ⟨b0, hb0⟩ : ∃ b, (!Vp.isEmpty) = b := ⟨_, rfl⟩
  obtain ⟨x0, hx0⟩ : ∃ x, hdI Vp = x := ⟨_, rfl⟩
  rw [hb0, hx0] at HPOP
  have HB0 := Lib.hid hb0
  have HX0 := Lib.hid hx0
  clear Hq Hp hdis hb0 hx0
  go_enter Try.func23, Try.ntmps23
  go_wp2_with fail
  refine HPOP.out.mono ?_
  rintro e w1 ⟨rfl, hp1, hk1⟩
  have HP1 := Lib.hid hp1
  have HK1 := Lib.hid hk1
  clear HPOP hp1 hk1
  go_wp2_with fail
  go_loopg [4, 5] Vp.length (fun gh vx vo wr => ∃ (P D : List It) (Sq' : Nat → Prop) (r : Nat), P.length = gh ∧ Hid (Vp = D ++ P) ∧ vx = .pointer (some ⟨r, 0, none⟩) ∧ vo = .bool (!P.isEmpty) ∧ Hid (VarI wr r (hdI P)) ∧ Hid (QR wr q Sq' dq (Nq + D.length) (D.foldl (fun V x => insR (kI dq) x V) Vq)) ∧ Hid (QR wr p Sp dp Np P.tail) ∧
    Hid (Keep (fun k => Sq k ∨ Sp k) w wr) ∧ Hid (∀ k, Sq' k → Sq k ∨ w.heap.size ≤ k) ∧ Hid (∀ k, Sq' k → ¬ Sp k) ∧ Hid (w.heap.size ≤ r ∧ ¬ Sq' r))
  case atStart =>
    have hs : w.heap.size ≤ w1.heap.size := HK1.out.size
    have hqw1 : QR w1 q Sq dq Nq Vq := HQ.out.keep HK1.out HDIS.out
    refine ⟨Vp, [], Sq, w1.heap.size, rfl, Lib.hid rfl, rfl, by rw [HB0.out], Lib.hid ?_, Lib.hid (hqw1.keep (S' := fun _ => False) (Keep.alloc0 _ _) (fun _ _ e => e)), Lib.hid (HP1.out.keep (S' := fun _ => False) (Keep.alloc0 _ _) (fun _ _ e => e)), Lib.hid ?_, Lib.hid (fun k e => Or.inl e), HDIS, Lib.hid ⟨hs, fun e => by have := hqw1.lt _ e; omega⟩⟩
    · rw [HX0.out]; exact VarI.made w1 x0 _
    · exact (HK1.out.mono (fun k e => Or.inr e)).alloc _
  case round =>
    obtain ⟨P, D, Sq', r, hPg, HVP, rfl, rfl, HVR, HQR, HPR, HK, HS1, HS2, HR⟩ := hrel
    cases P with
    | nil =>
      have HE : Hid (QR wr q Sq' dq (Nq + Vp.length) (Vp.foldl (fun V x => insR (kI dq) x V) Vq)) := Lib.hid (by
        have e := HVP.out
        rw [List.append_nil] at e
        rw [e]; exact HQR.out)
      rw [show (!([] : List It).isEmpty) = false from rfl]
      clear HQR HVP
      go_wp2_with fail
      go_end0
      exact ⟨rfl, Sq', HE.out, HPR.out, HK.out, HS1.out, HS2.out⟩
    | cons x P =>
      rw [show (!(x :: P).isEmpty) = true from rfl]
      have HPR' : Hid (QR wr p Sp dp Np P) := HPR
      have HVR' : Hid (VarI wr r x) := HVR
      obtain ⟨r0, r1, r2, r3⟩ := HVR'.out
      have hlen : D.length + (P.length + 1) = Vp.length := by rw [HVP.out, List.length_append, List.length_cons]
      have HPUSH := Lib.hid (push_any q Sq' dq (Nq + D.length) _ x wr HQR.out (by omega))
      clear HPR HVR
      go_wp2_with fail
      refine HPUSH.out.mono ?_
      rintro e w2 ⟨rfl, S2, hq2, hk2, hs2⟩
      have hr2 := HVR'.out.keep hk2 HR.out.2
      obtain ⟨r0, r1, r2, r3⟩ := hr2
      have HQ2 := Lib.hid hq2
      have hS2p : ∀ k, S2 k → ¬ Sp k := fun k e e2 => by
        rcases hs2 k e with h | h
        · exact HS2.out k h e2
        · have := HPR'.out.lt k e2; omega
      have HS2P := Lib.hid hS2p
      have hSS : ∀ k, S2 k → Sq k ∨ w.heap.size ≤ k := fun k e => by
        rcases hs2 k e with h | h
        · exact HS1.out k h
        · exact Or.inr (Nat.le_trans HK.out.size h)
      have HSS := Lib.hid hSS
      have hk02 : Keep (fun k => Sq k ∨ Sp k) w w2 := HK.out.trans hk2 (fun k e => by
        rcases HS1.out k e with h | h
        · exact Or.inl (Or.inl h)
        · exact Or.inr h)
      have HK02 := Lib.hid hk02
      have hp2 : QR w2 p Sp dp Np P := HPR'.out.keep hk2 (fun k e e2 => HS2.out k e2 e)
      have HPOP := Lib.hid (pop_any p Sp dp Np P (w2.alloc (.cells #[.int .i64 x.1, .int .i64 x.2] 27)) (hp2.keep (S' := fun _ => False) (Keep.alloc0 _ _) (fun _ _ e => e)) hNp)
      rw [hdV_eq] at HPOP
      obtain ⟨b2, hb2⟩ : ∃ b, (!P.isEmpty) = b := ⟨_, rfl⟩
      obtain ⟨x2, hx2⟩ : ∃ x, hdI P = x := ⟨_, rfl⟩
      rw [hb2, hx2] at HPOP
      have HB2 := Lib.hid hb2
      have HX2 := Lib.hid hx2
      have HP2 := Lib.hid hp2
      have hww : w.heap.size ≤ w2.heap.size := hk02.size
      clear hq2 hk2 hs2 hS2p hSS hk02 hp2 HPUSH hb2 hx2
      go_wp2_with fail
      refine HPOP.out.mono ?_
      rintro e w4 ⟨rfl, hp4, hk4⟩
      have hv4 : VarI w4 w2.heap.size x := (VarI.made w2 x 27).keep hk4 (fun e => by have := HP2.out.lt _ e; omega)
      obtain ⟨v0, v1, v2, v3⟩ := hv4
      have HV4 : Hid (VarI w4 w2.heap.size x) := Lib.hid ⟨v0, v1, v2, v3⟩
      have HP4 := Lib.hid hp4
      have HK4 : Hid (Keep Sp w2 w4) := Lib.hid ((Keep.alloc0 w2 _).trans (S := Sp) hk4 (fun k e => Or.inl e))
      clear hp4 hk4 r0 r1 r2 r3
      go_wp2_with fail
      have K25 : Keep (fun k => Sp k ∨ k = w2.heap.size) w2 ((w4.setCell ⟨w2.heap.size, 0, none⟩ (.int .i64 x2.1)).setCell ⟨w2.heap.size, 1, none⟩ (.int .i64 x2.2)) :=
        ((HK4.out.mono (S' := fun k => Sp k ∨ k = w2.heap.size) (fun k e => Or.inl e)).set _ _ (Or.inr rfl)).set _ _ (Or.inr rfl)
      go_roundg P.length
      case measure => simp at hPg; omega
      case rel =>
        refine ⟨P, D ++ [x], S2, w2.heap.size, rfl, Lib.hid (by rw [HVP.out]; simp), rfl, by rw [HB2.out], Lib.hid ?_, Lib.hid ?_, Lib.hid ?_, Lib.hid ?_, HSS, HS2P, Lib.hid ⟨hww, fun e => by have := HQ2.out.lt _ e; omega⟩⟩
        · rw [HX2.out]; exact HV4.out.set x2
        · rw [List.foldl_append, List.length_append]
          exact HQ2.out.keep K25 (fun k e e2 => by
            rcases e2 with e2 | e2
            · exact HS2P.out k e e2
            · have := HQ2.out.lt k e; omega)
        · exact HP4.out.keep (S' := fun k => k = w2.heap.size) (((Keep.refl (fun k => k = w2.heap.size) w4).set _ _ rfl).set _ _ rfl) (fun k e e2 => by have := HP2.out.lt k e; omega)
        · exact HK02.out.trans K25 (fun k e => by
            rcases e with e | e
            · exact Or.inl (Or.inr e)
            · exact Or.inr (by omega))
end Go.Proofs.Ytkbfpkejogdieaa
