/-
  The contract of the table's open. Condition: at most 60000 bytes.
-/
import Derived.Test.YthafaococbdhoaaCrcZ
namespace Go.Proofs.Ythafaococbdhoaa
open Go.RowKit Go.Maps
set_option linter.unusedVariables false

/-- What Open returns. -/
def OpenP (w : World) (C : List UInt8) (X : Int) (E : Nat) (e : Ending) (w' : World) : Prop :=
  ∃ v, e = .returned (.tuple #[v, .int .i64 X, .int .i64 (E : Int)]) ∧ OwnB w' w.heap.size v C ∧ Below w.heap.size w w'
theorem retO {v : Value} {k : IntKind} {b c b' c' : Int} (h2 : b = b') (h3 : c = c') : Ending.returned (.tuple #[v, .int k b, .int k c]) = .returned (.tuple #[v, .int k b', .int k c']) := by rw [h2, h3]
theorem four {l : List UInt8} {k : Nat} (h : k + 4 ≤ l.length) : (l.drop k).take 4 = [l.getD k 0, l.getD (k + 1) 0, l.getD (k + 2) 0, l.getD (k + 3) 0] := by
  rw [dropB_cons l k (by omega), dropB_cons l (k + 1) (by omega), dropB_cons l (k + 1 + 1) (by omega), dropB_cons l (k + 1 + 1 + 1) (by omega)]
  rfl

set_option maxRecDepth 100000 in
set_option maxHeartbeats 4000000 in
theorem topen_any (b : Nat) (A : Option Addr) (l : List UInt8) (m c : Nat) (i : Int) (w : World) (C : List UInt8) (X : Int) (E : Nat) (hO : Op l i = (C, X, E)) (hm : l.length = m) (hl : m ≤ 60000) (hc : m ≤ c) (h : BytR w A l) (ht : TabK w b 256) (lo : -9223372036854775808 ≤ i) (hi : i ≤ 9223372036854775807) :
    Calls Try.prog 28 #[.pointer (some ⟨b, 0, none⟩), .slice A m c, .int .i64 i] w fun e w' => OpenP w C X E e w' := by
  have HI := Lib.hid (fun N X E hI => int_any A l m c i w N X E hI hm (by omega) hc h lo hi)
  rcases It_cases l i with ⟨E', h5, h6, _⟩ | ⟨k, x, n, rfl, h1, h2, h3, h4, _, h6⟩
  · rw [Op_err h5 h6] at hO
    simp only [Prod.mk.injEq] at hO
    obtain ⟨rfl, rfl, rfl⟩ := hO
    have HI2 := Lib.hid (HI.out _ _ _ h5)
    have hz : ¬ (E' : Int) = 0 := by omega
    clear h hm HI h5 ht
    go_enter Try.func28, Try.ntmps28
    go_wp2_with fail
    refine HI2.out.mono ?_
    rintro e w1 ⟨rfl, rfl⟩
    go_wp2_with fail
    go_ret3
    exact ⟨_, rfl, OwnB.nil w _, Below.refl _ _⟩
  have HI2 := Lib.hid (HI.out _ _ _ h6)
  rw [hm] at h2
  by_cases hneg : n < 0 ∨ 65536 < n
  · rw [Op_form h6 hneg] at hO
    simp only [Prod.mk.injEq] at hO
    obtain ⟨rfl, rfl, rfl⟩ := hO
    clear h hm HI h6 ht
    rcases hneg with hneg | hneg
    · go_enter Try.func28, Try.ntmps28
      go_wp2_with fail
      refine HI2.out.mono ?_
      rintro e w1 ⟨rfl, rfl⟩
      go_wp2_with fail
      go_ret3
      exact ⟨_, rfl, OwnB.nil w _, Below.refl _ _⟩
    · have hn0 : ¬ n < 0 := by omega
      go_enter Try.func28, Try.ntmps28
      go_wp2_with fail
      refine HI2.out.mono ?_
      rintro e w1 ⟨rfl, rfl⟩
      go_wp2_with fail
      go_ret3
      exact ⟨_, rfl, OwnB.nil w _, Below.refl _ _⟩
  obtain ⟨n, rfl⟩ : ∃ q : Nat, n = q := ⟨n.toNat, by omega⟩
  have hn : n ≤ 65536 := by omega
  have hn0 : ¬ (n : Int) < 0 := by omega
  have hn1 : ¬ (65536 : Int) < (n : Int) := by omega
  clear hneg h3 h4
  by_cases hx : m < x + n + 4
  · rw [Op_short h6 hn (by rw [hm]; exact hx)] at hO
    simp only [Prod.mk.injEq] at hO
    obtain ⟨rfl, rfl, rfl⟩ := hO
    have hxz : (m : Int) - (x : Int) < (n : Int) + 4 := by omega
    clear h hm HI h6 ht
    go_enter Try.func28, Try.ntmps28
    go_wp2_with fail
    refine HI2.out.mono ?_
    rintro e w1 ⟨rfl, rfl⟩
    go_wp2_with fail
    go_ret3
    exact ⟨_, rfl, OwnB.nil w _, Below.refl _ _⟩
  have hxz : ¬ (m : Int) - (x : Int) < (n : Int) + 4 := by omega
  obtain ⟨ab, o, rfl, hab, hcells⟩ := h.at (by omega)
  have k0 := hcells (x + n) (by omega)
  have k1 := hcells (x + n + 1) (by omega)
  have k2 := hcells (x + n + 2) (by omega)
  have k3 := hcells (x + n + 3) (by omega)
  rw [← Nat.add_assoc o (x + n)] at k1 k2 k3
  have h4 := four (l := l) (k := x + n) (by omega)
  obtain ⟨y0, hy0⟩ : ∃ y, l.getD (x + n) 0 = y := ⟨_, rfl⟩
  obtain ⟨y1, hy1⟩ : ∃ y, l.getD (x + n + 1) 0 = y := ⟨_, rfl⟩
  obtain ⟨y2, hy2⟩ : ∃ y, l.getD (x + n + 2) 0 = y := ⟨_, rfl⟩
  obtain ⟨y3, hy3⟩ : ∃ y, l.getD (x + n + 3) 0 = y := ⟨_, rfl⟩
  rw [hy0] at k0
  rw [hy1] at k1
  rw [hy2] at k2
  rw [hy3] at k3
  rw [hy0, hy1, hy2, hy3] at h4
  have HCL : Hid (((l.drop x).take n).length = n) := Lib.hid (by rw [List.length_take, List.length_drop]; omega)
  have HPART := Lib.hid (h.part x n)
  obtain ⟨P, hP⟩ : ∃ P, (l.drop x).take n = P := ⟨_, rfl⟩
  rw [hP] at HCL HPART
  have hcs := cs_lt P
  have HTS := Lib.hid (tsum_any b (some ⟨ab, o + x, none⟩) P n (c - x) w.drew HCL.out (by omega) HPART.out ht)
  have HCLN := Lib.hid (fun w1 (hb : Below w.heap.size w w1) => clone_any ab (o + x) P n (c - x) w1 HCL.out (by omega) (HPART.out.below hb))
  have e1 : IntKind.i64.wrap ((x : Int) + (n : Int)) = (x : Int) + (n : Int) := IntWalk.i64_in _ (by omega)
  have e2 : IntKind.i64.wrap ((x : Int) + (n : Int) + 4) = (x : Int) + (n : Int) + 4 := IntWalk.i64_in _ (by omega)
  have z1 : ¬ c = x := by omega
  have z2 : ¬ c = x + n := by omega
  have r1 : ∀ w : World, (Instr.sliceAt 22 (.slice (some ⟨ab, o, none⟩) m c) (some (.int .i64 ((x : Int) + (n : Int)))) (some (.int .i64 ((x : Int) + (n : Int) + 4))) none).run Try.prog w = .ok (.slice (some ⟨ab, o + (x + n), none⟩) 4 (c - (x + n))) w := fun w => by
    have := run_part w ab o m c (x + n) (x + n + 4) .i64 .i64 ((x : Int) + (n : Int)) ((x : Int) + (n : Int) + 4) (by omega) (by omega) (by omega) (by omega) (by omega)
    rwa [Nat.add_sub_cancel_left] at this
  have r2 : ∀ w : World, (Instr.sliceAt 22 (.slice (some ⟨ab, o, none⟩) m c) (some (.int .i64 (x : Int))) (some (.int .i64 ((x : Int) + (n : Int)))) none).run Try.prog w = .ok (.slice (some ⟨ab, o + x, none⟩) n (c - x)) w := fun w => by
    have := run_part w ab o m c x (x + n) .i64 .i64 (x : Int) ((x : Int) + (n : Int)) (by omega) (by omega) (by omega) (by omega) (by omega)
    rwa [Nat.add_sub_cancel_left] at this
  have r3 : ∀ w : World, (Instr.arrayAt 46 (.slice (some ⟨ab, o + (x + n), none⟩) 4 (c - (x + n)))).run Try.prog w = .ok (.pointer (some ⟨ab, o + (x + n), none⟩)) w := fun w => run_array w _ 4 _ (Nat.le_refl _)
  have rg4 : ∀ (w : World) (o1 o2 : Operand), (eqGuard .neq 46 o1 o2 (.agg #[.int .u8 (y0.toNat : Int), .int .u8 (y1.toNat : Int), .int .u8 (y2.toNat : Int), .int .u8 (y3.toNat : Int)]) (tailV (cs P))).run Try.prog w = .ok () w := fun w o1 o2 => run_guard4 w o1 o2 _ _
  by_cases hs : tail (cs P) = (l.drop (x + n)).take 4
  · rw [Op_ok h6 hn (by omega) (by rw [hP]; exact hs), hP] at hO
    simp only [Prod.mk.injEq] at hO
    obtain ⟨rfl, hX, rfl⟩ := hO
    have HX : Hid ((x : Int) + (n : Int) + 4 = X) := Lib.hid (by omega)
    have rq : ∀ w : World, (binOp .neq 46 (.agg #[.int .u8 (y0.toNat : Int), .int .u8 (y1.toNat : Int), .int .u8 (y2.toNat : Int), .int .u8 (y3.toNat : Int)]) (tailV (cs P))).run Try.prog w = .ok (.bool false) w := fun w => run_neq4 w (cs P) y0 y1 y2 y3 true (by rw [hs, h4]; simp)
    have HAB := Lib.hid hab
    clear h hm HI h6 ht hcells hy0 hy1 hy2 hy3 hP hs h4 hab e1 e2 hX
    go_enter Try.func28, Try.ntmps28
    go_wp2_with fail
    refine HI2.out.mono ?_
    rintro e w1 ⟨rfl, rfl⟩
    go_wp2_with fail
    go_region_held3 (fun w' => w'.cell? ⟨ab, o + (x + n), none⟩ = some (.int .u8 (y0.toNat : Int)) ∧ w'.cell? ⟨ab, o + (x + n) + 1, none⟩ = some (.int .u8 (y1.toNat : Int)) ∧ w'.cell? ⟨ab, o + (x + n) + 2, none⟩ = some (.int .u8 (y2.toNat : Int)) ∧ w'.cell? ⟨ab, o + (x + n) + 3, none⟩ = some (.int .u8 (y3.toNat : Int)))
      (first | exact ⟨k0, k1, k2, k3⟩ | exact ⟨(hB2.cell (p := ⟨ab, o + (x + n), none⟩) HAB.out).trans k0, (hB2.cell (p := ⟨ab, o + (x + n) + 1, none⟩) HAB.out).trans k1, (hB2.cell (p := ⟨ab, o + (x + n) + 2, none⟩) HAB.out).trans k2, (hB2.cell (p := ⟨ab, o + (x + n) + 3, none⟩) HAB.out).trans k3⟩ | go_keep)
      (first | (go_at_call 23; refine HTS.out.mono ?_; rintro e w2 ⟨rfl, rfl⟩) | (go_at_call 24; refine (sumBytes_any (cs P) _ hcs).mono ?_; rintro e w2 ⟨rfl, hB2⟩))
    all_goals
      have hB3 : Below w.heap.size w w2 := ⟨hB2.os, hB2.tape, hB2.output, hB2.size, hB2.block⟩
      have HC := Lib.hid (HCLN.out w2 hB3)
      clear HCLN HTS hB2
      go_wp2_with fail
      refine HC.out.mono ?_
      rintro e w3 ⟨v3, rfl, hO3, hB4⟩
      have HO3 := Lib.hid (hO3.out.mono hB3.size)
      have hB5 := Below.step hB3 hB4
      clear hO3 hB3 hB4 HC
      go_wp2_with fail
      go_ret3
      exact ⟨_, retO HX.out rfl, HO3.out, hB5⟩
  · rw [Op_sum h6 hn (by omega) (by rw [hP]; exact hs)] at hO
    simp only [Prod.mk.injEq] at hO
    obtain ⟨rfl, rfl, rfl⟩ := hO
    have rq : ∀ w : World, (binOp .neq 46 (.agg #[.int .u8 (y0.toNat : Int), .int .u8 (y1.toNat : Int), .int .u8 (y2.toNat : Int), .int .u8 (y3.toNat : Int)]) (tailV (cs P))).run Try.prog w = .ok (.bool true) w := fun w => run_neq4 w (cs P) y0 y1 y2 y3 false (by rw [← h4, eq_false hs]; simp)
    have HAB := Lib.hid hab
    clear h hm HI h6 ht hcells hy0 hy1 hy2 hy3 hP hs h4 hab e1 e2
    go_enter Try.func28, Try.ntmps28
    go_wp2_with fail
    refine HI2.out.mono ?_
    rintro e w1 ⟨rfl, rfl⟩
    go_wp2_with fail
    go_region_held3 (fun w' => w'.cell? ⟨ab, o + (x + n), none⟩ = some (.int .u8 (y0.toNat : Int)) ∧ w'.cell? ⟨ab, o + (x + n) + 1, none⟩ = some (.int .u8 (y1.toNat : Int)) ∧ w'.cell? ⟨ab, o + (x + n) + 2, none⟩ = some (.int .u8 (y2.toNat : Int)) ∧ w'.cell? ⟨ab, o + (x + n) + 3, none⟩ = some (.int .u8 (y3.toNat : Int)))
      (first | exact ⟨k0, k1, k2, k3⟩ | exact ⟨(hB2.cell (p := ⟨ab, o + (x + n), none⟩) HAB.out).trans k0, (hB2.cell (p := ⟨ab, o + (x + n) + 1, none⟩) HAB.out).trans k1, (hB2.cell (p := ⟨ab, o + (x + n) + 2, none⟩) HAB.out).trans k2, (hB2.cell (p := ⟨ab, o + (x + n) + 3, none⟩) HAB.out).trans k3⟩ | go_keep)
      (first | (go_at_call 23; refine HTS.out.mono ?_; rintro e w2 ⟨rfl, rfl⟩) | (go_at_call 24; refine (sumBytes_any (cs P) _ hcs).mono ?_; rintro e w2 ⟨rfl, hB2⟩))
    all_goals
      have hB3 : Below w.heap.size w w2 := ⟨hB2.os, hB2.tape, hB2.output, hB2.size, hB2.block⟩
      clear HCLN HTS hB2
      go_wp2_with fail
      go_ret3
      exact ⟨_, rfl, OwnB.nil w2 _, hB3⟩
end Go.Proofs.Ythafaococbdhoaa
