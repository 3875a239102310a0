/-
  The contracts of Ints, of the package and of its specification. Condition: at most 100000 bytes.
-/
import Derived.Test.YtlanbilcekepnaaWirJ
namespace Go.Proofs.Ytlanbilcekepnaa
open Go.RowKit Go.Maps
set_option linter.unusedVariables false

/-- What Ints returns. -/
def IntsP (w : World) (L : List Int) (X : Int) (E : Nat) (e : Ending) (w' : World) : Prop :=
  ∃ v, e = .returned (.tuple #[v, .int .i64 X, .int .i64 (E : Int)]) ∧ OwnI w' w.heap.size v L ∧ Below w.heap.size w w'
theorem retL {v : Value} {k : IntKind} {b c b' c' : Int} (h2 : b = b') (h3 : c = c') : Ending.returned (.tuple #[v, .int k b, .int k c]) = .returned (.tuple #[v, .int k b', .int k c']) := by rw [h2, h3]

set_option maxRecDepth 100000 in
set_option maxHeartbeats 1000000 in
theorem ints_any (A : Option Addr) (l : List UInt8) (m c : Nat) (i : Int) (w : World) (L : List Int) (X : Int) (E : Nat) (hL : Ls l i = (L, X, E)) (hm : l.length = m) (hl : m ≤ 100000) (hc : m ≤ c) (h : BytR w A l) (lo : -9223372036854775808 ≤ i) (hi : i ≤ 9223372036854775807) :
    Calls Try.prog 23 #[.slice A m c, .int .i64 i] w fun e w' => IntsP w L X E e w' := by
  have HI := Lib.hid (fun N X E hI => length_any A l m c i w N X E hI hm (by omega) hc h lo hi)
  rcases Ln_cases l i with ⟨E', h5, h6, _⟩ | ⟨k, x, n, rfl, h1, h2, h3, _, _, h6⟩
  · rw [Ls_err h5 h6] at hL
    simp only [Prod.mk.injEq] at hL
    obtain ⟨rfl, rfl, rfl⟩ := hL
    have HI2 := Lib.hid (HI.out _ _ _ h5)
    have hz : ¬ (E' : Int) = 0 := by omega
    clear h hm HI h5
    go_enter Try.func23, Try.ntmps23
    go_wp2_with fail
    refine HI2.out.mono ?_
    rintro e w1 ⟨rfl, rfl⟩
    go_wp2_with fail
    go_ret3
    exact ⟨_, rfl, OwnI.nil w _, Below.refl _ _⟩
  · have HI2 := Lib.hid (HI.out _ _ _ h6)
    rw [hm] at h2
    rw [Ls_ok h6] at hL
    have HRD := Lib.hid hL
    have HR := Lib.hid h
    have HM := Lib.hid hm
    clear h hm HI h6 hL
    go_enter Try.func23, Try.ntmps23
    go_wp2_with fail
    refine HI2.out.mono ?_
    rintro e w1 ⟨rfl, rfl⟩
    go_wp2_with fail
    go_loopw [4, 5, 20] (fun v y i wr => ∃ (t y' : Nat) (acc : List Int), t ≤ n ∧ i = .int .i64 (t : Int) ∧ y = .int .i64 (y' : Int) ∧ y' ≤ m ∧ Hid (acc.length ≤ y') ∧ Hid (rd l (n - t) (y' : Int) acc = (L, X, E)) ∧ Hid (OwnI wr w.heap.size v acc) ∧ Below w.heap.size w wr) (fun _ _ i _ => n - (intOf i).toNat)
    case atStart => exact ⟨0, x, [], by omega, rfl, rfl, h2, Lib.hid (by simp), HRD, Lib.hid (OwnI.nil w _), Below.refl _ _⟩
    case round =>
      obtain ⟨t, y, acc, ht, rfl, rfl, hy, hacc, hrd, hO, hB⟩ := hrel
      by_cases hlt : t < n
      · have hltz : (t : Int) < (n : Int) := by omega
        have HI3 := Lib.hid (fun N X E hI => int_any A l m c (y : Int) wr N X E hI HM.out (by omega) hc (HR.out.below hB) (by omega) (by omega))
        obtain ⟨q, hq⟩ : ∃ q, n - t = q + 1 := ⟨n - t - 1, by omega⟩
        have hrd' := hrd.out
        rw [hq] at hrd'
        rcases It_cases l (y : Int) with ⟨E', h5, h6, _⟩ | ⟨k', y2, v2, hk', g1, g2, g3, g4, _, g6⟩
        · rw [rd_err h5 h6] at hrd'
          simp only [Prod.mk.injEq] at hrd'
          obtain ⟨rfl, rfl, rfl⟩ := hrd'
          have HI4 := Lib.hid (HI3.out _ _ _ h5)
          have hz : ¬ (E' : Int) = 0 := by omega
          clear HI3 h5 hq hrd hacc hO
          go_wp2_with fail
          refine HI4.out.mono ?_
          rintro e w2 ⟨rfl, rfl⟩
          go_wp2_with fail
          go_ret3
          exact ⟨_, rfl, OwnI.nil wr _, hB⟩
        · rw [rd_ok g6] at hrd'
          have HI4 := Lib.hid (HI3.out _ _ _ g6)
          have hq2 : q = n - (t + 1) := by omega
          rw [hq2] at hrd'
          have HRD2 := Lib.hid hrd'
          have HLEN := Lib.hid (show acc.length ≤ 100000 by have := hacc.out; omega)
          have hyk : y = k' := by omega
          have HACC2 : Hid ((acc ++ [v2]).length ≤ y2) := Lib.hid (by
            have := hacc.out
            rw [List.length_append, List.length_singleton]
            omega)
          rw [HM.out] at g2
          have hsz := hB.size
          clear HI3 g6 hq hq2 hrd hrd' hacc hk' hyk
          go_wp2_with fail
          refine HI4.out.mono ?_
          rintro e w2 ⟨rfl, rfl⟩
          go_wp2_with (at_builtin; refine wpList_append_int rfl _ _ rfl w.heap.size _ acc rfl (hO.out.alloc _) _ _ v2 rfl ?y0 HLEN.out ?y2 ?_)
          case y0 => rw [World.cell?_alloc_new]; rfl
          case y2 => first | omega | (simp; omega)
          intro v3 w3 hO3 hB3
          have hB4 : Below w.heap.size w w3 := (hB.alloc (by omega) _).trans hB3
          clear hB3 hB hO
          go_wp2_with fail
          go_roundw
          case rel => exact ⟨t + 1, y2, _, by omega, by go_num, rfl, by omega, HACC2, HRD2, hO3, hB4⟩
          case measure => simp only [intOf]; omega
      · have hnlt : ¬ (t : Int) < (n : Int) := by omega
        have hrd' := hrd.out
        rw [show n - t = 0 by omega, rd] at hrd'
        simp only [Prod.mk.injEq] at hrd'
        obtain ⟨rfl, rfl, rfl⟩ := hrd'
        clear hrd hacc HRD
        go_wp2_with fail
        go_ret3
        exact ⟨_, rfl, hO.out, hB⟩
end Go.Proofs.Ytlanbilcekepnaa
