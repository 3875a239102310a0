/-
  The contract of the specification's Ints; both Same at equal lists; part. Condition: at most 100000 bytes.
-/
import Derived.Test.YtlanbilcekepnaaWirK
namespace Go.Proofs.Ytlanbilcekepnaa
open Go.RowKit Go.Maps
set_option linter.unusedVariables false

def lenV : Value → Nat
  | .slice _ n _ => n
  | _ => 0

set_option maxRecDepth 100000 in
set_option maxHeartbeats 1000000 in
theorem refInts_any (A : Option Addr) (l : List UInt8) (m c : Nat) (i : Int) (w : World) (L : List Int) (X : Int) (E : Nat) (hL : Ls l i = (L, X, E)) (hm : l.length = m) (hl : m ≤ 100000) (h : BytR w A l) (lo : -9223372036854775808 ≤ i) (hi : i ≤ 9223372036854775807) :
    Calls Try.prog 24 #[.slice A m c, .int .i64 i] w fun e w' => IntsP w L X E e w' := by
  have HI := Lib.hid (fun N X E hI => refInt_any A l m c i w N X E hI hm (by omega) h lo hi)
  rcases It_cases l i with ⟨E', h5, h6, _⟩ | ⟨k, x, n, rfl, h1, h2, h3, h4, _, h6⟩
  · rw [Ls_err (Ln_err h5) h6] at hL
    simp only [Prod.mk.injEq] at hL
    obtain ⟨rfl, rfl, rfl⟩ := hL
    have HI2 := Lib.hid (HI.out _ _ _ h5)
    have hz : ¬ (E' : Int) = 0 := by omega
    clear h hm HI h5
    go_enter Try.func24, Try.ntmps24
    go_wp2_with fail
    refine HI2.out.mono ?_
    rintro e w1 ⟨rfl, rfl⟩
    go_wp2_with fail
    go_ret3
    exact ⟨_, rfl, OwnI.nil w _, Below.refl _ _⟩
  have HI2 := Lib.hid (HI.out _ _ _ h6)
  rw [hm] at h2
  by_cases hneg : n < 0
  · rw [Ls_err (Ln_neg h6 hneg) (by decide)] at hL
    simp only [Prod.mk.injEq] at hL
    obtain ⟨rfl, rfl, rfl⟩ := hL
    clear h hm HI h6
    go_enter Try.func24, Try.ntmps24
    go_wp2_with fail
    refine HI2.out.mono ?_
    rintro e w1 ⟨rfl, rfl⟩
    go_wp2_with fail
    go_ret3
    exact ⟨_, rfl, OwnI.nil w _, Below.refl _ _⟩
  have h7 := Ln_ok h6 hneg
  obtain ⟨n, rfl⟩ : ∃ q : Nat, n = q := ⟨n.toNat, by omega⟩
  rw [Ls_ok h7] at hL
  have HRD := Lib.hid hL
  have HR := Lib.hid h
  have HM := Lib.hid hm
  clear h hm HI h6 hL h7
  go_enter Try.func24, Try.ntmps24
  go_wp2_with fail
  refine HI2.out.mono ?_
  rintro e w1 ⟨rfl, rfl⟩
  go_wp2_with fail
  go_loopw [8, 10] (fun y v wr => ∃ (t y' : Nat) (acc : List Int) (B : Option Addr) (d : Nat), t ≤ n ∧ v = .slice B t d ∧ y = .int .i64 (y' : Int) ∧ y' ≤ m ∧ Hid (acc.length = t ∧ t ≤ y') ∧ Hid (rd l (n - t) (y' : Int) acc = (L, X, E)) ∧ Hid (OwnI wr w.heap.size (.slice B t d) acc) ∧ Below w.heap.size w wr) (fun _ v _ => n - lenV v)
  case atStart => exact ⟨0, x, [], none, 0, by omega, rfl, rfl, h2, Lib.hid (by simp), HRD, Lib.hid (OwnI.nil w _), Below.refl _ _⟩
  case round =>
    obtain ⟨t, y, acc, B, d, ht, rfl, rfl, hy, hacc, hrd, hO, hB⟩ := hrel
    by_cases hlt : t < n
    · have hltz : (t : Int) < (n : Int) := by omega
      have HI3 := Lib.hid (fun N X E hI => refInt_any A l m c (y : Int) wr N X E hI HM.out (by omega) (HR.out.below hB) (by omega) (by omega))
      obtain ⟨q, hq⟩ : ∃ q, n - t = q + 1 := ⟨n - t - 1, by omega⟩
      have hrd' := hrd.out
      rw [hq] at hrd'
      rcases It_cases l (y : Int) with ⟨E', h5, h6, _⟩ | ⟨k', y2, v2, hk', g1, g2, g3, g4, _, g6⟩
      · rw [rd_err h5 h6] at hrd'
        simp only [Prod.mk.injEq] at hrd'
        obtain ⟨rfl, rfl, rfl⟩ := hrd'
        have HI4 := Lib.hid (HI3.out _ _ _ h5)
        have hz : ¬ (E' : Int) = 0 := by omega
        clear HI3 h5 hq hrd hacc hO
        go_wp2_with fail
        refine HI4.out.mono ?_
        rintro e w2 ⟨rfl, rfl⟩
        go_wp2_with fail
        go_ret3
        exact ⟨_, rfl, OwnI.nil wr _, hB⟩
      · rw [rd_ok g6] at hrd'
        have HI4 := Lib.hid (HI3.out _ _ _ g6)
        have hq2 : q = n - (t + 1) := by omega
        rw [hq2] at hrd'
        have HRD2 := Lib.hid hrd'
        have HLEN := Lib.hid (show acc.length ≤ 100000 by have := hacc.out; omega)
        have hyk : y = k' := by omega
        have HACC2 : Hid ((acc ++ [v2]).length = t + 1 ∧ t + 1 ≤ y2) := Lib.hid (by
          have := hacc.out
          rw [List.length_append, List.length_singleton]
          omega)
        rw [HM.out] at g2
        have hsz := hB.size
        clear HI3 g6 hq hq2 hrd hrd' hacc hk' hyk
        go_wp2_with fail
        refine HI4.out.mono ?_
        rintro e w2 ⟨rfl, rfl⟩
        go_wp2_with (at_builtin; refine wpList_append_int rfl _ _ rfl w.heap.size _ acc rfl (hO.out.alloc _) _ _ v2 rfl ?y0 HLEN.out ?y2 ?_)
        case y0 => rw [World.cell?_alloc_new]; rfl
        case y2 => first | omega | (simp; omega)
        intro v3 w3 hO3 hB3
        have hB4 : Below w.heap.size w w3 := (hB.alloc (by omega) _).trans hB3
        obtain ⟨B2, d2, hv3, _, _⟩ := hO3.out.form
        rw [HACC2.out.1] at hv3
        subst hv3
        clear hB3 hB hO
        go_wp2_with fail
        go_roundw
        case rel => exact ⟨t + 1, y2, _, _, _, by omega, rfl, rfl, by omega, HACC2, HRD2, hO3, hB4⟩
        case measure => simp only [lenV]; omega
    · have hnlt : ¬ (t : Int) < (n : Int) := by omega
      have hrd' := hrd.out
      rw [show n - t = 0 by omega, rd] at hrd'
      simp only [Prod.mk.injEq] at hrd'
      obtain ⟨rfl, rfl, rfl⟩ := hrd'
      clear hrd hacc HRD
      go_wp2_with fail
      go_ret3
      exact ⟨_, rfl, hO.out, hB⟩

/-- Same at equal bytes. -/
theorem sameB_any (A : Option Addr) (m c : Nat) (B : Option Addr) (n d : Nat) (l : List UInt8) (w : World) (hm : l.length = m) (hn : l.length = n) (h : BytR w A l) (hr : BytR w B l) :
    Calls Try.prog 12 #[.slice A m c, .slice B n d] w fun e w' => e = .returned (.bool true) ∧ w = w' := by
  have k1 := run_string_of w A l m c hm h
  have k2 := run_string_of w B l n d hn hr
  obtain ⟨s, hs⟩ : ∃ s : ByteArray, ⟨l.toArray⟩ = s := ⟨_, rfl⟩
  rw [hs] at k1 k2
  clear hm hn h hr hs
  go_enter Try.func12, Try.ntmps12
  go_wp2_with fail
  go_ret
  exact ⟨ret_bool (by simp), rfl⟩

set_option maxRecDepth 100000 in
set_option maxHeartbeats 1000000 in
theorem sameI_any (A : Option Addr) (m c : Nat) (B : Option Addr) (d : Nat) (l : List Int) (w : World) (hm : l.length = m) (hl : m ≤ 9223372036854775807) (h : IntR w A l) (hr : IntR w B l) :
    Calls Try.prog 25 #[.slice A m c, .slice B m d] w fun e w' => e = .returned (.bool true) ∧ Below w.heap.size w w' := by
  have HA := Lib.hid h
  have HB := Lib.hid hr
  have HM := Lib.hid hm
  clear h hr hm
  go_enter Try.func25, Try.ntmps25
  go_wp2_with fail
  go_loopw [5] (fun i wr => ∃ k n : Nat, k ≤ m ∧ i = .int .i64 (k : Int) ∧ wr = w.drewN n) (fun i _ => m - (intOf i).toNat)
  case atStart => exact ⟨0, 0, by omega, rfl, rfl⟩
  case round =>
    obtain ⟨k, n, hk, rfl, rfl⟩ := hrel
    by_cases hlt : k < m
    · have hkz : (k : Int) < (m : Int) := by omega
      have hkl : k < l.length := by rw [HM.out]; exact hlt
      obtain ⟨b, o, rfl, _, hc⟩ := HA.out.at (by omega)
      obtain ⟨b2, o2, rfl, _, hc2⟩ := HB.out.at (by omega)
      have c1 := hc k hkl
      have c2 := hc2 k hkl
      obtain ⟨x, hx⟩ : ∃ x, l.getD k 0 = x := ⟨_, rfl⟩
      rw [hx] at c1 c2
      have d1 : (w.drewN n).cell? ⟨b, o + k, none⟩ = some (.int .i64 x) := c1
      have d2 : (w.drewN n).cell? ⟨b2, o2 + k, none⟩ = some (.int .i64 x) := c2
      obtain ⟨W, hW⟩ : ∃ W, w.drewN n = W := ⟨_, rfl⟩
      rw [hW] at d1 d2 ⊢
      have HW := Lib.hid hW
      clear c1 c2 hx hW hc hc2 hkl
      go_wp2_with fail
      go_region
      all_goals go_wp2
      go_roundw
      case rel => exact ⟨k + 1, n + 1, by omega, by go_num, by rw [← HW.out]; rfl⟩
      case measure => simp only [intOf]; omega
    · have hkz : ¬ (k : Int) < (m : Int) := by omega
      go_wp2
      go_ret
      exact ⟨rfl, Below.drewN (Below.refl _ _) n⟩

/-- What part returns. -/
def PartP (w : World) (l : List UInt8) (n : Nat) (e : Ending) (w' : World) : Prop := ∃ B d, e = .returned (.slice B n d) ∧ BytR w B l ∧ w = w'
/-- part within the list. -/
theorem part_any (A : Option Addr) (l : List UInt8) (m c k x : Nat) (w : World) (hm : l.length = m) (hl : m ≤ 100000) (hc : m ≤ c) (h : BytR w A l) (hk : k < x) (hx : x ≤ m) :
    Calls Try.prog 26 #[.slice A m c, .int .i64 (k : Int), .int .i64 (x : Int)] w fun e w' => PartP w ((l.drop k).take (x - k)) (x - k) e w' := by
  obtain ⟨b, o, rfl, _, _⟩ := h.at (by omega)
  have HP := Lib.hid (h.part k (x - k))
  have z1 : ¬ (k : Int) < 0 := by omega
  have z2 : ¬ (x : Int) < (k : Int) := by omega
  have z3 : ¬ (m : Int) < (x : Int) := by omega
  have z4 : ¬ c = k := by omega
  clear h hm
  go_enter Try.func26, Try.ntmps26
  go_wp2_with fail
  go_ret
  exact ⟨_, _, rfl, HP.out, rfl⟩
end Go.Proofs.Ytlanbilcekepnaa
