/-
  The contracts of the specification's Recover and of SameAll at equal lists. Condition: at most 60000 bytes.
-/
import Derived.Test.YthafaococbdhoaaCrcF
namespace Go.Proofs.Ythafaococbdhoaa
open Go.RowKit Go.Maps
set_option linter.unusedVariables false

set_option maxRecDepth 100000 in
set_option maxHeartbeats 1000000 in
theorem refRecover_any (A : Option Addr) (l : List UInt8) (m c : Nat) (w : World) (L : List (List UInt8)) (X : Nat) (hR : Rc l (m + 1) 0 [] = (L, X)) (hm : l.length = m) (hl : m ≤ 60000) (hc : m ≤ c) (h : BytR w A l) :
    Calls Try.prog 20 #[.slice A m c] w fun e w' => RecP w L X e w' := by
  have HR := Lib.hid h
  have HM := Lib.hid hm
  have HRC := Lib.hid hR
  clear h hm hR
  go_enter Try.func20, Try.ntmps20
  go_wp2_with fail
  go_loopw [4, 5, 6] (fun v i t wr => ∃ (k t' : Nat) (acc : List (List UInt8)), k ≤ m ∧ t' ≤ k ∧ i = .int .i64 (k : Int) ∧ t = .int .i64 (t' : Int) ∧ Hid (acc.length ≤ k) ∧ Hid (Rc l (m + 1 - t') k acc = (L, X)) ∧ Hid (OwnS wr w.heap.size v acc) ∧ Below w.heap.size w wr) (fun _ i _ _ => m - (intOf i).toNat)
  case atStart => exact ⟨0, 0, [], by omega, by omega, rfl, rfl, Lib.hid (Nat.le_refl _), HRC, Lib.hid (OwnS.nil w _), Below.refl _ _⟩
  case round =>
    obtain ⟨k, t, acc, hk, ht, rfl, rfl, hacc, hrc, hO, hB⟩ := hrel
    have HI := Lib.hid (fun C X E hI => refOpen_any A l m c (k : Int) wr C X E hI HM.out hl hc (HR.out.below hB) (by omega) (by omega))
    have hrc' := hrc.out
    have htz : (t : Int) ≤ (m : Int) := by omega
    rcases Op_cases l (k : Int) with ⟨E', h5, h6, _⟩ | ⟨k', x, n, hk', g1, g2, g3, _, _, g6⟩
    · rw [Rc_err h5 h6] at hrc'
      simp only [Prod.mk.injEq] at hrc'
      obtain ⟨rfl, rfl⟩ := hrc'
      have HI2 := Lib.hid (HI.out _ _ _ h5)
      have hz : ¬ (E' : Int) = 0 := by omega
      clear HI h5 hrc hacc
      go_wp2_with fail
      refine HI2.out.mono ?_
      rintro e w2 ⟨v2, rfl, _, hB2⟩
      have HO2 := Lib.hid (hO.out.below hB2)
      have hB3 := Below.step hB hB2
      clear hO hB hB2 HI2
      go_wp2_with fail
      go_ret2
      exact ⟨_, rfl, HO2.out, hB3⟩
    · rw [show m + 1 - t = (m - t) + 1 by omega, Rc_ok g6] at hrc'
      have HI2 := Lib.hid (HI.out _ _ _ g6)
      rw [HM.out] at g3
      have HRC2 : Hid (Rc l (m + 1 - (t + 1)) (x + n + 4) (acc ++ [(l.drop x).take n]) = (L, X)) := Lib.hid (by
        rw [show m + 1 - (t + 1) = m - t by omega]
        exact hrc')
      obtain ⟨C, hC⟩ : ∃ C, (l.drop x).take n = C := ⟨_, rfl⟩
      rw [hC] at HRC2 HI2
      have HACC2 : Hid ((acc ++ [C]).length ≤ x + n + 4) := Lib.hid (by
        have := hacc.out
        rw [List.length_append, List.length_singleton]
        omega)
      have HLEN := Lib.hid (show acc.length ≤ 100000 by have := hacc.out; omega)
      have hkx : k < x + n + 4 := by omega
      obtain ⟨y, hy⟩ : ∃ y, x + n + 4 = y := ⟨_, rfl⟩
      rw [hy] at HI2 HRC2 HACC2 hkx g3
      clear HI g6 hrc hrc' hacc hk' hC hy g1
      go_wp2_with fail
      refine HI2.out.mono ?_
      rintro e w2 ⟨v2, rfl, hO2, hB2⟩
      have HC2 := Lib.hid (hO2.mono hB.size)
      obtain ⟨B2, d2, hv2, _, _⟩ := hO2.form
      obtain ⟨q2, hq2⟩ : ∃ q, C.length = q := ⟨_, rfl⟩
      rw [hq2] at hv2
      subst hv2
      have HO2 := Lib.hid (hO.out.below hB2)
      have hB3 := Below.step hB hB2
      have hsz := hB3.size
      clear hO hO2 hB hB2 HI2 hq2
      go_wp2_with (at_builtin; refine wpList_append_row rfl _ _ rfl w.heap.size _ acc rfl (HO2.out.below ((Below.refl _ _).alloc (Nat.le_refl _) _)) _ _ (.slice B2 q2 d2) C rfl ?y0 (HC2.out.alloc _) HLEN.out ?y2 ?_)
      case y0 => rw [World.cell?_alloc_new]; rfl
      case y2 => first | omega | (simp; omega)
      intro v3 w3 hO3 hB4
      have hB5 : Below w.heap.size w w3 := (hB3.alloc hsz _).trans hB4
      clear hB3 hB4 HO2 HC2
      go_wp2_with fail
      go_roundw
      case rel => exact ⟨y, t + 1, _, by omega, by omega, rfl, by go_num, HACC2, HRC2, hO3, hB5⟩
      case measure => simp only [intOf]; omega

set_option maxRecDepth 100000 in
set_option maxHeartbeats 1000000 in
theorem sameAll_any (A : Option Addr) (n c : Nat) (B : Option Addr) (d : Nat) (L : List (List UInt8)) (w : World) (hn : L.length = n) (hl : n ≤ 100000) (hL : ∀ k, (L.getD k []).length ≤ 60000) (h : RowsR w A L) (h2 : RowsR w B L) :
    Calls Try.prog 21 #[.slice A n c, .slice B n d] w fun e w' => e = .returned (.bool true) ∧ ∃ q, w' = w.drewN q := by
  have HA := Lib.hid h
  have HB := Lib.hid h2
  have HN := Lib.hid hn
  have HL := Lib.hid hL
  clear h h2 hn hL
  go_enter Try.func21, Try.ntmps21
  go_wp2_with fail
  go_loopw [5] (fun i wr => ∃ k q : Nat, k ≤ n ∧ i = .int .i64 (k : Int) ∧ wr = w.drewN q) (fun i _ => n - (intOf i).toNat)
  case atStart => exact ⟨0, 0, by omega, rfl, rfl⟩
  case round =>
    obtain ⟨k, q, hk, rfl, rfl⟩ := hrel
    by_cases hlt : k < n
    · have hkz : (k : Int) < (n : Int) := by omega
      have hkl : k < L.length := by rw [HN.out]; exact hlt
      obtain ⟨b, o, rfl, _, hc⟩ := HA.out.at (by omega)
      obtain ⟨b2, o2, rfl, _, hc2⟩ := HB.out.at (by omega)
      obtain ⟨B1, d1, c1, hd1, r1⟩ := hc k hkl
      obtain ⟨B2, d2, c2, hd2, r2⟩ := hc2 k hkl
      have hlen := HL.out k
      obtain ⟨C, hC⟩ : ∃ C, L.getD k [] = C := ⟨_, rfl⟩
      rw [hC] at c1 c2 r1 r2 hlen
      obtain ⟨p, hp⟩ : ∃ p, C.length = p := ⟨_, rfl⟩
      rw [hp] at c1 c2 hlen
      obtain ⟨W, hW⟩ : ∃ W, w.drewN q = W := ⟨_, rfl⟩
      have d1' : (w.drewN q).cell? ⟨b, o + k, none⟩ = some (.slice B1 p d1) := c1
      have d2' : (w.drewN q).cell? ⟨b2, o2 + k, none⟩ = some (.slice B2 p d2) := c2
      have HS := Lib.hid (fun j => same_any B1 p d1 B2 p d2 C C true (W.drewN j) (by simp) hp hp (by omega) (by rw [← hW]; exact r1) (by rw [← hW]; exact r2))
      rw [hW] at d1' d2' ⊢
      have HW := Lib.hid hW
      clear c1 c2 hW hc hc2 hkl r1 r2 hC hp hd1 hd2
      go_wp2_with fail
      go_quiet ((go_at_call 16; exact Calls.quiet_of (HS.out _)))
      go_wp2_with fail
      go_roundw
      case rel => exact ⟨k + 1, q + nq, by omega, by go_num, by rw [← HW.out, World.drewN_drewN]⟩
      case measure => simp only [intOf]; omega
    · have hkz : ¬ (k : Int) < (n : Int) := by omega
      go_wp2
      go_ret
      exact ⟨rfl, q, rfl⟩
end Go.Proofs.Ythafaococbdhoaa
