/-
  The contracts of the encoding's specification: joined, code, PutInt. Condition: at most 50000 bytes.
-/
import Derived.Test.YthafaococbdhoaaWisD
namespace Go.Proofs.Ythafaococbdhoaa
open Go.RowKit Go.Maps
set_option linter.unusedVariables false

set_option maxRecDepth 100000 in
set_option maxHeartbeats 1000000 in
theorem joined_any (A : Option Addr) (l : List UInt8) (m c : Nat) (B : Option Addr) (L : List UInt8) (n d : Nat) (w : World) (hm : l.length = m) (hl : m ≤ 100000) (h : BytR w A l) (hn : L.length = n) (hL : n ≤ 100000) (hr : BytR w B L) :
    Calls Try.prog 32 #[.slice A m c, .slice B n d] w fun e w' => ∃ v', e = .returned v' ∧ Hid (OwnB w' w.heap.size v' (l ++ L)) ∧ Below w.heap.size w w' := by
  have HR := Lib.hid hr
  have HA := Lib.hid h
  have HM := Lib.hid hm
  have HN := Lib.hid hn
  clear h hm hn hr
  go_enter Try.func32, Try.ntmps32
  go_wp2_with (at_builtin; refine wpList_append_bytes rfl _ _ rfl w.heap.size _ [] l rfl (OwnB.nil w _) A m c HM.out rfl HA.out ?x1 (Nat.le_refl _) ?_)
  case x1 => simp; omega
  intro v1 w1 hO1 hB1
  have HO1 : Hid (OwnB w1 w.heap.size v1 l) := Lib.hid (by simpa using hO1.out)
  have hsz := hB1.size
  clear hO1
  go_wp2_with (at_builtin; refine wpList_append_bytes rfl _ _ rfl w.heap.size _ l L rfl HO1.out B n d HN.out rfl (HR.out.below hB1) ?y1 hsz ?_)
  case y1 => rw [HM.out]; omega
  intro v2 w2 hO2 hB2
  have hB3 := hB1.trans hB2
  clear hB1 hB2 HO1
  go_wp2_with fail
  go_ret
  exact ⟨_, rfl, hO2, hB3⟩

set_option maxRecDepth 100000 in
set_option maxHeartbeats 1000000 in
theorem code_any (n : Int) (w : World) (lo : -9223372036854775808 ≤ n) (hi : n ≤ 9223372036854775807) :
    Calls Try.prog 33 #[.int .i64 n] w fun e w' => ∃ v', e = .returned v' ∧ Hid (OwnB w' w.heap.size v' (enc n)) ∧ Below w.heap.size w w' := by
  have HZ := Lib.hid (fun w => refZigzag_any n w lo hi)
  have HE : Hid ([] ++ leb (zz n) = enc n) := Lib.hid rfl
  have HT := Lib.hid (enc_ten lo hi)
  have hz := zz_lt lo hi
  obtain ⟨u0, hu0⟩ : ∃ u, zz n = u := ⟨_, rfl⟩
  rw [hu0] at HZ HE hz
  clear hu0
  go_enter Try.func33, Try.ntmps33
  go_wp2_with fail
  refine (HZ.out _).mono ?_
  rintro e w1 ⟨rfl, rfl⟩
  go_wp2_with fail
  go_loopw [3, 4] (fun v z wr => ∃ (u : Nat) (p : List UInt8), z = .int .u64 (u : Int) ∧ u < 18446744073709551616 ∧ Hid (OwnB wr w.heap.size v p) ∧ Hid (p ++ leb u = enc n) ∧ Below w.heap.size w wr) (fun _ z _ => (intOf z).toNat)
  case atStart => exact ⟨u0, [], rfl, hz, Lib.hid (OwnB.nil w _), HE, Below.refl _ _⟩
  case round =>
    obtain ⟨u, p, rfl, hu, hO, hE, hB⟩ := hrel
    have hsz := hB.size
    have HLEN : Hid (p.length ≤ 100000) := Lib.hid (by
      have e := congrArg List.length hE.out
      rw [List.length_append] at e
      have h2 := HT.out
      omega)
    by_cases h128 : 128 ≤ u
    · have HB : Hid ((128 : Int) + (u : Int) % 128 = (((UInt8.ofNat (128 + u % 128)).toNat : Nat) : Int)) := Lib.hid (by rw [u8_small (by omega)]; omega)
      have HLEB := Lib.hid (leb_big h128)
      obtain ⟨t, ht⟩ : ∃ t, UInt8.ofNat (128 + u % 128) = t := ⟨_, rfl⟩
      rw [ht] at HB HLEB
      clear ht
      have z1 : (128 : Int) ≤ (u : Int) := by omega
      go_wp2_with (at_builtin; refine wpList_append_byte rfl _ _ rfl w.heap.size _ p rfl (Or.inl (hO.out.alloc _)) _ _ t rfl ?y0 HLEN.out ?y2 ?_)
      case y0 => first | exact HB.out | (rw [World.cell?_alloc_new, HB.out]; rfl)
      case y2 => first | omega | (simp; omega)
      intro v3 w3 hO3 hB3
      have hB4 : Below w.heap.size w w3 := (hB.alloc (by omega) _).trans hB3
      have HE4 : Hid ((p ++ [t]) ++ leb (u / 128) = enc n) := Lib.hid (by
        have := hE.out
        rw [HLEB.out] at this
        rw [List.append_assoc]
        exact this)
      clear hB3 hB hO hE
      go_wp2_with fail
      go_roundw
      case rel => exact ⟨u / 128, _, val_int' (by omega), by omega, hO3, HE4, hB4⟩
      case measure => simp only [intOf]; omega
    · have HB := Lib.hid (low_byte u (by omega))
      have HLEB := Lib.hid (leb_small (u := u) (by omega))
      obtain ⟨t, ht⟩ : ∃ t, UInt8.ofNat u = t := ⟨_, rfl⟩
      rw [ht] at HB HLEB
      clear ht
      have z1 : ¬ (128 : Int) ≤ (u : Int) := by omega
      go_wp2_with (at_builtin; refine wpList_append_byte rfl _ _ rfl w.heap.size _ p rfl (Or.inl (hO.out.alloc _)) _ _ t rfl ?x0 HLEN.out ?x2 ?_)
      case x0 => exact HB.out
      case x2 => first | omega | (simp; omega)
      intro v3 w3 hO3 hB3
      have hB4 : Below w.heap.size w w3 := (hB.alloc (by omega) _).trans hB3
      have HO4 : Hid (OwnB w3 w.heap.size v3 (enc n)) := Lib.hid (by
        have h1 := hO3.out
        have h2 := hE.out
        rw [HLEB.out] at h2
        rw [h2] at h1
        exact h1)
      clear hO3 hB3 hB hO hE
      go_wp2_with fail
      go_ret
      exact ⟨_, rfl, HO4, hB4⟩

set_option maxRecDepth 100000 in
set_option maxHeartbeats 1000000 in
theorem refPutInt_own (A : Option Addr) (l : List UInt8) (m c : Nat) (n : Int) (w : World) (hm : l.length = m) (hl : m ≤ 50000) (h : BytR w A l) (lo : -9223372036854775808 ≤ n) (hi : n ≤ 9223372036854775807) :
    Calls Try.prog 26 #[.slice A m c, .int .i64 n] w fun e w' => ∃ v', e = .returned v' ∧ Hid (OwnB w' w.heap.size v' (l ++ enc n)) ∧ Below w.heap.size w w' := by
  have HC := Lib.hid (code_any n w lo hi)
  have HA := Lib.hid h
  have HM := Lib.hid hm
  have HT := Lib.hid (enc_ten lo hi)
  clear h hm
  go_enter Try.func26, Try.ntmps26
  go_wp2_with fail
  refine HC.out.mono ?_
  rintro e w1 ⟨v1, rfl, hO, hB⟩
  obtain ⟨B, d, hv, _, hr⟩ := hO.out.form
  have HJ := Lib.hid (joined_any A l m c B (enc n) (enc n).length d w1 HM.out (by omega) (HA.out.below hB) rfl (by have := HT.out; omega) hr)
  rw [← hv] at HJ
  clear hv hO hr
  go_wp2_with fail
  refine HJ.out.mono ?_
  rintro e w2 ⟨v2, rfl, hO2, hB2⟩
  have HO2 := Lib.hid (hO2.out.mono hB.size)
  have hB3 := Below.step hB hB2
  clear hO2 hB hB2 HJ
  go_wp2_with fail
  go_ret
  exact ⟨_, rfl, HO2, hB3⟩

end Go.Proofs.Ythafaococbdhoaa
