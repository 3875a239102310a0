/-
  The contracts of the specification's joined, code, PutInt and PutInts. Condition: at most 20000 bytes and 2500 integers.
-/
import Derived.Test.YthalnnhkeaanhaaDoorWitD
namespace Go.Proofs.YthalnnhkeaanhaaDoor
open Go.RowKit Go.Maps
set_option linter.unusedVariables false

set_option maxRecDepth 100000 in
set_option maxHeartbeats 1000000 in
theorem joined_any (A : Option Addr) (l : List UInt8) (m c : Nat) (B : Option Addr) (L : List UInt8) (n d : Nat) (w : World) (hm : l.length = m) (hl : m ≤ 100000) (h : BytR w A l) (hn : L.length = n) (hL : n ≤ 100000) (hr : BytR w B L) :
    Calls Tryd.prog 34 #[.slice A m c, .slice B n d] w fun e w' => ∃ v', e = .returned v' ∧ Hid (OwnB w' w.heap.size v' (l ++ L)) ∧ Below w.heap.size w w' := by
  have HR := Lib.hid hr
  have HA := Lib.hid h
  have HM := Lib.hid hm
  have HN := Lib.hid hn
  clear h hm hn hr
  go_enter Tryd.func34, Tryd.ntmps34
  go_wp2_with (at_builtin; refine wpList_append_bytes rfl _ _ rfl w.heap.size _ [] l rfl (OwnB.nil w _) A m c HM.out rfl HA.out ?x1 (Nat.le_refl _) ?_)
  case x1 => simp; omega
  intro v1 w1 hO1 hB1
  have HO1 : Hid (OwnB w1 w.heap.size v1 l) := Lib.hid (by simpa using hO1.out)
  have hsz := hB1.size
  clear hO1
  go_wp2_with (at_builtin; refine wpList_append_bytes rfl _ _ rfl w.heap.size _ l L rfl HO1.out B n d HN.out rfl (HR.out.below hB1) ?y1 hsz ?_)
  case y1 => rw [HM.out]; omega
  intro v2 w2 hO2 hB2
  have hB3 := hB1.trans hB2
  clear hB1 hB2 HO1
  go_wp2_with fail
  go_ret
  exact ⟨_, rfl, hO2, hB3⟩

set_option maxRecDepth 100000 in
set_option maxHeartbeats 1000000 in
theorem code_any (n : Int) (w : World) (lo : -9223372036854775808 ≤ n) (hi : n ≤ 9223372036854775807) :
    Calls Tryd.prog 30 #[.int .i64 n] w fun e w' => ∃ v', e = .returned v' ∧ Hid (OwnB w' w.heap.size v' (enc n)) ∧ Below w.heap.size w w' := by
  have HZ := Lib.hid (fun w => refZigzag_any n w lo hi)
  have HE : Hid ([] ++ leb (zz n) = enc n) := Lib.hid rfl
  have HT := Lib.hid (enc_ten lo hi)
  have hz := zz_lt lo hi
  obtain ⟨u0, hu0⟩ : ∃ u, zz n = u := ⟨_, rfl⟩
  rw [hu0] at HZ HE hz
  clear hu0
  go_enter Tryd.func30, Tryd.ntmps30
  go_wp2_with fail
  refine (HZ.out _).mono ?_
  rintro e w1 ⟨rfl, rfl⟩
  go_wp2_with fail
  go_loopw [3, 4] (fun v z wr => ∃ (u : Nat) (p : List UInt8), z = .int .u64 (u : Int) ∧ u < 18446744073709551616 ∧ Hid (OwnB wr w.heap.size v p) ∧ Hid (p ++ leb u = enc n) ∧ Below w.heap.size w wr) (fun _ z _ => (intOf z).toNat)
  case atStart => exact ⟨u0, [], rfl, hz, Lib.hid (OwnB.nil w _), HE, Below.refl _ _⟩
  case round =>
    obtain ⟨u, p, rfl, hu, hO, hE, hB⟩ := hrel
    have hsz := hB.size
    have HLEN : Hid (p.length ≤ 100000) := Lib.hid (by
      have e := congrArg List.length hE.out
      rw [List.length_append] at e
      have h2 := HT.out
      omega)
    by_cases h128 : 128 ≤ u
    · have HB : Hid ((128 : Int) + (u : Int) % 128 = (((UInt8.ofNat (128 + u % 128)).toNat : Nat) : Int)) := Lib.hid (by rw [u8_small (by omega)]; omega)
      have HLEB := Lib.hid (leb_big h128)
      obtain ⟨t, ht⟩ : ∃ t, UInt8.ofNat (128 + u % 128) = t := ⟨_, rfl⟩
      rw [ht] at HB HLEB
      clear ht
      have z1 : (128 : Int) ≤ (u : Int) := by omega
      go_wp2_with (at_builtin; refine wpList_append_byte rfl _ _ rfl w.heap.size _ p rfl (Or.inl (hO.out.alloc _)) _ _ t rfl ?y0 HLEN.out ?y2 ?_)
      case y0 => first | exact HB.out | (rw [World.cell?_alloc_new, HB.out]; rfl)
      case y2 => first | omega | (simp; omega)
      intro v3 w3 hO3 hB3
      have hB4 : Below w.heap.size w w3 := (hB.alloc (by omega) _).trans hB3
      have HE4 : Hid ((p ++ [t]) ++ leb (u / 128) = enc n) := Lib.hid (by
        have := hE.out
        rw [HLEB.out] at this
        rw [List.append_assoc]
        exact this)
      clear hB3 hB hO hE
      go_wp2_with fail
      go_roundw
      case rel => exact ⟨u / 128, _, val_int' (by omega), by omega, hO3, HE4, hB4⟩
      case measure => simp only [intOf]; omega
    · have HB := Lib.hid (low_byte u (by omega))
      have HLEB := Lib.hid (leb_small (u := u) (by omega))
      obtain ⟨t, ht⟩ : ∃ t, UInt8.ofNat u = t := ⟨_, rfl⟩
      rw [ht] at HB HLEB
      clear ht
      have z1 : ¬ (128 : Int) ≤ (u : Int) := by omega
      go_wp2_with (at_builtin; refine wpList_append_byte rfl _ _ rfl w.heap.size _ p rfl (Or.inl (hO.out.alloc _)) _ _ t rfl ?x0 HLEN.out ?x2 ?_)
      case x0 => exact HB.out
      case x2 => first | omega | (simp; omega)
      intro v3 w3 hO3 hB3
      have hB4 : Below w.heap.size w w3 := (hB.alloc (by omega) _).trans hB3
      have HO4 : Hid (OwnB w3 w.heap.size v3 (enc n)) := Lib.hid (by
        have h1 := hO3.out
        have h2 := hE.out
        rw [HLEB.out] at h2
        rw [h2] at h1
        exact h1)
      clear hO3 hB3 hB hO hE
      go_wp2_with fail
      go_ret
      exact ⟨_, rfl, HO4, hB4⟩

set_option maxRecDepth 100000 in
set_option maxHeartbeats 1000000 in
theorem refPutInt_own (A : Option Addr) (l : List UInt8) (m c : Nat) (n : Int) (w : World) (hm : l.length = m) (hl : m ≤ 50000) (h : BytR w A l) (lo : -9223372036854775808 ≤ n) (hi : n ≤ 9223372036854775807) :
    Calls Tryd.prog 29 #[.slice A m c, .int .i64 n] w fun e w' => ∃ v', e = .returned v' ∧ Hid (OwnB w' w.heap.size v' (l ++ enc n)) ∧ Below w.heap.size w w' := by
  have HC := Lib.hid (code_any n w lo hi)
  have HA := Lib.hid h
  have HM := Lib.hid hm
  have HT := Lib.hid (enc_ten lo hi)
  clear h hm
  go_enter Tryd.func29, Tryd.ntmps29
  go_wp2_with fail
  refine HC.out.mono ?_
  rintro e w1 ⟨v1, rfl, hO, hB⟩
  obtain ⟨B, d, hv, _, hr⟩ := hO.out.form
  have HJ := Lib.hid (joined_any A l m c B (enc n) (enc n).length d w1 HM.out (by omega) (HA.out.below hB) rfl (by have := HT.out; omega) hr)
  rw [← hv] at HJ
  clear hv hO hr
  go_wp2_with fail
  refine HJ.out.mono ?_
  rintro e w2 ⟨v2, rfl, hO2, hB2⟩
  have HO2 := Lib.hid (hO2.out.mono hB.size)
  have hB3 := Below.step hB hB2
  clear hO2 hB hB2 HJ
  go_wp2_with fail
  go_ret
  exact ⟨_, rfl, HO2, hB3⟩

set_option maxRecDepth 100000 in
set_option maxHeartbeats 1000000 in
theorem refPutInts_own (A : Option Addr) (l : List UInt8) (m c : Nat) (B : Option Addr) (L : List Int) (n d : Nat) (w : World) (hm : l.length = m) (hl : m ≤ 20000) (h : BytR w A l) (hn : L.length = n) (hL : n ≤ 2500) (hw : WideI L) (hr : IntR w B L) :
    Calls Tryd.prog 18 #[.slice A m c, .slice B n d] w fun e w' => ∃ v', e = .returned v' ∧ Hid (OwnB w' w.heap.size v' (l ++ (enc L.length ++ encs L))) ∧ Below w.heap.size w w' := by
  have HA := Lib.hid (refPutInt_own A l m c (n : Int) w hm (by omega) h (by omega) (by omega))
  have HN := Lib.hid hn
  have HW := Lib.hid hw
  have HR := Lib.hid hr
  have HLEN : Hid (∀ k, (l ++ (enc (n : Int) ++ encs (L.take k))).length ≤ 50000) := Lib.hid fun k => by
    have h1 := enc_ten (n := (n : Int)) (by omega) (by omega)
    have h2 := encs_take_len hw (by omega) k
    rw [List.length_append, List.length_append]
    omega
  rw [hn]
  clear h hm hn hw hr
  go_enter Tryd.func18, Tryd.ntmps18
  go_wp2_with fail
  refine HA.out.mono ?_
  rintro e w1 ⟨v1, rfl, hO, hB⟩
  have HO : Hid (OwnB w1 w.heap.size v1 (l ++ (enc (n : Int) ++ encs (L.take 0)))) := Lib.hid (by
    rw [List.take_zero, encs, List.append_nil]; exact hO.out)
  clear hO
  go_wp2_with fail
  go_loopw [5, 6] (fun v i wr => ∃ (k : Nat), k ≤ n ∧ i = .int .i64 (k : Int) ∧ Hid (OwnB wr w.heap.size v (l ++ (enc (n : Int) ++ encs (L.take k)))) ∧ Below w.heap.size w wr) (fun _ i _ => n - (intOf i).toNat)
  case atStart => exact ⟨0, by omega, rfl, HO, hB⟩
  case round =>
    obtain ⟨k, hk, rfl, hO, hB⟩ := hrel
    by_cases hlt : k < n
    · have hkl : k < L.length := by rw [HN.out]; exact hlt
      obtain ⟨b, o, rfl, hbl, hc⟩ := (HR.out.below hB).at (by omega)
      have c0 := hc k hkl
      have hx := HW.out k hkl
      have HS := Lib.hid (encs_take k hkl)
      obtain ⟨x, hxx⟩ : ∃ x, L.getD k 0 = x := ⟨_, rfl⟩
      rw [hxx] at hx c0 HS
      clear hxx hkl hc
      have hltz : (k : Int) < (n : Int) := by omega
      have hsz := hB.size
      have HC := Lib.hid (code_any x wr hx.1 hx.2)
      have HT := Lib.hid (enc_ten hx.1 hx.2)
      clear hx
      go_wp2_with fail
      refine HC.out.mono ?_
      rintro e w2 ⟨v2, rfl, hO2, hB2⟩
      obtain ⟨B2, d2, hv, _, hr⟩ := hO2.out.form
      have HR2 := Lib.hid hr
      have HO1 := Lib.hid (hO.out.below hB2)
      have hsz2 := hB2.size
      have HLN : Hid ((l ++ (enc (n : Int) ++ encs (L.take k))).length + (enc x).length ≤ 1000000) := Lib.hid (by
        have := HLEN.out k
        have := HT.out
        omega)
      subst hv
      clear hO2 hr hO
      go_wp2_with (at_builtin; refine wpList_append_bytes rfl _ _ rfl w.heap.size _ (l ++ (enc (n : Int) ++ encs (L.take k))) (enc x) rfl HO1.out B2 (enc x).length d2 rfl rfl HR2.out HLN.out ?z2 ?_)
      case z2 => omega
      intro v3 w3 hO3 hB3
      have HO3 : Hid (OwnB w3 w.heap.size v3 (l ++ (enc (n : Int) ++ encs (L.take (k + 1))))) := Lib.hid (by
        rw [HS.out]
        have h3 := hO3.out
        first
          | exact h3
          | (simp only [List.append_assoc] at h3 ⊢; exact h3)
          | (simp only [List.append_assoc] at h3; exact h3))
      have hB4 := (hB.trans (hB2.mono hsz)).trans hB3
      clear hO3 hB hB2 hB3 HO1
      go_wp2_with fail
      go_roundw
      case rel => exact ⟨k + 1, by omega, by go_num, HO3, hB4⟩
      case measure => simp only [intOf]; omega
    · have hnlt : ¬ (k : Int) < (n : Int) := by omega
      have HO2 : Hid (OwnB wr w.heap.size u5 (l ++ (enc (n : Int) ++ encs L))) := Lib.hid (by
        have := hO.out
        rw [List.take_of_length_le (by rw [HN.out]; omega)] at this
        exact this)
      clear hO
      go_wp2_with fail
      go_ret
      exact ⟨_, rfl, HO2, hB⟩
end Go.Proofs.YthalnnhkeaanhaaDoor
