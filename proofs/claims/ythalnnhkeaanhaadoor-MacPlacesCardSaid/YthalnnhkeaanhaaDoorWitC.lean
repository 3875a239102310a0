/-
  The contract of appendInt. Condition: a row of at most 50000 bytes.
-/
import Derived.Test.YthalnnhkeaanhaaDoorWitB
import Derived.Deep.LoopGhost
namespace Go.Proofs.YthalnnhkeaanhaaDoor
open Go.RowKit Go.Maps
set_option linter.unusedVariables false

theorem or128 : ∀ x, x < 256 → 128 ||| x = 128 + x % 128 := by decide +kernel
theorem or_byte (u : Nat) : bits .or .u8 128 ((u : Int) % 256) = (((UInt8.ofNat (128 + u % 128)).toNat : Nat) : Int) := by
  have e : (u : Int) % 256 = ((u % 256 : Nat) : Int) := by omega
  have h := u8_or_nat 128 (u % 256) (by omega) (by omega)
  rw [e, show (128 : Int) = ((128 : Nat) : Int) from rfl, h, or128 _ (by omega), u8_small (by omega)]
  omega
theorem low_byte (u : Nat) (h : u < 128) : (u : Int) = (((UInt8.ofNat u).toNat : Nat) : Int) := by
  rw [u8_small (by omega)]

set_option maxRecDepth 100000 in
set_option maxHeartbeats 1000000 in
theorem appendInt_any (base : Nat) (v : Value) (l : List UInt8) (n : Int) (w : World) (hl : l.length ≤ 50000) (hown : SlotB w base v l) (hbase : base ≤ w.heap.size) (lo : -9223372036854775808 ≤ n) (hi : n ≤ 9223372036854775807) :
    Calls Tryd.prog 28 #[v, .int .i64 n] w fun e w' => ∃ v', e = .returned v' ∧ Hid (OwnB w' base v' (l ++ enc n)) ∧ Below base w w' := by
  have HZ := Lib.hid (fun w => zigzag_any n w lo hi)
  have HE : Hid ([] ++ leb (zz n) = enc n) := Lib.hid rfl
  have HT := Lib.hid (enc_ten lo hi)
  have hz := zz_lt lo hi
  have HOWN := Lib.hid hown
  have HL := Lib.hid hl
  obtain ⟨u0, hu0⟩ : ∃ u, zz n = u := ⟨_, rfl⟩
  rw [hu0] at HZ HE hz
  clear hown hu0 hl
  go_enter Tryd.func28, Tryd.ntmps28
  go_wp2_with fail
  refine (HZ.out _).mono ?_
  rintro e w1 ⟨rfl, rfl⟩
  go_wp2_with fail
  go_loopw [0, 5] (fun v z wr => ∃ (u : Nat) (p : List UInt8), z = .int .u64 (u : Int) ∧ u < 18446744073709551616 ∧ Hid (SlotB wr base v (l ++ p)) ∧ Hid (p ++ leb u = enc n) ∧ Below base w wr) (fun _ z _ => (intOf z).toNat)
  case atStart => exact ⟨u0, [], rfl, hz, Lib.hid (by rw [List.append_nil]; exact HOWN.out), HE, Below.refl _ _⟩
  case round =>
    obtain ⟨u, p, rfl, hu, hO, hE, hB⟩ := hrel
    have hsz := hB.size
    have HLEN : Hid ((l ++ p).length ≤ 100000) := Lib.hid (by
      have e := congrArg List.length hE.out
      rw [List.length_append] at e
      have h1 := HL.out
      have h2 := HT.out
      rw [List.length_append]
      omega)
    by_cases h128 : 128 ≤ u
    · have HB := Lib.hid (or_byte u)
      have HLEB := Lib.hid (leb_big h128)
      obtain ⟨t, ht⟩ : ∃ t, UInt8.ofNat (128 + u % 128) = t := ⟨_, rfl⟩
      rw [ht] at HB HLEB
      clear ht
      have z1 : (128 : Int) ≤ (u : Int) := by omega
      go_wp2_with (at_builtin; refine wpList_append_byte rfl _ _ rfl base _ (l ++ p) rfl (hO.out.alloc _) _ _ t rfl ?y0 HLEN.out ?y2 ?_)
      case y0 => rw [World.cell?_alloc_new, HB.out]; rfl
      case y2 => simp; omega
      intro v3 w3 hO3 hB3
      have hB4 : Below base w w3 := (hB.alloc (by omega) _).trans hB3
      have HO4 : Hid (SlotB w3 base v3 (l ++ (p ++ [t]))) := Lib.hid (Or.inl hO3.out)
      have HE4 : Hid ((p ++ [t]) ++ leb (u / 128) = enc n) := Lib.hid (by
        have := hE.out
        rw [HLEB.out] at this
        rw [List.append_assoc]
        exact this)
      clear hO3 hB3 hB hO hE
      go_wp2_with fail
      go_roundw
      case rel => exact ⟨u / 128, _, val_int' (by omega), by omega, HO4, HE4, hB4⟩
      case measure => simp only [intOf]; omega
    · have HB := Lib.hid (low_byte u (by omega))
      have HLEB := Lib.hid (leb_small (u := u) (by omega))
      obtain ⟨t, ht⟩ : ∃ t, UInt8.ofNat u = t := ⟨_, rfl⟩
      rw [ht] at HB HLEB
      clear ht
      have z1 : ¬ (128 : Int) ≤ (u : Int) := by omega
      go_wp2_with (at_builtin; refine wpList_append_byte rfl _ _ rfl base _ (l ++ p) rfl (hO.out.alloc _) _ _ t rfl ?x0 HLEN.out ?x2 ?_)
      case x0 => exact HB.out
      case x2 => first | omega | (simp; omega)
      intro v3 w3 hO3 hB3
      have hB4 : Below base w w3 := (hB.alloc (by omega) _).trans hB3
      have HO4 : Hid (OwnB w3 base v3 (l ++ enc n)) := Lib.hid (by
        have h1 := hO3.out
        have h2 := hE.out
        rw [HLEB.out] at h2
        first
          | (rw [h2] at h1; exact h1)
          | (rw [List.append_assoc, h2] at h1; exact h1))
      clear hO3 hB3 hB hO hE
      go_wp2_with fail
      go_ret
      exact ⟨_, rfl, HO4, hB4⟩
end Go.Proofs.YthalnnhkeaanhaaDoor
