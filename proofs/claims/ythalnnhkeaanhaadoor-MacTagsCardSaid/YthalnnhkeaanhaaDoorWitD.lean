/-
  The contracts of PutInt and PutInts. Condition: at most 20000 bytes and 2500 integers.
-/
import Derived.Test.YthalnnhkeaanhaaDoorWitC
namespace Go.Proofs.YthalnnhkeaanhaaDoor
open Go.RowKit Go.Maps
set_option linter.unusedVariables false

set_option maxRecDepth 100000 in
set_option maxHeartbeats 1000000 in
theorem putInt_own (A : Option Addr) (l : List UInt8) (m c : Nat) (n : Int) (w : World) (hm : l.length = m) (hl : m ≤ 50000) (hc : m ≤ c) (h : BytR w A l) (lo : -9223372036854775808 ≤ n) (hi : n ≤ 9223372036854775807) :
    Calls Tryd.prog 27 #[.slice A m c, .int .i64 n] w fun e w' => ∃ v', e = .returned v' ∧ Hid (OwnB w' w.heap.size v' (l ++ enc n)) ∧ Below w.heap.size w w' := by
  have HA := Lib.hid (appendInt_any w.heap.size (.slice A m m) l n w (by omega) (Or.inr ⟨A, by rw [hm], h⟩) (Nat.le_refl _) lo hi)
  clear h hm
  go_enter Tryd.func27, Tryd.ntmps27
  go_wp2_with fail
  refine HA.out.mono ?_
  rintro e w1 ⟨v1, rfl, hO, hB⟩
  go_wp2_with fail
  go_ret
  exact ⟨_, rfl, hO, hB⟩
theorem str_len (s : ByteArray) : s.data.toList.length = s.size := by rw [Array.length_toList]; rfl

/-- The encodings of integers, in order. -/
def encs : List Int → List UInt8
  | [] => []
  | n :: r => enc n ++ encs r
theorem encs_snoc : ∀ (L : List Int) (n : Int), encs (L ++ [n]) = encs L ++ enc n
  | [], n => by simp [encs]
  | x :: L, n => by rw [List.cons_append, encs, encs_snoc L n, encs, List.append_assoc]
theorem encs_len : ∀ (L : List Int), (∀ x ∈ L, -9223372036854775808 ≤ x ∧ x ≤ 9223372036854775807) → (encs L).length ≤ 10 * L.length
  | [], _ => by simp [encs]
  | x :: L, h => by
    have ih := encs_len L fun y hy => h y (List.mem_cons_of_mem _ hy)
    have hx := h x List.mem_cons_self
    have := enc_ten hx.1 hx.2
    rw [encs, List.length_append, List.length_cons]
    omega
theorem WideI.mem {L : List Int} (h : WideI L) : ∀ x ∈ L, -9223372036854775808 ≤ x ∧ x ≤ 9223372036854775807 := fun x hx => by
  obtain ⟨i, hi, e⟩ := List.getElem_of_mem hx
  have := h i hi
  simpa [hi, e] using this
theorem take_snocI (l : List Int) (k : Nat) (h : k < l.length) : l.take (k + 1) = l.take k ++ [l.getD k 0] := by
  rw [List.take_succ_eq_append_getElem h]
  simp [h]
theorem encs_take {L : List Int} (k : Nat) (h : k < L.length) : encs (L.take (k + 1)) = encs (L.take k) ++ enc (L.getD k 0) := by rw [take_snocI L k h, encs_snoc]
theorem encs_take_len {L : List Int} (hw : WideI L) (hl : L.length ≤ 2500) (k : Nat) : (encs (L.take k)).length ≤ 25000 := by
  have := encs_len (L.take k) fun x hx => hw.mem x (List.mem_of_mem_take hx)
  have h2 : (L.take k).length ≤ L.length := List.length_take_le' k L
  omega

set_option maxRecDepth 100000 in
set_option maxHeartbeats 1000000 in
theorem putInts_own (A : Option Addr) (l : List UInt8) (m c : Nat) (B : Option Addr) (L : List Int) (n d : Nat) (w : World) (hm : l.length = m) (hl : m ≤ 20000) (hc : m ≤ c) (h : BytR w A l) (hn : L.length = n) (hL : n ≤ 2500) (hw : WideI L) (hr : IntR w B L) :
    Calls Tryd.prog 16 #[.slice A m c, .slice B n d] w fun e w' => ∃ v', e = .returned v' ∧ Hid (OwnB w' w.heap.size v' (l ++ (enc L.length ++ encs L))) ∧ Below w.heap.size w w' := by
  have HA := Lib.hid (putInt_own A l m c (n : Int) w hm (by omega) hc h (by omega) (by omega))
  have HN := Lib.hid hn
  have HW := Lib.hid hw
  have HR := Lib.hid hr
  have HLEN : Hid (∀ k, (l ++ (enc (n : Int) ++ encs (L.take k))).length ≤ 50000) := Lib.hid fun k => by
    have h1 := enc_ten (n := (n : Int)) (by omega) (by omega)
    have h2 := encs_take_len hw (by omega) k
    rw [List.length_append, List.length_append]
    omega
  rw [hn]
  clear h hm hn hw hr
  go_enter Tryd.func16, Tryd.ntmps16
  go_wp2_with fail
  refine HA.out.mono ?_
  rintro e w1 ⟨v1, rfl, hO, hB⟩
  have HO : Hid (OwnB w1 w.heap.size v1 (l ++ (enc (n : Int) ++ encs (L.take 0)))) := Lib.hid (by
    rw [List.take_zero, encs, List.append_nil]; exact hO.out)
  clear hO
  go_wp2_with fail
  go_loopw [5, 14] (fun v i wr => ∃ (k : Nat), k ≤ n ∧ i = .int .i64 (k : Int) ∧ Hid (OwnB wr w.heap.size v (l ++ (enc (n : Int) ++ encs (L.take k)))) ∧ Below w.heap.size w wr) (fun _ i _ => n - (intOf i).toNat)
  case atStart => exact ⟨0, by omega, rfl, HO, hB⟩
  case round =>
    obtain ⟨k, hk, rfl, hO, hB⟩ := hrel
    by_cases hlt : k < n
    · have hkl : k < L.length := by rw [HN.out]; exact hlt
      obtain ⟨b, o, rfl, hbl, hc⟩ := (HR.out.below hB).at (by omega)
      have c0 := hc k hkl
      have hx := HW.out k hkl
      have HS := Lib.hid (encs_take k hkl)
      obtain ⟨x, hxx⟩ : ∃ x, L.getD k 0 = x := ⟨_, rfl⟩
      rw [hxx] at hx c0 HS
      clear hxx hkl hc
      have hltz : (k : Int) < (n : Int) := by omega
      have hsz := hB.size
      have HA2 := Lib.hid (fun v (hO : OwnB wr w.heap.size v (l ++ (enc (n : Int) ++ encs (L.take k)))) => appendInt_any w.heap.size v _ x wr (HLEN.out k) (Or.inl hO) hsz hx.1 hx.2)
      have HX := Lib.hid hx
      clear hx
      go_wp2_with fail
      refine (HA2.out _ hO.out).mono ?_
      rintro e w2 ⟨v2, rfl, hO2, hB2⟩
      have HO2 : Hid (OwnB w2 w.heap.size v2 (l ++ (enc (n : Int) ++ encs (L.take (k + 1))))) := Lib.hid (by
        rw [HS.out, ← List.append_assoc, ← List.append_assoc, List.append_assoc l]
        exact hO2.out)
      have hB3 := hB.trans hB2
      clear hO hO2 hB hB2 HA2
      go_wp2_with fail
      go_roundw
      case rel => exact ⟨k + 1, by omega, by go_num, HO2, hB3⟩
      case measure => simp only [intOf]; omega
    · have hnlt : ¬ (k : Int) < (n : Int) := by omega
      have HO2 : Hid (OwnB wr w.heap.size u5 (l ++ (enc (n : Int) ++ encs L))) := Lib.hid (by
        have := hO.out
        rw [List.take_of_length_le (by rw [HN.out]; omega)] at this
        exact this)
      clear hO
      go_wp2_with fail
      go_ret
      exact ⟨_, rfl, HO2, hB⟩
end Go.Proofs.YthalnnhkeaanhaaDoor
