/-
  The contracts of Sum, of package num and of its specification, for every list of at most 4096 integers. Condition: that length.
-/
import Derived.Test.YtjgajcabecklcaaDoorNumA
import Derived.Lib.Hide
import Derived.Laws.Bits128
namespace Go.Proofs.YtjgajcabecklcaaDoor
open Go.RowKit
set_option linter.unusedVariables false

theorem val_int' {k : IntKind} {a b : Int} (h : a = b) : Value.int k a = Value.int k b := by rw [h]

/-- A slice value that reads as the list l of integers. -/
def IntsAt (w : World) (v : Value) (l : List Int) : Prop :=
  (l = [] ∧ (v = .slice none 0 0 ∨ ∃ a cap, v = .slice (some a) 0 cap)) ∨
  ∃ b o cap, v = .slice (some ⟨b, o, none⟩) l.length cap ∧ l.length ≤ 9223372036854775807 ∧ 1 ≤ l.length ∧ ∀ k, k < l.length → w.cell? ⟨b, o + k, none⟩ = some (.int .i64 (l.getD k 0))

/-- Every element is an int. -/
def Wide (l : List Int) : Prop := ∀ k, k < l.length → -9223372036854775808 ≤ l.getD k 0 ∧ l.getD k 0 ≤ 9223372036854775807

theorem take_snoc (l : List Int) (k : Nat) (h : k < l.length) : l.take (k + 1) = l.take k ++ [l.getD k 0] := by
  rw [List.take_succ_eq_append_getElem h]
  simp [h]

def allValid (l : List Int) : Bool := l.all validB
def sumS (l : List Int) : Int × Int := if allValid l then (if validB l.sum then (l.sum, 0) else (0, 2)) else (0, 1)

theorem i64_and25 (n : Int) : bits .and .i64 n 33554431 = n % 33554432 := by
  have h : (BitVec.ofInt 64 n &&& BitVec.ofInt 64 33554431).toNat = (BitVec.ofInt 64 n).toNat % 33554432 := by
    rw [BitVec.toNat_and]
    have : (BitVec.ofInt 64 33554431).toNat = 33554431 := by decide
    rw [this]
    exact Nat.and_two_pow_sub_one_eq_mod _ 25
  show IntKind.i64.wrap ((BitVec.ofInt 64 n &&& BitVec.ofInt 64 33554431).toNat : Int) = _
  rw [h, IntKind.wrap_i64, BitVec.toNat_ofInt]
  omega

theorem sum_bd (A B : Int) : ∀ l : List Int, (∀ x ∈ l, A ≤ x ∧ x ≤ B) → A * l.length ≤ l.sum ∧ l.sum ≤ B * l.length
  | [], _ => by simp
  | x :: l, h => by
    have ih := sum_bd A B l fun y hy => h y (List.mem_cons_of_mem _ hy)
    have hx := h x List.mem_cons_self
    rw [List.sum_cons, List.length_cons, Int.natCast_add, Int.mul_add, Int.mul_add]
    simp only [Int.natCast_one, Int.mul_one]
    omega
def hiS (l : List Int) : Int := (l.map fun x : Int => x / 33554432).sum
def loS (l : List Int) : Int := (l.map fun x : Int => x % 33554432).sum
theorem hiS_snoc (l : List Int) (x : Int) : hiS (l ++ [x]) = hiS l + x / 33554432 := by simp [hiS, List.sum_append]
theorem loS_snoc (l : List Int) (x : Int) : loS (l ++ [x]) = loS l + x % 33554432 := by simp [loS, List.sum_append]
theorem sum_split : ∀ l : List Int, l.sum = hiS l * 33554432 + loS l
  | [] => rfl
  | x :: l => by
    have h := sum_split l
    have e1 : hiS (x :: l) = x / 33554432 + hiS l := by simp [hiS]
    have e2 : loS (x :: l) = x % 33554432 + loS l := by simp [loS]
    rw [List.sum_cons, h, e1, e2]
    have := Int.mul_ediv_add_emod x 33554432
    omega
theorem high_bd (l : List Int) (h : allValid l = true) : -33554432 * (l.length : Int) ≤ hiS l ∧ hiS l ≤ 33554432 * (l.length : Int) := by
  have := sum_bd (-33554432) 33554432 (l.map fun x : Int => x / 33554432) (fun x hx => by
    obtain ⟨y, hy, rfl⟩ := List.mem_map.1 hx
    have := validB_true (List.all_eq_true.1 h y hy)
    omega)
  rwa [List.length_map] at this
theorem low_bd (l : List Int) : 0 ≤ loS l ∧ loS l ≤ 33554432 * (l.length : Int) := by
  have := sum_bd 0 33554432 (l.map fun x : Int => x % 33554432) (fun x hx => by
    obtain ⟨y, hy, rfl⟩ := List.mem_map.1 hx
    omega)
  rw [List.length_map] at this
  unfold loS
  omega
theorem sumS_bad (l : List Int) (k : Nat) (hk : k < l.length) (h : validB (l.getD k 0) = false) : sumS l = (0, 1) := by
  have : allValid l = false := by
    cases ha : allValid l
    · rfl
    · have hm : l.getD k 0 ∈ l := by simp [hk]
      have := List.all_eq_true.1 ha _ hm
      rw [h] at this
      exact absurd this (by decide)
  simp [sumS, this]
theorem allValid_snoc (l : List Int) (k : Nat) (hk : k < l.length) (h : allValid (l.take k) = true) (h2 : validB (l.getD k 0) = true) : allValid (l.take (k + 1)) = true := by
  rw [take_snoc l k hk]
  unfold allValid at *
  rw [List.all_append, h]
  simp only [List.all_cons, List.all_nil, h2, Bool.and_self]

set_option maxHeartbeats 1000000 in
theorem sum_cells (l : List Int) (b o cap : Nat) (w : World) (hl : l.length ≤ 4096) (h1 : 1 ≤ l.length) (hwd : Wide l) (hc : ∀ k, k < l.length → w.cell? ⟨b, o + k, none⟩ = some (.int .i64 (l.getD k 0))) :
    Calls Tryd.prog 18 #[.slice (some ⟨b, o, none⟩) l.length cap] w fun e w' => e = .returned (.tuple #[.int .i64 (sumS l).1, .int .i64 (sumS l).2]) ∧ w = w' := by
  obtain ⟨len, hlen⟩ : ∃ n, l.length = n := ⟨_, rfl⟩
  rw [hlen] at hl h1 ⊢
  have HC := Lib.hid hc
  have HL := Lib.hid hlen
  clear hc hlen
  go_enter Tryd.func18, Tryd.ntmps18
  go_wp2
  go_loop [4, 5, 10] (fun h s i => ∃ k : Nat, k ≤ len ∧ i = .int .i64 (k : Int) ∧ h = .int .i64 (hiS (l.take k)) ∧ s = .int .i64 (loS (l.take k)) ∧ Hid (allValid (l.take k) = true)) (fun _ _ i => len - (intOf i).toNat)
  case atStart => exact ⟨0, by omega, rfl, rfl, rfl, rfl⟩
  case round =>
    obtain ⟨k, hk, rfl, rfl, rfl, hva⟩ := hrel
    have hH := high_bd _ hva.out
    have hS := low_bd (l.take k)
    have hll : (l.take k).length ≤ k := List.length_take_le _ _
    obtain ⟨A, hA⟩ : ∃ A, hiS (l.take k) = A := ⟨_, rfl⟩
    obtain ⟨B, hB⟩ : ∃ B, loS (l.take k) = B := ⟨_, rfl⟩
    rw [hA] at hH ⊢
    rw [hB] at hS ⊢
    have hA0 : -137438953472 ≤ A ∧ A ≤ 137438953472 := by omega
    have hB0 : 0 ≤ B ∧ B ≤ 137438953472 := by omega
    clear hH hS hll
    have HA := Lib.hid hA
    have HB := Lib.hid hB
    clear hA hB
    by_cases hlt : k < len
    · have hkl : k < l.length := by rw [HL.out]; exact hlt
      have hx := hwd k hkl
      have hcell := HC.out k hkl
      have hsn := Lib.hid (take_snoc l k hkl)
      have HBAD := Lib.hid (sumS_bad l k hkl)
      have HGOOD := Lib.hid (allValid_snoc l k hkl hva.out)
      obtain ⟨x, hxd⟩ : ∃ x, l.getD k 0 = x := ⟨_, rfl⟩
      rw [hxd] at hx hcell hsn HBAD HGOOD
      clear hxd hkl
      have hltz : (k : Int) < (len : Int) := by omega
      have zand := i64_and25 x
      cases hv : validB x
      · go_wp2_with (go_at_call 35; refine (valid_any _ _ (by omega) (by omega)).mono ?_; rintro e w' ⟨rfl, rfl⟩)
        go_ret2
        exact ⟨ret_pair (by rw [HBAD.out hv]) (by rw [HBAD.out hv]), rfl⟩
      · have hx2 := validB_true hv
        go_wp2_with (go_at_call 35; refine (valid_any _ _ (by omega) (by omega)).mono ?_; rintro e w' ⟨rfl, rfl⟩)
        go_round
        case rel =>
          refine ⟨k + 1, by omega, by go_num, ?_, ?_, HGOOD.out hv⟩
          · rw [hsn.out, hiS_snoc, HA.out]
          · rw [hsn.out, loS_snoc, HB.out]
        case measure => simp only [intOf]; omega
    · have hke : k = len := by omega
      have hnlt : ¬ (k : Int) < (len : Int) := by omega
      have htk : l.take k = l := by rw [List.take_of_length_le]; rw [HL.out]; omega
      have HT := Lib.hid htk
      clear htk
      have hsp := sum_split l
      rw [← HT.out, HA.out, HB.out, HT.out] at hsp
      have hva2 := hva.out
      rw [HT.out] at hva2
      have hfin : ∀ x y : Int, sumS l = (x, y) → Hid (sumS l = (x, y)) := fun _ _ h => h
      have hS : sumS l = if validB l.sum then (l.sum, 0) else (0, 2) := by simp [sumS, hva2]
      rw [hsp] at hS
      clear hsp hva2 HT hva HC hwd hke
      have zand := i64_and25 B
      have hq0 : 0 ≤ B / 33554432 := by omega
      by_cases c1 : 33554432 < A + B / 33554432
      · have HF := hfin _ _ (by rw [hS, if_neg (by rw [validB_not (Or.inr (by omega))]; decide)])
        clear hS hfin
        have ab : absI (A + B / 33554432) = A + B / 33554432 := absI_pos _ (by omega)
        go_wp2_with (first | (go_at_call 36; refine (abs_any _ _ (by omega) (by omega)).mono ?_; rintro e w' ⟨rfl, rfl⟩) | (go_at_call 35; refine (valid_any _ _ (by omega) (by omega)).mono ?_; rintro e w' ⟨rfl, rfl⟩))
        go_ret2
        exact ⟨ret_pair (by rw [HF.out]) (by rw [HF.out]), rfl⟩
      · by_cases c2 : A + B / 33554432 < -33554432
        · have HF := hfin _ _ (by rw [hS, if_neg (by rw [validB_not (Or.inl (by omega))]; decide)])
          clear hS hfin
          have ab : absI (A + B / 33554432) = -(A + B / 33554432) := absI_neg _ (by omega)
          go_wp2_with (first | (go_at_call 36; refine (abs_any _ _ (by omega) (by omega)).mono ?_; rintro e w' ⟨rfl, rfl⟩) | (go_at_call 35; refine (valid_any _ _ (by omega) (by omega)).mono ?_; rintro e w' ⟨rfl, rfl⟩))
          go_ret2
          exact ⟨ret_pair (by rw [HF.out]) (by rw [HF.out]), rfl⟩
        · have ab : ¬ 33554432 < absI (A + B / 33554432) := by unfold absI; split <;> omega
          have hsum : (A + B / 33554432) * 33554432 + B % 33554432 = A * 33554432 + B := by omega
          cases hv : validB (A * 33554432 + B)
          · have HF := hfin _ _ (by rw [hS, if_neg (by rw [hv]; decide)])
            clear hS hfin
            go_wp2_with (first | (go_at_call 36; refine (abs_any _ _ (by omega) (by omega)).mono ?_; rintro e w' ⟨rfl, rfl⟩) | (go_at_call 35; refine (valid_any _ _ (by omega) (by omega)).mono ?_; rintro e w' ⟨rfl, rfl⟩))
            go_ret2
            exact ⟨ret_pair (by rw [HF.out]) (by rw [HF.out]), rfl⟩
          · have HF := hfin _ _ (by rw [hS, if_pos hv])
            clear hS hfin
            go_wp2_with (first | (go_at_call 36; refine (abs_any _ _ (by omega) (by omega)).mono ?_; rintro e w' ⟨rfl, rfl⟩) | (go_at_call 35; refine (valid_any _ _ (by omega) (by omega)).mono ?_; rintro e w' ⟨rfl, rfl⟩))
            go_ret2
            exact ⟨ret_pair (by rw [HF.out]) (by rw [HF.out]), rfl⟩

theorem sum_empty (v : Value) (w : World) (h : v = .slice none 0 0 ∨ ∃ a cap, v = .slice (some a) 0 cap) :
    Calls Tryd.prog 18 #[v] w fun e w' => e = .returned (.tuple #[.int .i64 (sumS []).1, .int .i64 (sumS []).2]) ∧ w = w' := by
  rw [show sumS [] = (0, 0) by decide]
  have ab0 : absI 0 = 0 := by decide
  have zand : bits .and .i64 0 33554431 = 0 := by decide
  have vb : validB 0 = true := by decide
  rcases h with rfl | ⟨a, cap, rfl⟩
  · go_enter Tryd.func18, Tryd.ntmps18
    go_wp2
    go_loop [4, 5, 10] (fun h s i => h = .int .i64 0 ∧ s = .int .i64 0 ∧ i = .int .i64 0) (fun _ _ _ => 0)
    case atStart => exact ⟨rfl, rfl, rfl⟩
    case round =>
      obtain ⟨rfl, rfl, rfl⟩ := hrel
      go_wp2_with fail
      refine (abs_any 0 _ (by decide) (by decide)).mono ?_
      rintro e w' ⟨rfl, rfl⟩
      rw [ab0]
      go_wp2_with fail
      refine (valid_any 0 _ (by decide) (by decide)).mono ?_
      rintro e w' ⟨rfl, rfl⟩
      go_wp2
      go_ret2
      exact ⟨rfl, rfl⟩
  · go_enter Tryd.func18, Tryd.ntmps18
    go_wp2
    go_loop [4, 5, 10] (fun h s i => h = .int .i64 0 ∧ s = .int .i64 0 ∧ i = .int .i64 0) (fun _ _ _ => 0)
    case atStart => exact ⟨rfl, rfl, rfl⟩
    case round =>
      obtain ⟨rfl, rfl, rfl⟩ := hrel
      go_wp2_with fail
      refine (abs_any 0 _ (by decide) (by decide)).mono ?_
      rintro e w' ⟨rfl, rfl⟩
      rw [ab0]
      go_wp2_with fail
      refine (valid_any 0 _ (by decide) (by decide)).mono ?_
      rintro e w' ⟨rfl, rfl⟩
      go_wp2
      go_ret2
      exact ⟨rfl, rfl⟩

theorem refSum_empty (v : Value) (w : World) (h : v = .slice none 0 0 ∨ ∃ a cap, v = .slice (some a) 0 cap) :
    Calls Tryd.prog 19 #[v] w fun e w' => e = .returned (.tuple #[.int .i64 (sumS []).1, .int .i64 (sumS []).2]) ∧ w = w' := by
  rw [show sumS [] = (0, 0) by decide]
  have vb : validB 0 = true := by decide
  rcases h with rfl | ⟨a, cap, rfl⟩
  · go_enter Tryd.func19, Tryd.ntmps19
    go_wp2
    go_loop [4] (fun i => i = .int .i64 0) (fun _ => 0)
    case atStart => rfl
    case round =>
      obtain rfl := hrel
      go_wp2_with (go_at_call 25; refine (refValid_any _ _ (by omega) (by omega)).mono ?_; rintro e w' ⟨rfl, rfl⟩)
      go_loop [5, 6] (fun n i => n = .int .i64 0 ∧ i = .int .i64 0) (fun _ _ => 0)
      case atStart => exact ⟨rfl, rfl⟩
      case round =>
        obtain ⟨rfl, rfl⟩ := hrel
        go_wp2_with (go_at_call 25; refine (refValid_any _ _ (by omega) (by omega)).mono ?_; rintro e w' ⟨rfl, rfl⟩)
        go_ret2
        exact ⟨rfl, rfl⟩
  · go_enter Tryd.func19, Tryd.ntmps19
    go_wp2
    go_loop [4] (fun i => i = .int .i64 0) (fun _ => 0)
    case atStart => rfl
    case round =>
      obtain rfl := hrel
      go_wp2_with (go_at_call 25; refine (refValid_any _ _ (by omega) (by omega)).mono ?_; rintro e w' ⟨rfl, rfl⟩)
      go_loop [5, 6] (fun n i => n = .int .i64 0 ∧ i = .int .i64 0) (fun _ _ => 0)
      case atStart => exact ⟨rfl, rfl⟩
      case round =>
        obtain ⟨rfl, rfl⟩ := hrel
        go_wp2_with (go_at_call 25; refine (refValid_any _ _ (by omega) (by omega)).mono ?_; rintro e w' ⟨rfl, rfl⟩)
        go_ret2
        exact ⟨rfl, rfl⟩

theorem valid_sum_bd (l : List Int) (h : allValid l = true) : -1125899906842624 * (l.length : Int) ≤ l.sum ∧ l.sum ≤ 1125899906842624 * (l.length : Int) :=
  sum_bd _ _ l fun x hx => validB_true (List.all_eq_true.1 h x hx)
theorem allValid_take (l : List Int) (k : Nat) (h : allValid l = true) : allValid (l.take k) = true :=
  List.all_eq_true.2 fun x hx => List.all_eq_true.1 h x (List.mem_of_mem_take hx)

set_option maxHeartbeats 1000000 in
theorem refSum_cells (l : List Int) (b o cap : Nat) (w : World) (hl : l.length ≤ 4096) (h1 : 1 ≤ l.length) (hwd : Wide l) (hc : ∀ k, k < l.length → w.cell? ⟨b, o + k, none⟩ = some (.int .i64 (l.getD k 0))) :
    Calls Tryd.prog 19 #[.slice (some ⟨b, o, none⟩) l.length cap] w fun e w' => e = .returned (.tuple #[.int .i64 (sumS l).1, .int .i64 (sumS l).2]) ∧ w = w' := by
  obtain ⟨len, hlen⟩ : ∃ n, l.length = n := ⟨_, rfl⟩
  rw [hlen] at hl h1 ⊢
  have HC := Lib.hid hc
  have HL := Lib.hid hlen
  clear hc hlen
  go_enter Tryd.func19, Tryd.ntmps19
  go_wp2
  go_loop [4] (fun i => ∃ k : Nat, k ≤ len ∧ i = .int .i64 (k : Int) ∧ Hid (allValid (l.take k) = true)) (fun i => len - (intOf i).toNat)
  case atStart => exact ⟨0, by omega, rfl, rfl⟩
  case round =>
    obtain ⟨k, hk, rfl, hva⟩ := hrel
    by_cases hlt : k < len
    · have hkl : k < l.length := by rw [HL.out]; exact hlt
      have hx := hwd k hkl
      have hcell := HC.out k hkl
      have HBAD := Lib.hid (sumS_bad l k hkl)
      have HGOOD := Lib.hid (allValid_snoc l k hkl hva.out)
      obtain ⟨x, hxd⟩ : ∃ x, l.getD k 0 = x := ⟨_, rfl⟩
      rw [hxd] at hx hcell HBAD HGOOD
      clear hxd hkl
      have hltz : (k : Int) < (len : Int) := by omega
      cases hv : validB x
      · go_wp2_with (go_at_call 25; refine (refValid_any _ _ (by omega) (by omega)).mono ?_; rintro e w' ⟨rfl, rfl⟩)
        go_ret2
        exact ⟨ret_pair (by rw [HBAD.out hv]) (by rw [HBAD.out hv]), rfl⟩
      · have hx2 := validB_true hv
        go_wp2_with (go_at_call 25; refine (refValid_any _ _ (by omega) (by omega)).mono ?_; rintro e w' ⟨rfl, rfl⟩)
        go_round
        case rel => exact ⟨k + 1, by omega, by go_num, HGOOD.out hv⟩
        case measure => simp only [intOf]; omega
    · have hnlt : ¬ (k : Int) < (len : Int) := by omega
      have htk : l.take k = l := by rw [List.take_of_length_le]; rw [HL.out]; omega
      have hva2 := hva.out
      rw [htk] at hva2
      have hS : sumS l = if validB l.sum then (l.sum, 0) else (0, 2) := by simp [sumS, hva2]
      have HV := Lib.hid hva2
      have HS := Lib.hid hS
      clear htk hva2 hva hS
      go_wp2_with fail
      go_loop [5, 6] (fun n i => ∃ k : Nat, k ≤ len ∧ i = .int .i64 (k : Int) ∧ n = .int .i64 (l.take k).sum) (fun _ i => len - (intOf i).toNat)
      case atStart => exact ⟨0, by omega, rfl, rfl⟩
      case round =>
        obtain ⟨j, hj, rfl, rfl⟩ := hrel
        have hbd := valid_sum_bd _ (allValid_take l j HV.out)
        have hll : (l.take j).length ≤ 4096 := by rw [List.length_take]; omega
        obtain ⟨A, hA⟩ : ∃ A, (l.take j).sum = A := ⟨_, rfl⟩
        rw [hA] at hbd ⊢
        have hA0 : -4611686018427387904 ≤ A ∧ A ≤ 4611686018427387904 := by omega
        clear hbd hll
        have HA := Lib.hid hA
        clear hA
        by_cases hlt2 : j < len
        · have hkl : j < l.length := by rw [HL.out]; exact hlt2
          have hx := validB_true (List.all_eq_true.1 HV.out (l.getD j 0) (by simp [hkl]))
          have hcell := HC.out j hkl
          have hsn := Lib.hid (take_snoc l j hkl)
          obtain ⟨x, hxd⟩ : ∃ x, l.getD j 0 = x := ⟨_, rfl⟩
          rw [hxd] at hx hcell hsn
          clear hxd hkl
          have hltz : (j : Int) < (len : Int) := by omega
          go_wp2_with (go_at_call 25; refine (refValid_any _ _ (by omega) (by omega)).mono ?_; rintro e w' ⟨rfl, rfl⟩)
          go_round
          case rel => exact ⟨j + 1, by omega, by go_num, val_int' (by rw [hsn.out, List.sum_append, HA.out]; simp)⟩
          case measure => simp only [intOf]; omega
        · have hnlt2 : ¬ (j : Int) < (len : Int) := by omega
          have htk : l.take j = l := by rw [List.take_of_length_le]; rw [HL.out]; omega
          have hA2 := HA.out
          rw [htk] at hA2
          have hS := HS.out
          rw [hA2] at hS
          clear htk hA2
          have hfin : ∀ x y : Int, sumS l = (x, y) → Hid (sumS l = (x, y)) := fun _ _ h => h
          cases hv : validB A
          · have HF := hfin _ _ (by rw [hS, if_neg (by rw [hv]; decide)])
            clear hS hfin
            go_wp2_with (go_at_call 25; refine (refValid_any _ _ (by omega) (by omega)).mono ?_; rintro e w' ⟨rfl, rfl⟩)
            go_ret2
            exact ⟨ret_pair (by rw [HF.out]) (by rw [HF.out]), rfl⟩
          · have HF := hfin _ _ (by rw [hS, if_pos hv])
            clear hS hfin
            go_wp2_with (go_at_call 25; refine (refValid_any _ _ (by omega) (by omega)).mono ?_; rintro e w' ⟨rfl, rfl⟩)
            go_ret2
            exact ⟨ret_pair (by rw [HF.out]) (by rw [HF.out]), rfl⟩

/-- Sum, whatever slice value reads as the list. -/
theorem sum_any (l : List Int) (v : Value) (w : World) (hl : l.length ≤ 4096) (hwd : Wide l) (h : IntsAt w v l) :
    Calls Tryd.prog 18 #[v] w fun e w' => e = .returned (.tuple #[.int .i64 (sumS l).1, .int .i64 (sumS l).2]) ∧ w = w' := by
  rcases h with ⟨rfl, h⟩ | ⟨b, o, cap, rfl, _, h1, hc⟩
  · exact sum_empty v w h
  · exact sum_cells l b o cap w hl h1 hwd hc
theorem refSum_any (l : List Int) (v : Value) (w : World) (hl : l.length ≤ 4096) (hwd : Wide l) (h : IntsAt w v l) :
    Calls Tryd.prog 19 #[v] w fun e w' => e = .returned (.tuple #[.int .i64 (sumS l).1, .int .i64 (sumS l).2]) ∧ w = w' := by
  rcases h with ⟨rfl, h⟩ | ⟨b, o, cap, rfl, _, h1, hc⟩
  · exact refSum_empty v w h
  · exact refSum_cells l b o cap w hl h1 hwd hc
end Go.Proofs.YtjgajcabecklcaaDoor
