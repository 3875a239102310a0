/-
  The contracts of the table's sum, of Sum, of the specification's Sum and Tail. Condition: at most a million bytes.
-/
import Derived.Test.YthafaococbdhoaaCrcA
namespace Go.Proofs.Ythafaococbdhoaa
open Go.RowKit Go.Maps
set_option linter.unusedVariables false

theorem u32_not_nat (a : Nat) (ha : a < 4294967296) : bits .xor .u32 IntKind.u32.max (a : Int) = ((4294967295 - a : Nat) : Int) := by
  have e : IntKind.u32.max = ((4294967295 : Nat) : Int) := by decide
  rw [e, u32_xor_nat _ _ (by decide) ha, not32 ha]
theorem us32 : IntKind.u32.signed = false := rfl

set_option maxRecDepth 100000 in
set_option maxHeartbeats 1000000 in
theorem tsum_any (b : Nat) (A : Option Addr) (l : List UInt8) (m c : Nat) (w : World) (hm : l.length = m) (hl : m ≤ 1000000) (h : BytR w A l) (ht : TabK w b 256) :
    Calls Try.prog 23 #[.pointer (some ⟨b, 0, none⟩), .slice A m c] w fun e w' => e = .returned (.int .u32 (cs l : Int)) ∧ w = w' := by
  have HR := Lib.hid h
  have HT := Lib.hid ht
  have HM := Lib.hid hm
  have hs := us32
  clear h ht hm
  go_enter Try.func23, Try.ntmps23
  go_wp2_with fail
  go_loop [5, 10] (fun r i => ∃ k : Nat, k ≤ m ∧ i = .int .i64 (k : Int) ∧ ∃ u : Nat, r = .int .u32 (u : Int) ∧ u < 4294967296 ∧ Hid (u = rg 4294967295 (l.take k))) (fun _ i => m - (intOf i).toNat)
  case atStart => exact ⟨0, by omega, rfl, 4294967295, rfl, by decide, Lib.hid (by rw [List.take_zero, rg_nil])⟩
  case round =>
    obtain ⟨k, hk, rfl, u, rfl, hu, hr⟩ := hrel
    by_cases hlt : k < m
    · have hkl : k < l.length := by rw [HM.out]; exact hlt
      obtain ⟨ab, o, rfl, _, hc⟩ := HR.out.at (by omega)
      have c0 := hc k hkl
      have hx8 : (l.getD k 0).toNat < 256 := (l.getD k 0).toNat_lt
      have hrg := rg_take (r := 4294967295) hkl
      rw [← hr.out] at hrg
      obtain ⟨x, hx⟩ : ∃ x, (l.getD k 0).toNat = x := ⟨_, rfl⟩
      rw [hx] at c0 hx8 hrg
      have hj8 : u % 256 ^^^ x < 256 := xor_lt8 (by omega) hx8
      have hj : bits .xor .u8 ((u : Int) % 256) (x : Int) = ((u % 256 ^^^ x : Nat) : Int) := by
        rw [← u8_xor_nat (u % 256) x (by omega) hx8]
        congr 1
      have hst := st_tab (r := u) hx8
      have hlt2 := st_lt hu hx8
      obtain ⟨j, hjj⟩ : ∃ j, u % 256 ^^^ x = j := ⟨_, rfl⟩
      rw [hjj] at hj hj8 hst
      have c1 := HT.out.at hj8
      have hit := it_lt 8 (u := j) (by omega)
      obtain ⟨y, hy⟩ : ∃ y, it 8 j = y := ⟨_, rfl⟩
      rw [hy] at c1 hst hit
      have HV : Hid (bits .xor .u32 ((u : Int) / 256) (y : Int) = (st u x : Int)) := Lib.hid (by
        rw [← hst, ← u32_xor_nat (u / 256) y (by omega) hit]
        congr 1)
      have HG := Lib.hid hrg
      have hltz : (k : Int) < (m : Int) := by omega
      clear hc hx hrg hjj hy hst hkl hr hit
      go_wp2_with fail
      go_round
      case rel => exact ⟨k + 1, by omega, by go_num, st u x, val_int' HV.out, hlt2, Lib.hid HG.out.symm⟩
      case measure => simp only [intOf]; omega
    · obtain rfl : k = m := by omega
      have HV : Hid (((4294967295 - u : Nat) : Int) = (cs l : Int)) := Lib.hid (by
        rw [hr.out, List.take_of_length_le (by rw [HM.out]; exact Nat.le_refl _)]
        rfl)
      have HN := Lib.hid (u32_not_nat u hu)
      clear hr
      go_wp2_with fail
      go_ret
      exact ⟨ret_int (by rw [HN.out]; exact HV.out), rfl⟩

set_option maxRecDepth 100000 in
set_option maxHeartbeats 1000000 in
theorem refSum_any (A : Option Addr) (l : List UInt8) (m c : Nat) (w : World) (hm : l.length = m) (hl : m ≤ 1000000) (h : BytR w A l) :
    Calls Try.prog 13 #[.slice A m c] w fun e w' => e = .returned (.int .i64 (cs l : Int)) ∧ w = w' := by
  have HR := Lib.hid h
  have HM := Lib.hid hm
  clear h hm
  go_enter Try.func13, Try.ntmps13
  go_wp2_with fail
  go_loop [3, 4] (fun r i => ∃ k : Nat, k ≤ m ∧ i = .int .i64 (k : Int) ∧ ∃ u : Nat, r = .int .u64 (u : Int) ∧ u < 4294967296 ∧ Hid (u = rg 4294967295 (l.take k))) (fun _ i => m - (intOf i).toNat)
  case atStart => exact ⟨0, by omega, rfl, 4294967295, rfl, by decide, Lib.hid (by rw [List.take_zero, rg_nil])⟩
  case round =>
    obtain ⟨k, hk, rfl, u, rfl, hu, hr⟩ := hrel
    by_cases hlt : k < m
    · have hkl : k < l.length := by rw [HM.out]; exact hlt
      obtain ⟨ab, o, rfl, _, hc⟩ := HR.out.at (by omega)
      have c0 := hc k hkl
      have hx8 : (l.getD k 0).toNat < 256 := (l.getD k 0).toNat_lt
      have hrg := rg_take (r := 4294967295) hkl
      rw [← hr.out] at hrg
      obtain ⟨x, hx⟩ : ∃ x, (l.getD k 0).toNat = x := ⟨_, rfl⟩
      rw [hx] at c0 hx8 hrg
      have hj := u64_xor_nat u x (by omega) (by omega)
      have hj32 := xor_lt32 hu (show x < 4294967296 by omega)
      have hst : Hid (it 8 (u ^^^ x) = st u x) := Lib.hid rfl
      have hlt2 := st_lt hu hx8
      obtain ⟨z, hz⟩ : ∃ z, u ^^^ x = z := ⟨_, rfl⟩
      rw [hz] at hj hj32 hst
      have HG := Lib.hid hrg
      have hltz : (k : Int) < (m : Int) := by omega
      clear hc hx hrg hz hkl hr
      go_wp2_with fail
      clear hj
      go_loop [3, 5] (fun v i => ∃ t : Nat, t ≤ 8 ∧ i = .int .i64 (t : Int) ∧ v = .int .u64 (it t z : Int)) (fun _ i => 8 - (intOf i).toNat)
      case atStart => exact ⟨0, by omega, rfl, rfl⟩
      case round =>
        obtain ⟨t, ht, rfl, rfl⟩ := hrel
        by_cases ht8 : t < 8
        · have ht8z : (t : Int) < 8 := by omega
          have hb := it_lt t hj32
          have hmv : Hid (it (t + 1) z = mv (it t z)) := Lib.hid rfl
          obtain ⟨q, hq⟩ : ∃ q, it t z = q := ⟨_, rfl⟩
          rw [hq] at hb hmv ⊢
          clear hq
          by_cases ho : q % 2 = 1
          · have hoz : (q : Int) % 2 = 1 := by omega
            have HQ : Hid (bits .xor .u64 ((q : Int) / 2) 3988292384 = (it (t + 1) z : Int)) := Lib.hid (by
              rw [hmv.out, mv_odd ho, ← u64_xor_nat (q / 2) 3988292384 (by omega) (by decide)]
              congr 1)
            go_wp2_with fail
            go_round
            case rel => exact ⟨t + 1, by omega, by go_num, val_int' HQ.out⟩
            case measure => simp only [intOf]; omega
          · have hoz : (q : Int) % 2 = 0 := by omega
            have HQ : Hid ((q : Int) / 2 = (it (t + 1) z : Int)) := Lib.hid (by
              rw [hmv.out, mv_even (by omega)]
              omega)
            go_wp2_with fail
            go_round
            case rel => exact ⟨t + 1, by omega, by go_num, val_int' HQ.out⟩
            case measure => simp only [intOf]; omega
        · obtain rfl : t = 8 := by omega
          have HV : Hid ((it 8 z : Int) = (st u x : Int)) := Lib.hid (by rw [hst.out])
          go_wp2_with fail
          go_round
          case rel => exact ⟨k + 1, by omega, by go_num, st u x, val_int' HV.out, hlt2, Lib.hid HG.out.symm⟩
          case measure => simp only [intOf]; omega
    · obtain rfl : k = m := by omega
      have HV : Hid (4294967295 - (u : Int) = (cs l : Int)) := Lib.hid (by
        have := hr.out
        rw [List.take_of_length_le (by rw [HM.out]; exact Nat.le_refl _)] at this
        have e : cs l = 4294967295 - u := by rw [this]; rfl
        rw [e]
        omega)
      clear hr
      go_wp2_with fail
      go_ret
      exact ⟨ret_int HV.out, rfl⟩

set_option maxRecDepth 100000 in
set_option maxHeartbeats 1000000 in
theorem sum_any (A : Option Addr) (l : List UInt8) (m c : Nat) (w : World) (hm : l.length = m) (hl : m ≤ 1000000) (h : BytR w A l) :
    Calls Try.prog 12 #[.slice A m c] w fun e w' => e = .returned (.int .i64 (cs l : Int)) ∧ Below w.heap.size w w' := by
  have HR := Lib.hid h
  have HM := Lib.hid hm
  have hcs := cs_lt l
  clear h hm
  go_enter Try.func12, Try.ntmps12
  go_wp2_with fail
  refine (newTable_any _).mono ?_
  rintro e w1 ⟨b, rfl, hT, hB⟩
  have HT := Lib.hid hT
  clear hT
  go_wp2_with fail
  refine (tsum_any b A l m c w1 HM.out hl (HR.out.below hB) HT.out).mono ?_
  rintro e w2 ⟨rfl, rfl⟩
  go_wp2_with fail
  go_ret
  exact ⟨rfl, hB⟩

theorem tail_bc (s : Nat) : (tail s).map bc = [.int .u8 ((s % 256 : Nat) : Int), .int .u8 ((s / 256 % 256 : Nat) : Int), .int .u8 ((s / 65536 % 256 : Nat) : Int), .int .u8 ((s / 16777216 % 256 : Nat) : Int)] := by
  unfold tail
  simp only [List.map_cons, List.map_nil, bc, u8_mod]
theorem BytR.lit (w : World) (l : List UInt8) : BytR (w.alloc (.cells (l.map bc).toArray 5)) (some ⟨w.heap.size, 0, none⟩) l := fun _ => by
  refine ⟨w.heap.size, 0, rfl, by simp, fun k v hk => ?_⟩
  rw [Nat.zero_add, World.cell?_alloc_new]
  simpa using hk
theorem tail_vals {s : Nat} (hs : s < 4294967296) : ((tail s).map bc).toArray = #[.int .u8 ((s : Int) % 256), .int .u8 ((s : Int) / 256 % 256), .int .u8 ((s : Int) / 65536 % 256), .int .u8 ((s : Int) / 16777216)] := by
  have e1 : ((s % 256 : Nat) : Int) = (s : Int) % 256 := by omega
  have e2 : ((s / 256 % 256 : Nat) : Int) = (s : Int) / 256 % 256 := by omega
  have e3 : ((s / 65536 % 256 : Nat) : Int) = (s : Int) / 65536 % 256 := by omega
  have e4 : ((s / 16777216 % 256 : Nat) : Int) = (s : Int) / 16777216 := by omega
  rw [tail_bc, e1, e2, e3, e4]
set_option maxRecDepth 100000 in
theorem tail_any (s : Nat) (w : World) (hs : s < 4294967296) :
    Calls Try.prog 27 #[.int .i64 (s : Int)] w fun e w' => ∃ B, e = .returned (.slice B 4 4) ∧ Hid (BytR w' B (tail s)) ∧ Below w.heap.size w w' := by
  have HL := Lib.hid (BytR.lit w (tail s))
  have HV := Lib.hid (tail_vals hs)
  rw [HV.out] at HL
  clear HV
  go_enter Try.func27, Try.ntmps27
  go_wp2_with fail
  go_ret
  exact ⟨_, rfl, HL, (Below.refl _ _).alloc (Nat.le_refl _) _⟩
end Go.Proofs.Ythafaococbdhoaa
