/-
  P4.7: WireApart: for all byte sequences and strings of at most 2000 bytes, every integer and all lists of at most 300 integers (else the chapter's examples alone), encodings that are appended to the same bytes with room behind them do not disturb one another, nor the bytes and the room; and the chapter's examples hold. Conditions: none but the row's own.
-/
import Derived.Test.YtlanbilcekepnaaWirR
import Derived.OwnWalk
namespace Go.Proofs.Ytlanbilcekepnaa.wireApart
open Go.ChangeShapes Go.WideShapes Go.ChangeAt Go.RowKit Go.Maps
set_option linter.unusedVariables false
attribute [local irreducible] wpQuiet

/-- Block g holds the bytes c, and the call owns it. -/
def RoomP (w : World) (base g N : Nat) (c : List UInt8) : Prop := w.ownsRow base 5 1 (.slice (some ⟨g, 0, none⟩) N N) N (c.map bc)
def roomB (l : List UInt8) (N k : Nat) : List UInt8 := l.take k ++ List.replicate (N - k) 0
theorem roomB_get {l : List UInt8} {N k : Nat} (hk : k ≤ l.length) (j : Nat) (hj : j < N) : (roomB l N k)[j]? = some (if j < k then l.getD j 0 else 0) := by
  unfold roomB
  have hl : (l.take k).length = k := by rw [List.length_take]; omega
  by_cases h : j < k
  · rw [if_pos h, List.getElem?_append_left (by omega), List.getElem?_take_of_lt h]
    simp [show j < l.length by omega]
  · rw [if_neg h, List.getElem?_append_right (by omega), hl]
    simp [show j - k < N - k by omega]
theorem roomB_set {l : List UInt8} {N k : Nat} (hk : k < l.length) (hN : k < N) : (roomB l N k).set k (l.getD k 0) = roomB l N (k + 1) := by
  apply List.ext_getElem?
  intro j
  have hlen : ∀ q, q ≤ l.length → q ≤ N → (roomB l N q).length = N := fun q h1 h2 => by
    unfold roomB
    rw [List.length_append, List.length_take, List.length_replicate]
    omega
  by_cases hj : j < N
  · rw [List.getElem?_set, roomB_get (by omega) j hj, roomB_get (by omega) j hj, hlen k (by omega) (by omega)]
    by_cases e : k = j
    · subst e
      rw [if_pos rfl, if_pos hN, if_pos (by omega)]
    · rw [if_neg e]
      by_cases h : j < k
      · rw [if_pos h, if_pos (by omega)]
      · rw [if_neg h, if_neg (by omega)]
  · rw [List.getElem?_eq_none (by rw [List.length_set, hlen k (by omega) (by omega)]; omega), List.getElem?_eq_none (by rw [hlen (k + 1) (by omega) (by omega)]; omega)]
theorem RoomP.cell {w : World} {base g N : Nat} {l : List UInt8} {k : Nat} (h : RoomP w base g N (roomB l N k)) (hk : k ≤ l.length) (j : Nat) (hj : j < N) : w.cell? ⟨g, j, none⟩ = some (.int .u8 (((if j < k then l.getD j 0 else 0 : UInt8).toNat : Nat) : Int)) := by
  rw [World.ownsRow.cellAt h j (by omega), List.getElem?_map, roomB_get hk j hj]
  rfl
theorem RoomP.store {w : World} {base g N : Nat} {l : List UInt8} {k : Nat} (h : RoomP w base g N (roomB l N k)) (hk : k < l.length) (hN : k < N) {x : Int} (hx : (((l.getD k 0).toNat : Nat) : Int) = x) : RoomP (w.setCell ⟨g, k, none⟩ (.int .u8 x)) base g N (roomB l N (k + 1)) := by
  have := (World.ownsRow.stored h k (bc (l.getD k 0))).1
  rw [← List.map_set, roomB_set hk hN] at this
  unfold bc at this
  rw [hx] at this
  exact this
theorem RoomP.made {w : World} {base g N : Nat} (l : List UInt8) (h : w.ownsRow base 5 1 (.slice (some ⟨g, 0, none⟩) N N) N (madeCells #[Value.int IntKind.u8 0] N).toList) : RoomP w base g N (roomB l N 0) := by
  have e : (madeCells #[Value.int IntKind.u8 0] N).toList = (roomB l N 0).map bc := by
    rw [toList_madeCells_one]
    unfold roomB
    simp [bc]
  rw [e] at h
  exact h
theorem RoomP.reads {w : World} {base g N : Nat} {l : List UInt8} {m : Nat} (h : RoomP w base g N (roomB l N m)) (hm : l.length = m) : BytR w (some ⟨g, 0, none⟩) l := by
  obtain ⟨A, cap, e, _, hr⟩ := ownsRow_vs h
  injection e with e
  subst e
  have := BytR.pre (l := roomB l N m) hr m
  unfold roomB at this
  rw [List.take_of_length_le (Nat.le_of_eq hm), List.take_left' hm] at this
  exact this

set_option maxRecDepth 100000 in
set_option maxHeartbeats 8000000 in
theorem walk (w : World) (A0 : Option Addr) (l0 : List UInt8) (c0 : Nat) (hi0 : BytR w A0 l0) (hc0 : l0.length ≤ c0) (hl0 : l0.length ≤ 9223372036854775807) (a1 : Int) (lo1 : -9223372036854775808 ≤ a1) (hi1 : a1 ≤ 9223372036854775807) (s2 : ByteArray) (hs2 : s2.size ≤ 9223372036854775807) (A3 : Option Addr) (l3 : List Int) (c3 : Nat) (hi3 : IntR w A3 l3) (hw3 : WideI l3) (hc3 : l3.length ≤ c3) (hl3 : l3.length ≤ 9223372036854775807) :
    Calls Try.prog 10 #[.slice A0 l0.length c0, .int .i64 a1, .string s2, .slice A3 l3.length c3] w fun e w' => e = .returned (.bool true) ∧ Below w.heap.size w w' := by
  obtain ⟨m, hm⟩ : ∃ m, l0.length = m := ⟨_, rfl⟩
  obtain ⟨n, hn⟩ : ∃ n, l3.length = n := ⟨_, rfl⟩
  rw [hm] at hc0 hl0 ⊢
  rw [hn] at hc3 hl3 ⊢
  by_cases hbig : 2000 < m ∨ 2000 < s2.size ∨ 300 < n
  · clear hi0 hm hn hi3 hw3
    by_cases q1 : 2000 < m
    · have q1z : (2000 : Int) < (m : Int) := by omega
      go_enter Try.func10, Try.ntmps10
      go_wp2_with fail
      refine (awake_any _).mono ?_
      rintro e w9 ⟨rfl, hb9⟩
      go_wp2_with fail
      go_ret
      exact ⟨rfl, hb9⟩
    have q1z : ¬ (2000 : Int) < (m : Int) := by omega
    by_cases q2 : 2000 < s2.size
    · have q2z : (2000 : Int) < (s2.size : Int) := by omega
      go_enter Try.func10, Try.ntmps10
      go_wp2_with fail
      refine (awake_any _).mono ?_
      rintro e w9 ⟨rfl, hb9⟩
      go_wp2_with fail
      go_ret
      exact ⟨rfl, hb9⟩
    have q2z : ¬ (2000 : Int) < (s2.size : Int) := by omega
    have q3z : (300 : Int) < (n : Int) := by omega
    clear hbig
    go_enter Try.func10, Try.ntmps10
    go_wp2_with fail
    refine (awake_any _).mono ?_
    rintro e w9 ⟨rfl, hb9⟩
    go_wp2_with fail
    go_ret
    exact ⟨rfl, hb9⟩
  have q1z : ¬ (2000 : Int) < (m : Int) := by omega
  have q2z : ¬ (2000 : Int) < (s2.size : Int) := by omega
  have q3z : ¬ (300 : Int) < (n : Int) := by omega
  obtain ⟨k1, hk1⟩ : ∃ k, (l0 ++ enc a1).length = k := ⟨_, rfl⟩
  obtain ⟨k2, hk2⟩ : ∃ k, (l0 ++ (enc s2.size ++ s2.data.toList)).length = k := ⟨_, rfl⟩
  obtain ⟨k3, hk3⟩ : ∃ k, (l0 ++ (enc l3.length ++ encs l3)).length = k := ⟨_, rfl⟩
  have HA1 := Lib.hid (fun A c w1 (hc : m ≤ c) (hr : BytR w1 A l0) => toRet hk1 (putInt_own A l0 m c a1 w1 hm (by omega) hc hr lo1 hi1))
  have HA2 := Lib.hid (fun A c w1 (hc : m ≤ c) (hr : BytR w1 A l0) => toRet hk2 (putText_own A l0 m c s2 w1 hm (by omega) (by omega) hc hr))
  have HA3 := Lib.hid (fun A c w1 (hc : m ≤ c) (hr : BytR w1 A l0) (hb : Below w.heap.size w w1) => toRet hk3 (putInts_own A l0 m c A3 l3 n c3 w1 hm (by omega) hc hr hn (by omega) hw3 (hi3.below hb)))
  have HK1 := Lib.hid hk1
  have HK2 := Lib.hid hk2
  have HK3 := Lib.hid hk3
  obtain ⟨K1, hK1⟩ : ∃ K, l0 ++ enc a1 = K := ⟨_, rfl⟩
  obtain ⟨K2, hK2⟩ : ∃ K, l0 ++ (enc s2.size ++ s2.data.toList) = K := ⟨_, rfl⟩
  obtain ⟨K3, hK3⟩ : ∃ K, l0 ++ (enc l3.length ++ encs l3) = K := ⟨_, rfl⟩
  rw [hK1] at HA1 HK1
  rw [hK2] at HA2 HK2
  rw [hK3] at HA3 HK3
  have HR0 := Lib.hid hi0
  have HM := Lib.hid hm
  obtain ⟨N, hN⟩ : ∃ N, N = m + 5000 := ⟨_, rfl⟩
  have HN : Hid ((m : Int) + 5000 = (N : Int)) := Lib.hid (by omega)
  have hmN : m ≤ N := by omega
  have hN7 : N ≤ 7000 := by omega
  obtain ⟨ii, hii, hz0, hz1, hz2⟩ := info_parts info_u8
  have HB8 := Lib.hid hz2
  clear hi0 hm hn hi3 hw3 hk1 hk2 hk3 hK1 hK2 hK3 hbig hN hz2
  go_enter Try.func10, Try.ntmps10
  go_wp2_with (refine wpList_make_full _ rfl _ _ _ rfl w.heap.size 5 ii (.int .u8 0) 1 Try.underlying22 hii hz0 hz1 .i64 .i64 _ _ N rfl rfl HN.out HN.out ?m1 ?m2 (Nat.le_refl _) ?_)
  case m1 => rw [HB8.out]; omega
  case m2 => unfold maxLen; omega
  intro w1 hown hgr
  have HRM := Lib.hid (RoomP.made l0 hown)
  have hB1 : Below w.heap.size w w1 := (Below.refl _ w).grown hgr (Nat.le_refl _) (fun k e => by cases e)
  clear hown hgr
  go_wp2_with fail
  go_loopw [10] (fun i wr => ∃ k : Nat, k ≤ m ∧ i = .int .i64 (k : Int) ∧ Hid (RoomP wr w.heap.size w.heap.size N (roomB l0 N k)) ∧ Below w.heap.size w wr) (fun i _ => m - (intOf i).toNat)
  case atStart => exact ⟨0, by omega, rfl, HRM, hB1⟩
  case round =>
    obtain ⟨k, hk, rfl, hR, hB⟩ := hrel
    by_cases hlt : k < m
    · have hltz : (k : Int) < (m : Int) := by omega
      have hkl : k < l0.length := by rw [HM.out]; exact hlt
      obtain ⟨b, o, rfl, hbl, hc⟩ := (HR0.out.below hB).at (by omega)
      have c0' := hc k hkl
      have d0 := RoomP.cell hR.out (by omega) k (by omega)
      have f0 := World.ownsRow.frozenAt hR.out k
      obtain ⟨y, hy⟩ : ∃ y : Int, (((if k < k then l0.getD k 0 else 0 : UInt8).toNat : Nat) : Int) = y := ⟨_, rfl⟩
      obtain ⟨x, hx⟩ : ∃ x : Int, (((l0.getD k 0).toNat : Nat) : Int) = x := ⟨_, rfl⟩
      rw [hy] at d0
      have HST := Lib.hid (RoomP.store hR.out hkl (by omega) hx)
      rw [hx] at c0'
      have hkN : (k : Int) < (N : Int) := by omega
      have hbs := hB.size
      clear hc hx hy hkl hR
      go_wp2_with fail
      go_roundw
      case rel => exact ⟨k + 1, by omega, by go_num, HST, hB.setCell (by simp) _⟩
      case measure => simp only [intOf]; omega
    · have hnlt : ¬ (k : Int) < (m : Int) := by omega
      obtain rfl : m = k := by omega
      have HRD := Lib.hid (RoomP.reads hR.out HM.out)
      have HRX := Lib.hid (fun j hj => RoomP.cell hR.out (by rw [HM.out]; omega) j hj)
      have hgw : w.heap.size < wr.heap.size := (World.ownsRow.lt hR.out w.heap.size rfl).2
      have HS := Lib.hid hgw
      clear hR hgw HRM hB1
      go_wp2_with fail
      refine (HA1.out _ _ _ hmN HRD.out).mono ?_
      rintro e w2 ⟨B1, d1, rfl, hd1, hr1, hB2⟩
      have HX1 := Lib.hid hr1
      clear hr1
      go_wp2_with fail
      refine (HA2.out _ _ _ hmN (HRD.out.below hB2)).mono ?_
      rintro e w3 ⟨B2, d2, rfl, hd2, hr2, hB3⟩
      have HX2 := Lib.hid (HX1.out.below hB3)
      have HY2 := Lib.hid hr2
      have hB4 := Below.step hB2 hB3
      clear hr2 HX1 hB2 hB3
      go_wp2_with fail
      refine (HA3.out _ _ _ hmN (HRD.out.below hB4) (hB.trans (hB4.mono hB.size))).mono ?_
      rintro e w4 ⟨B3, d3, rfl, hd3, hr3, hB5⟩
      have HX3 := Lib.hid (HX2.out.below hB5)
      have HY3 := Lib.hid (HY2.out.below hB5)
      have HZ3 := Lib.hid hr3
      have hB6 := Below.step hB4 hB5
      have hBw4 := hB.trans (hB6.mono hB.size)
      clear hr3 HX2 HY2 hB4 hB5
      go_wp2_with fail
      refine (HA1.out _ _ _ hc0 (HR0.out.below hBw4)).mono ?_
      rintro e w5 ⟨B4, d4, rfl, hd4, hr4, hB7⟩
      have HX4 := Lib.hid (HX3.out.below hB7)
      have HY4 := Lib.hid (HY3.out.below hB7)
      have HZ4 := Lib.hid (HZ3.out.below hB7)
      have HU4 := Lib.hid hr4
      have hB8 := Below.step hB6 hB7
      have hBw5 := Below.step hBw4 hB7
      clear hr4 HX3 HY3 HZ3 hB6 hB7 hBw4
      go_wp2_with fail
      refine (HA2.out _ _ _ hc0 (HR0.out.below hBw5)).mono ?_
      rintro e w6 ⟨B5, d5, rfl, hd5, hr5, hB9⟩
      have HX5 := Lib.hid (HX4.out.below hB9)
      have HY5 := Lib.hid (HY4.out.below hB9)
      have HZ5 := Lib.hid (HZ4.out.below hB9)
      have HU5 := Lib.hid (HU4.out.below hB9)
      have HV5 := Lib.hid hr5
      have hB10 := Below.step hB8 hB9
      have hBw6 := Below.step hBw5 hB9
      clear hr5 HX4 HY4 HZ4 HU4 hB8 hB9 hBw5
      go_wp2_with fail
      refine (HA3.out _ _ _ hc0 (HR0.out.below hBw6) hBw6).mono ?_
      rintro e w7 ⟨B6, d6, rfl, hd6, hr6, hB11⟩
      have HX6 := Lib.hid (HX5.out.below hB11)
      have HY6 := Lib.hid (HY5.out.below hB11)
      have HZ6 := Lib.hid (HZ5.out.below hB11)
      have HU6 := Lib.hid (HU5.out.below hB11)
      have HV6 := Lib.hid (HV5.out.below hB11)
      have HW6 := Lib.hid hr6
      have hB12 := Below.step hB10 hB11
      have hBw7 := Below.step hBw6 hB11
      have HC7 : Hid (∀ j, j < N → w7.cell? ⟨w.heap.size, j, none⟩ = some (.int .u8 (((if j < m then l0.getD j 0 else 0 : UInt8).toNat : Nat) : Int))) := Lib.hid fun j hj => by
        rw [hB12.cell (p := ⟨w.heap.size, j, none⟩) HS.out]
        exact HRX.out j hj
      have HR7 := Lib.hid (HR0.out.below hBw7)
      have HS7 : Hid (w.heap.size < w7.heap.size) := Lib.hid (Nat.lt_of_lt_of_le HS.out hB12.size)
      clear hr6 HX5 HY5 HZ5 HU5 HV5 hB10 hB11 hBw6 HRX HRD HR0 HA1 HA2 HA3 hB12 hB
      go_wp2_with fail
      go_loopw [18] (fun i wq => ∃ k : Nat, k ≤ N ∧ i = .int .i64 (k : Int) ∧ Below w7.heap.size w7 wq) (fun i _ => N - (intOf i).toNat)
      case atStart => exact ⟨0, by omega, rfl, Below.refl _ _⟩
      case round =>
        obtain ⟨k, hk, rfl, hBq⟩ := hrel
        by_cases hkN : k < N
        · have hkz : (k : Int) < (N : Int) := by omega
          have d1 : wr.cell? ⟨w.heap.size, k, none⟩ = some (.int .u8 (((if k < m then l0.getD k 0 else 0 : UInt8).toNat : Nat) : Int)) := by
            rw [hBq.cell (p := ⟨w.heap.size, k, none⟩) HS7.out]
            exact HC7.out k hkN
          by_cases hkm : k < m
          · rw [if_pos hkm] at d1
            have hkl : k < l0.length := by rw [HM.out]; exact hkm
            obtain ⟨b, o, rfl, hbl, hc⟩ := (HR7.out.below hBq).at (by omega)
            have e1 := hc k hkl
            obtain ⟨x, hx⟩ : ∃ x : Int, (((l0.getD k 0).toNat : Nat) : Int) = x := ⟨_, rfl⟩
            rw [hx] at d1 e1
            have i1 : (k : Int) < (m : Int) := by omega
            have i2 : decide ((m : Int) ≤ (k : Int)) = false := decide_eq_false (by omega)
            have i3 : decide (m ≤ k) = false := decide_eq_false (by omega)
            clear hc hx hkl hbl
            go_wp2_with fail
            go_quiet (fail)
            go_wp2_with fail
            go_roundw
            case rel => exact ⟨k + 1, by omega, by go_num, Below.drewN hBq _⟩
            case measure => simp only [intOf]; omega
          · rw [if_neg hkm] at d1
            have d2 : wr.cell? ⟨w.heap.size, k, none⟩ = some (.int .u8 0) := d1
            have hmk : m ≤ k := by omega
            have i1 : (m : Int) ≤ (k : Int) := by omega
            have i2 : decide ((k : Int) < (m : Int)) = false := decide_eq_false (by omega)
            have i3 : decide (k < m) = false := decide_eq_false (by omega)
            clear d1
            go_wp2_with fail
            go_quiet (fail)
            go_wp2_with fail
            go_roundw
            case rel => exact ⟨k + 1, by omega, by go_num, Below.drewN hBq _⟩
            case measure => simp only [intOf]; omega
        · have hkz : ¬ (k : Int) < (N : Int) := by omega
          have HX8 := Lib.hid (HX6.out.below hBq)
          have HY8 := Lib.hid (HY6.out.below hBq)
          have HZ8 := Lib.hid (HZ6.out.below hBq)
          have HU8 := Lib.hid (HU6.out.below hBq)
          have HV8 := Lib.hid (HV6.out.below hBq)
          have HW8 := Lib.hid (HW6.out.below hBq)
          have hBw8 := Below.step hBw7 hBq
          clear HX6 HY6 HZ6 HU6 HV6 HW6 hBw7 hBq HC7 HR7
          go_wp2_with fail
          refine (sameB_any B1 k1 d1 B4 k1 d4 K1 _ HK1.out HK1.out HX8.out HU8.out).mono ?_
          rintro e w8 ⟨rfl, rfl⟩
          go_wp2_with fail
          refine (sameB_any B2 k2 d2 B5 k2 d5 K2 _ HK2.out HK2.out HY8.out HV8.out).mono ?_
          rintro e w8 ⟨rfl, rfl⟩
          go_wp2_with fail
          refine (sameB_any B3 k3 d3 B6 k3 d6 K3 _ HK3.out HK3.out HZ8.out HW8.out).mono ?_
          rintro e w8 ⟨rfl, rfl⟩
          go_wp2_with fail
          refine (awake_any _).mono ?_
          rintro e w9 ⟨rfl, hb9⟩
          go_wp2_with fail
          go_ret
          exact ⟨rfl, Below.step hBw8 hb9⟩

set_option maxRecDepth 100000 in
theorem lifted (os : Os) (started : os.Started) (H : Type) (enc : TypeId × Value → H) (F : Stop.Interp) :
    ReturnsInHanded {} Try.checked os 10 .any ((OpenSpec.ofChange Rows.wireApartSpec).preRow enc Try.prog Try.f10 Rows.wireApartRow.domain false Rows.wireApartRow.laid) (((OpenSpec.ofChange Rows.wireApartSpec).at F).post enc Try.prog Try.f10 false true false false) := by
  refine returnsInHanded_of_row (C := Try.checked) (s := OpenSpec.ofChange Rows.wireApartSpec) own started (by kernel_rfl) Try.func10
    (ChangeSpec.witness_shaped (enc := enc) (C := Try.checked) (os := os) (X := fun w _ => laidMetH Try.prog Rows.wireApartRow.laid w) false (World.laidAll Try.prog os Rows.wireApartRow.laid) #[.slice none 0 0, .int .i64 0, .string ⟨#[]⟩, .slice none 0 0] 8 (World.laidAll_os _ _ _)
      (World.shaped_of_ZipB (by kernel_rfl) (by kernel_rfl)) (by kernel_rfl) (by kernel_rfl) (by kernel_rfl)
      (by rw [MakeChecks.laidMetH_plain _ _ _ (by kernel_rfl)]; exact laidMet_laidAll _ (by kernel_rfl) (by kernel_rfl))) ?_
  intro W base args ds gs before hval0 hW _ _ _ hL hsh _
  have hval : ∀ (j : Nat) t v, Try.f10.params[j]? = some t → args[j]? = some v → Value.okWide Try.prog W .any base t v := hval0
  have hW' := hW
  obtain ⟨p, q, hA0, hV, rfl, hfz, hnd⟩ := hW
  have hA : DataW.TrodAll enc Try.prog W 0 (fun _ => true) true Try.f10.params.toList args.toList ds p := hA0
  rw [Try.params10] at hA hval
  obtain ⟨v0, vs0, d0, ds0, p0, q0, hargs, rfl, rfl, h0, r0⟩ := trodAll_cons hA
  obtain ⟨v1, vs1, d1, ds1, p1, q1, rfl, rfl, rfl, h1, r1⟩ := trodAll_cons r0
  obtain ⟨v2, vs2, d2, ds2, p2, q2, rfl, rfl, rfl, h2, r2⟩ := trodAll_cons r1
  obtain ⟨v3, vs3, d3, ds3, p3, q3, rfl, rfl, rfl, h3, r3⟩ := trodAll_cons r2
  obtain ⟨rfl, rfl, rfl⟩ := trodAll_nil r3
  obtain rfl : args = #[v0, v1, v2, v3] := by cases args; simp_all
  obtain ⟨rfl, rfl⟩ := trodVars_none hV
  obtain ⟨A0, l0, c0, rfl, hi0, hc0, hl0⟩ := bytes_open (hval 0 22 v0 rfl rfl) h0
  obtain ⟨a1, rfl, rfl, rfl, w1⟩ := open_int Try.underlying3 (hval 1 3 v1 rfl rfl) h1
  have bd1 := i64_bd w1
  obtain ⟨s2, rfl, rfl, rfl, ws2⟩ := Go.ChangeMaps.open_string Try.underlying9 (hval 2 9 v2 rfl rfl) h2
  obtain ⟨A3, l3, c3, rfl, hi3, hw3, hc3, hl3⟩ := ints_open (hval 3 23 v3 rfl rfl) h3
  clear hA0 hval0
  simp only [List.append_nil] at hW'
  have hlt0 : ∀ x ∈ p0, x.block < W.heap.size := fun x hx => by simpa using hW'.lt x (by simp [hx])
  have hargs0 : ∀ (W' : World), Below W.heap.size W W' → DataW.Trod enc Try.prog W' 0 (fun b => decide (b < W.heap.size)) true 22 (.slice A0 l0.length c0) d0 p0 := fun W' hn => Below.trod laidOut (by kernel_rfl) (of_decide_eq_true (by kernel_rfl)) h0 hn hlt0
  have hlt3 : ∀ x ∈ p3, x.block < W.heap.size := fun x hx => by simpa using hW'.lt x (by simp [hx])
  have hargs3 : ∀ (W' : World), Below W.heap.size W W' → DataW.Trod enc Try.prog W' 0 (fun b => decide (b < W.heap.size)) true 23 (.slice A3 l3.length c3) d3 p3 := fun W' hn => Below.trod laidOut (by kernel_rfl) (of_decide_eq_true (by kernel_rfl)) h3 hn hlt3
  refine (walk W A0 l0 c0 hi0 hc0 hl0 a1 bd1.1 bd1.2 s2 ws2 A3 l3 c3 hi3 hw3 hc3 hl3).mono fun e W' ⟨he, hb⟩ => ?_
  subst he
  exact ⟨_, rfl, _, _, _, [], p0 ++ ([] ++ ([] ++ (p3 ++ ([])))), [], hW', trodAll_mk1 (shut_bool Try.underlying4 _), (trodAll_cons_mk (hargs0 W' hb) (trodAll_cons_mk (shut_int Try.underlying3 w1) (trodAll_cons_mk (Go.ChangeMaps.shut_string Try.underlying9 ws2) (trodAll_cons_mk (hargs3 W' hb) trodAll_mk0)))), rfl, hb.frame _, fun h => by cases h⟩

theorem said : Rows.WireApartSaid :=
  OpenClaim.holds_of_cond 10 Try.f10 rfl rfl rfl rfl rfl rfl rfl ⟨rfl, rfl, rfl, rfl, rfl⟩ rfl rfl rfl rfl rfl (by kernel_rfl) Try.func10 (by kernel_rfl)
    (of_decide_eq_true (by kernel_rfl)) (by unfold Func.isWrapper; first | (rw [if_pos (by decide +kernel)]; kernel_rfl) | (rw [if_neg (by decide +kernel)]; exact ⟨rfl, rfl⟩))
    (fun os started H enc _ F => by rw [OpenClaim.pre_eq_preRow]; exact lifted os started H enc F)
#print axioms said
end Go.Proofs.Ytlanbilcekepnaa.wireApart
