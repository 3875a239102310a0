/-
  P5.1, P5.8: CrcLinear: for all three byte strings of which the shortest has at most 3000 bytes, Sum of the exclusive or of their beginnings of that length, byte by byte, is the exclusive or of their Sums, a number from 0 to 2^32 - 1; and the chapter's examples hold (of longer ones the examples alone). Conditions: none but the row's own.
-/
import Derived.Test.YthafaococbdhoaaCrcQ
import Derived.BigRegion
namespace Go.Proofs.Ythafaococbdhoaa.crcLinear
open Go.ChangeShapes Go.WideShapes Go.ChangeAt Go.RowKit Go.Maps
set_option linter.unusedVariables false

/-- A row of bytes in block g whose first k bytes are those of l. -/
def XRow (w : World) (g n : Nat) (l : List UInt8) (k : Nat) : Prop := ∃ cur : Array Value, w.heap[g]? = some (.cells cur 5 (0, 0)) ∧ (∀ j, j < n → ∃ u, cur[j]? = some u) ∧ ∀ j, j < k → cur[j]? = some (bc (l.getD j 0))
theorem XRow.cell {w : World} {g n k j : Nat} {l : List UInt8} (h : XRow w g n l k) (hj : j < n) : ∃ u, w.cell? ⟨g, j, none⟩ = some u := by
  obtain ⟨cur, h1, h2, h3⟩ := h
  obtain ⟨u, hu⟩ := h2 j hj
  exact ⟨u, (cell_of_row w g j cur _ _ h1).trans hu⟩
theorem XRow.frozen {w : World} {g n k : Nat} {l : List UInt8} (h : XRow w g n l k) (j : Nat) : w.frozen? ⟨g, j, none⟩ = false := by
  obtain ⟨cur, h1, _⟩ := h
  simp [World.frozen?, h1]
theorem XRow.set {w : World} {g n k : Nat} {l : List UInt8} (h : XRow w g n l k) (hk : k < n) : XRow (w.setCell ⟨g, k, none⟩ (bc (l.getD k 0))) g n l (k + 1) := by
  obtain ⟨cur, h1, h2, h3⟩ := h
  refine ⟨cur.setIfInBounds k (bc (l.getD k 0)), by simp [World.setCell, Array.getElem?_modify, h1], fun j hj => ?_, fun j hj => ?_⟩
  · obtain ⟨u, hu⟩ := h2 j hj
    by_cases e : k = j
    · subst e
      have := (Array.getElem?_eq_some_iff.1 hu).1
      exact ⟨_, by rw [Array.getElem?_setIfInBounds, if_pos rfl, if_pos this]⟩
    · exact ⟨u, by rw [Array.getElem?_setIfInBounds, if_neg e]; exact hu⟩
  · by_cases e : k = j
    · subst e
      obtain ⟨u, hu⟩ := h2 k hk
      have := (Array.getElem?_eq_some_iff.1 hu).1
      rw [Array.getElem?_setIfInBounds, if_pos rfl, if_pos this]
    · rw [Array.getElem?_setIfInBounds, if_neg e]
      exact h3 j (by omega)
theorem XRow.drew {w : World} {g n k : Nat} {l : List UInt8} (h : XRow w g n l k) : XRow w.drew g n l k := h
theorem XRow.full {w : World} {g : Nat} {l : List UInt8} (h : XRow w g l.length l l.length) : BytR w (some ⟨g, 0, none⟩) l := fun hl => by
  obtain ⟨cur, h1, h2, h3⟩ := h
  refine ⟨g, 0, rfl, (Array.getElem?_eq_some_iff.1 h1).1, fun k v hk => ?_⟩
  have hk2 := (List.getElem?_eq_some_iff.1 hk).1
  rw [List.length_map] at hk2
  rw [Nat.zero_add, cell_of_row w g k cur _ _ h1, h3 k hk2, ← hk]
  simp [hk2]
theorem BytR.pre' {w : World} {A : Option Addr} {l : List UInt8} (h : BytR w A l) (n : Nat) : BytR w A (l.take n) := fun hl => by
  have hl2 : 0 < l.length := by
    simp at hl
    omega
  obtain ⟨b, o, rfl, hlt, hc⟩ := h (by simpa using hl2)
  refine ⟨b, o, rfl, hlt, fun k v hk => ?_⟩
  have hk2 := (List.getElem?_eq_some_iff.1 hk).1
  simp at hk2
  refine hc k v ?_
  rw [← hk, List.getElem?_map, List.getElem?_map, List.getElem?_take_of_lt (by omega)]
theorem i64_xor_nat (a b : Nat) (ha : a < 4294967296) (hb : b < 4294967296) : bits .xor .i64 (a : Int) (b : Int) = ((a ^^^ b : Nat) : Int) := by
  have h := xor_lt32 ha hb
  show IntKind.i64.wrap ((BitVec.ofInt 64 (a : Int) ^^^ BitVec.ofInt 64 (b : Int)).toNat : Int) = _
  rw [BitVec.toNat_xor, ofInt_u64 a (by omega), ofInt_u64 b (by omega)]
  generalize a ^^^ b = c at h
  exact IntWalk.i64_in _ (by omega)
theorem xor_bytes (a b c : UInt8) : bits .xor .u8 (bits .xor .u8 (a.toNat : Int) (b.toNat : Int)) (c.toNat : Int) = ((a ^^^ b ^^^ c).toNat : Int) := by
  rw [u8_xor_nat _ _ a.toNat_lt b.toNat_lt, u8_xor_nat _ _ (xor_lt8 a.toNat_lt b.toNat_lt) c.toNat_lt, UInt8.toNat_xor, UInt8.toNat_xor]

set_option maxRecDepth 100000 in
set_option maxHeartbeats 4000000 in
theorem walk (w : World) (A0 : Option Addr) (l0 : List UInt8) (c0 : Nat) (hi0 : BytR w A0 l0) (hc0 : l0.length ≤ c0) (hl0 : l0.length ≤ 9223372036854775807) (A1 : Option Addr) (l1 : List UInt8) (c1 : Nat) (hi1 : BytR w A1 l1) (hc1 : l1.length ≤ c1) (hl1 : l1.length ≤ 9223372036854775807) (A2 : Option Addr) (l2 : List UInt8) (c2 : Nat) (hi2 : BytR w A2 l2) (hc2 : l2.length ≤ c2) (hl2 : l2.length ≤ 9223372036854775807) :
    Calls Try.prog 9 #[.slice A0 l0.length c0, .slice A1 l1.length c1, .slice A2 l2.length c2] w fun e w' => e = .returned (.bool true) ∧ Below w.heap.size w w' := by
  obtain ⟨m, hm⟩ : ∃ m, l0.length = m := ⟨_, rfl⟩
  obtain ⟨m1, hm1⟩ : ∃ m1, l1.length = m1 := ⟨_, rfl⟩
  obtain ⟨m2, hm2⟩ : ∃ m2, l2.length = m2 := ⟨_, rfl⟩
  rw [hm] at hc0 hl0 ⊢
  rw [hm1] at hc1 hl1 ⊢
  rw [hm2] at hc2 hl2 ⊢
  obtain ⟨n, hn0, hn1, hn2, hmin⟩ : ∃ n : Nat, n ≤ m ∧ n ≤ m1 ∧ n ≤ m2 ∧ ∀ (w : World) (ts : Array TypeId) (t : TypeId), (Builtin.min_ ts t #[.int .i64 (m : Int), .int .i64 (m1 : Int), .int .i64 (m2 : Int)]).run Try.prog w = .ok (.int .i64 (n : Int)) w := by
    by_cases q : m1 < m
    · have qz : (m1 : Int) < (m : Int) := by omega
      by_cases r : m2 < m1
      · have rz : (m2 : Int) < (m1 : Int) := by omega
        exact ⟨m2, by omega, by omega, by omega, fun w ts t => by rw [run_min_int3, if_pos qz, if_pos rz]⟩
      · have rz : ¬ (m2 : Int) < (m1 : Int) := by omega
        exact ⟨m1, by omega, by omega, by omega, fun w ts t => by rw [run_min_int3, if_pos qz, if_neg rz]⟩
    · have qz : ¬ (m1 : Int) < (m : Int) := by omega
      by_cases r : m2 < m
      · have rz : (m2 : Int) < (m : Int) := by omega
        exact ⟨m2, by omega, by omega, by omega, fun w ts t => by rw [run_min_int3, if_neg qz, if_pos rz]⟩
      · have rz : ¬ (m2 : Int) < (m : Int) := by omega
        exact ⟨m, by omega, by omega, by omega, fun w ts t => by rw [run_min_int3, if_neg qz, if_neg rz]⟩
  by_cases hbig : 3000 < n
  · have hbz : (3000 : Int) < (n : Int) := by omega
    clear hi0 hi1 hi2 hm hm1 hm2 hn0 hn1 hn2
    go_enter Try.func9, Try.ntmps9
    go_wp2_with fail
    refine (awake_any _).mono ?_
    rintro e w9 ⟨rfl, hb9⟩
    go_wp2_with fail
    go_ret
    exact ⟨rfl, hb9⟩
  have hbz : ¬ (3000 : Int) < (n : Int) := by omega
  have hnn : n ≤ 3000 := by omega
  have t0 : (l0.take n).length = n := by rw [List.length_take]; omega
  have t1 : (l1.take n).length = n := by rw [List.length_take]; omega
  have t2 : (l2.take n).length = n := by rw [List.length_take]; omega
  have HX3 := Lib.hid (cs3 (l0.take n) (l1.take n) (l2.take n) (by omega) (by omega))
  have HXL := Lib.hid (x3_len (l0.take n) (l1.take n) (l2.take n) (by omega) (by omega))
  have HXA := Lib.hid (fun k (hk : k < n) => x3_at (l0.take n) (l1.take n) (l2.take n) k (by omega) (by omega) (by omega))
  obtain ⟨X, hX⟩ : ∃ X, x3 (l0.take n) (l1.take n) (l2.take n) = X := ⟨_, rfl⟩
  rw [hX] at HX3 HXL HXA
  rw [t0] at HXL
  have hg : ∀ (l : List UInt8) (k : Nat), k < n → (l.take n).getD k 0 = l.getD k 0 := fun l k hk => by simp [List.getD, List.getElem?_take_of_lt hk]
  have HX : Hid (∀ k, k < n → X.getD k 0 = l0.getD k 0 ^^^ l1.getD k 0 ^^^ l2.getD k 0) := Lib.hid fun k hk => by
    rw [HXA.out k hk, hg l0 k hk, hg l1 k hk, hg l2 k hk]
  have HS0 := Lib.hid (fun w1 (hb : Below w.heap.size w w1) => sum_any A0 (l0.take n) n c0 w1 t0 (by omega) ((BytR.pre' hi0 n).below hb))
  have HS1 := Lib.hid (fun w1 (hb : Below w.heap.size w w1) => sum_any A1 (l1.take n) n c1 w1 t1 (by omega) ((BytR.pre' hi1 n).below hb))
  have HS2 := Lib.hid (fun w1 (hb : Below w.heap.size w w1) => sum_any A2 (l2.take n) n c2 w1 t2 (by omega) ((BytR.pre' hi2 n).below hb))
  have b0 := cs_lt (l0.take n)
  have b1 := cs_lt (l1.take n)
  have b2 := cs_lt (l2.take n)
  obtain ⟨s0, hs0⟩ : ∃ s, cs (l0.take n) = s := ⟨_, rfl⟩
  obtain ⟨s1, hs1⟩ : ∃ s, cs (l1.take n) = s := ⟨_, rfl⟩
  obtain ⟨s2, hs2⟩ : ∃ s, cs (l2.take n) = s := ⟨_, rfl⟩
  rw [hs0] at b0 HS0
  rw [hs1] at b1 HS1
  rw [hs2] at b2 HS2
  rw [hs0, hs1, hs2] at HX3
  have HI0 := Lib.hid hi0
  have HI1 := Lib.hid hi1
  have HI2 := Lib.hid hi2
  have HL := Lib.hid (And.intro hm (And.intro hm1 hm2))
  obtain ⟨ii, hii, hz0, hzs, hzb⟩ := info_parts info_u8
  obtain ⟨wm, hmk, hown, hgm⟩ := run_make_full (P := Try.prog) w w.heap.size 22 5 ii (.int .u8 0) 1 Try.underlying22 hii hz0 hzs .i64 .i64 n (by rw [hzb]; omega) (by unfold maxLen; omega) (Nat.le_refl _)
  have hBm : Below w.heap.size w wm := (Below.refl w.heap.size w).grown hgm (Nat.le_refl _) (fun k hk => by cases hk)
  have HXR : Hid (XRow wm w.heap.size n X 0) := Lib.hid (by
    rcases hown.2 with ⟨h, _⟩ | ⟨g', cap, cur, hv, _, hh, hnc, _, hsz, _⟩
    · cases h
    · injection hv with hv1 hv2 hv3
      injection hv1 with hv1
      injection hv1 with hv1
      subst hv1 hv3
      refine ⟨cur, hh, fun j hj => ⟨_, Array.getElem?_eq_getElem (by omega)⟩, fun j hj => absurd hj (Nat.not_lt_zero j)⟩)
  obtain ⟨g, hgg⟩ : ∃ g, w.heap.size = g := ⟨_, rfl⟩
  rw [hgg] at hmk HXR
  have HG := Lib.hid hgg
  clear hi0 hi1 hi2 hm hm1 hm2 t0 t1 t2 HXA hX hg hs0 hs1 hs2 hii hz0 hzs hzb hgm hown hgg hbig
  go_enter Try.func9, Try.ntmps9
  go_wp2_with fail
  clear hmk hmin
  go_loopw [9] (fun i wr => ∃ k : Nat, k ≤ n ∧ i = .int .i64 (k : Int) ∧ Hid (XRow wr g n X k) ∧ Below w.heap.size w wr) (fun i _ => n - (intOf i).toNat)
  case atStart => exact ⟨0, by omega, rfl, HXR, hBm⟩
  case round =>
    obtain ⟨k, hk, rfl, hxr, hB⟩ := hrel
    by_cases hlt : k < n
    · have hltz : (k : Int) < (n : Int) := by omega
      obtain ⟨a0, o0, rfl, _, hc0'⟩ := (HI0.out.below hB).at (by have := HL.out; omega)
      obtain ⟨a1, o1, rfl, _, hc1'⟩ := (HI1.out.below hB).at (by have := HL.out; omega)
      obtain ⟨a2, o2, rfl, _, hc2'⟩ := (HI2.out.below hB).at (by have := HL.out; omega)
      have k0 := hc0' k (by have := HL.out; omega)
      have k1 := hc1' k (by have := HL.out; omega)
      have k2 := hc2' k (by have := HL.out; omega)
      have hxk := HX.out k hlt
      obtain ⟨y0, hy0⟩ : ∃ y, l0.getD k 0 = y := ⟨_, rfl⟩
      obtain ⟨y1, hy1⟩ : ∃ y, l1.getD k 0 = y := ⟨_, rfl⟩
      obtain ⟨y2, hy2⟩ : ∃ y, l2.getD k 0 = y := ⟨_, rfl⟩
      rw [hy0] at k0 hxk
      rw [hy1] at k1 hxk
      rw [hy2] at k2 hxk
      have hst := hxr.out.set hlt
      have hxb := xor_bytes y0 y1 y2
      rw [← hxk] at hxb
      obtain ⟨y, hy⟩ : ∃ y, X.getD k 0 = y := ⟨_, rfl⟩
      rw [hy] at hxb hst
      obtain ⟨u, hcu⟩ := hxr.out.cell hlt
      have hfu := hxr.out.frozen k
      have hz0 : (k : Int) < (m : Int) := by omega
      have hz1 : (k : Int) < (m1 : Int) := by omega
      have hz2 : (k : Int) < (m2 : Int) := by omega
      have HST := Lib.hid hst
      have HB2 := Lib.hid ((hB.setCell (p := ⟨g, k, none⟩) (by rw [HG.out]; exact Nat.le_refl _) (bc y)).drew)
      clear hst hxk hy hy0 hy1 hy2 hc0' hc1' hc2' hxr hB
      go_wp2_with fail
      go_region
      go_wp2_with fail
      go_roundw
      case rel => exact ⟨k + 1, by omega, by go_num, Lib.hid HST.out.drew, HB2.out⟩
      case measure => simp only [intOf]; omega
    · obtain rfl : k = n := by omega
      have hfull : BytR wr (some ⟨g, 0, none⟩) X := by
        have := hxr.out
        rw [← HXL.out] at this
        exact this.full
      have HSX := Lib.hid (sum_any (some ⟨g, 0, none⟩) X k k wr HXL.out (by omega) hfull)
      have hS := cs_lt X
      have hX3 := HX3.out
      obtain ⟨S, hSS⟩ : ∃ S, cs X = S := ⟨_, rfl⟩
      rw [hSS] at HSX hS hX3
      have hx1 := i64_xor_nat s0 s1 b0 b1
      have hx2 := i64_xor_nat (s0 ^^^ s1) s2 (xor_lt32 b0 b1) b2
      rw [← hX3] at hx2
      obtain ⟨s01, hs01⟩ : ∃ s, s0 ^^^ s1 = s := ⟨_, rfl⟩
      rw [hs01] at hx1 hx2
      have hSz : (S : Int) ≤ 4294967295 := by omega
      have hz0 : (k : Int) ≤ (c0 : Int) := by omega
      have hz1 : (k : Int) ≤ (c1 : Int) := by omega
      have hz2 : (k : Int) ≤ (c2 : Int) := by omega
      clear hxr hfull hSS hX3 hs01 HX3 HX HXL hS
      go_wp2_with fail
      refine HSX.out.mono ?_
      rintro e w1 ⟨rfl, hB1⟩
      have hB2 := Below.step hB hB1
      clear hB hB1 HSX
      go_wp2_with fail
      go_region_held3 (fun w' => Below w.heap.size w w')
        (first | assumption | (exact Below.drew (by assumption)) | (refine Below.step ?_ hB3; assumption) | (refine Below.step ?_ hB3; exact Below.drew (by assumption)))
        (first | (go_at_call 12; refine (HS0.out _ (by first | assumption | exact Below.drew (by assumption))).mono ?_; rintro e w3 ⟨rfl, hB3⟩) | (go_at_call 12; refine (HS1.out _ (by first | assumption | exact Below.drew (by assumption))).mono ?_; rintro e w3 ⟨rfl, hB3⟩) | (go_at_call 12; refine (HS2.out _ (by first | assumption | exact Below.drew (by assumption))).mono ?_; rintro e w3 ⟨rfl, hB3⟩) | (go_at_call 11; refine (awake_any _).mono ?_; rintro e w3 ⟨rfl, hB3⟩))
      all_goals
        go_wp2_with fail
        go_ret
        exact ⟨rfl, by assumption⟩

set_option maxRecDepth 100000 in
theorem lifted (os : Os) (started : os.Started) (H : Type) (enc : TypeId × Value → H) (F : Stop.Interp) :
    ReturnsInHanded {} Try.checked os 9 .any ((OpenSpec.ofChange Rows.crcLinearSpec).preRow enc Try.prog Try.f9 Rows.crcLinearRow.domain false Rows.crcLinearRow.laid) (((OpenSpec.ofChange Rows.crcLinearSpec).at F).post enc Try.prog Try.f9 false true false false) := by
  refine returnsInHanded_of_row (C := Try.checked) (s := OpenSpec.ofChange Rows.crcLinearSpec) own started (by kernel_rfl) Try.func9
    (ChangeSpec.witness_shaped (enc := enc) (C := Try.checked) (os := os) (X := fun w _ => laidMetH Try.prog Rows.crcLinearRow.laid w) false (World.laidAll Try.prog os Rows.crcLinearRow.laid) #[.slice none 0 0, .slice none 0 0, .slice none 0 0] 8 (World.laidAll_os _ _ _)
      (World.shaped_of_ZipB (by kernel_rfl) (by kernel_rfl)) (by kernel_rfl) (by kernel_rfl) (by kernel_rfl)
      (by rw [MakeChecks.laidMetH_plain _ _ _ (by kernel_rfl)]; exact laidMet_laidAll _ (by kernel_rfl) (by kernel_rfl))) ?_
  intro W base args ds gs before hval0 hW _ _ _ hL hsh _
  have hval : ∀ (j : Nat) t v, Try.f9.params[j]? = some t → args[j]? = some v → Value.okWide Try.prog W .any base t v := hval0
  have hW' := hW
  obtain ⟨p, q, hA0, hV, rfl, hfz, hnd⟩ := hW
  have hA : DataW.TrodAll enc Try.prog W 0 (fun _ => true) true Try.f9.params.toList args.toList ds p := hA0
  rw [Try.params9] at hA hval
  obtain ⟨v0, vs0, d0, ds0, p0, q0, hargs, rfl, rfl, h0, r0⟩ := trodAll_cons hA
  obtain ⟨v1, vs1, d1, ds1, p1, q1, rfl, rfl, rfl, h1, r1⟩ := trodAll_cons r0
  obtain ⟨v2, vs2, d2, ds2, p2, q2, rfl, rfl, rfl, h2, r2⟩ := trodAll_cons r1
  obtain ⟨rfl, rfl, rfl⟩ := trodAll_nil r2
  obtain rfl : args = #[v0, v1, v2] := by cases args; simp_all
  obtain ⟨rfl, rfl⟩ := trodVars_none hV
  obtain ⟨A0, l0, c0, rfl, hi0, hc0, hl0⟩ := bytes_open (hval 0 22 v0 rfl rfl) h0
  obtain ⟨A1, l1, c1, rfl, hi1, hc1, hl1⟩ := bytes_open (hval 1 22 v1 rfl rfl) h1
  obtain ⟨A2, l2, c2, rfl, hi2, hc2, hl2⟩ := bytes_open (hval 2 22 v2 rfl rfl) h2
  clear hA0 hval0
  simp only [List.append_nil] at hW'
  have hlt0 : ∀ x ∈ p0, x.block < W.heap.size := fun x hx => by simpa using hW'.lt x (by simp [hx])
  have hargs0 : ∀ (W' : World), Below W.heap.size W W' → DataW.Trod enc Try.prog W' 0 (fun b => decide (b < W.heap.size)) true 22 (.slice A0 l0.length c0) d0 p0 := fun W' hn => Below.trod laidOut (by kernel_rfl) (of_decide_eq_true (by kernel_rfl)) h0 hn hlt0
  have hlt1 : ∀ x ∈ p1, x.block < W.heap.size := fun x hx => by simpa using hW'.lt x (by simp [hx])
  have hargs1 : ∀ (W' : World), Below W.heap.size W W' → DataW.Trod enc Try.prog W' 0 (fun b => decide (b < W.heap.size)) true 22 (.slice A1 l1.length c1) d1 p1 := fun W' hn => Below.trod laidOut (by kernel_rfl) (of_decide_eq_true (by kernel_rfl)) h1 hn hlt1
  have hlt2 : ∀ x ∈ p2, x.block < W.heap.size := fun x hx => by simpa using hW'.lt x (by simp [hx])
  have hargs2 : ∀ (W' : World), Below W.heap.size W W' → DataW.Trod enc Try.prog W' 0 (fun b => decide (b < W.heap.size)) true 22 (.slice A2 l2.length c2) d2 p2 := fun W' hn => Below.trod laidOut (by kernel_rfl) (of_decide_eq_true (by kernel_rfl)) h2 hn hlt2
  refine (walk W A0 l0 c0 hi0 hc0 hl0 A1 l1 c1 hi1 hc1 hl1 A2 l2 c2 hi2 hc2 hl2).mono fun e W' ⟨he, hb⟩ => ?_
  subst he
  exact ⟨_, rfl, _, _, _, [], p0 ++ (p1 ++ (p2 ++ ([]))), [], hW', trodAll_mk1 (shut_bool Try.underlying4 _), (trodAll_cons_mk (hargs0 W' hb) (trodAll_cons_mk (hargs1 W' hb) (trodAll_cons_mk (hargs2 W' hb) trodAll_mk0))), rfl, hb.frame _, fun h => by cases h⟩

theorem said : Rows.CrcLinearSaid :=
  OpenClaim.holds_of_cond 9 Try.f9 rfl rfl rfl rfl rfl rfl rfl ⟨rfl, rfl, rfl, rfl, rfl⟩ rfl rfl rfl rfl rfl (by kernel_rfl) Try.func9 (by kernel_rfl)
    (of_decide_eq_true (by kernel_rfl)) (by unfold Func.isWrapper; first | (rw [if_pos (by decide +kernel)]; kernel_rfl) | (rw [if_neg (by decide +kernel)]; exact ⟨rfl, rfl⟩))
    (fun os started H enc _ F => by rw [OpenClaim.pre_eq_preRow]; exact lifted os started H enc F)
#print axioms said
end Go.Proofs.Ythafaococbdhoaa.crcLinear
