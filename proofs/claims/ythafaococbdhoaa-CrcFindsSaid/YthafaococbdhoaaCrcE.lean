/-
  The contracts of Open and of the specification's Open. Condition: at most 60000 bytes.
-/
import Derived.Test.YthafaococbdhoaaCrcD
namespace Go.Proofs.Ythafaococbdhoaa
open Go.RowKit Go.Maps
set_option linter.unusedVariables false

set_option maxRecDepth 100000 in
theorem open_any (A : Option Addr) (l : List UInt8) (m c : Nat) (i : Int) (w : World) (C : List UInt8) (X : Int) (E : Nat) (hO : Op l i = (C, X, E)) (hm : l.length = m) (hl : m ≤ 60000) (hc : m ≤ c) (h : BytR w A l) (lo : -9223372036854775808 ≤ i) (hi : i ≤ 9223372036854775807) :
    Calls Try.prog 17 #[.slice A m c, .int .i64 i] w fun e w' => OpenP w C X E e w' := by
  have HT := Lib.hid (fun b w1 (hb : Below w.heap.size w w1) (ht : TabK w1 b 256) => topen_any b A l m c i w1 C X E hO hm hl hc (h.below hb) ht lo hi)
  clear h hm hO
  go_enter Try.func17, Try.ntmps17
  go_wp2_with fail
  refine (newTable_any _).mono ?_
  rintro e w1 ⟨b, rfl, hT, hB⟩
  have H1 := Lib.hid (HT.out b w1 hB hT)
  clear HT hT
  go_wp2_with fail
  refine H1.out.mono ?_
  rintro e w2 ⟨v, rfl, hO, hB2⟩
  have HO := Lib.hid (hO.mono hB.size)
  have hB3 := Below.step hB hB2
  clear hO hB hB2 H1
  go_wp2_with fail
  go_ret3
  exact ⟨_, rfl, HO.out, hB3⟩

set_option maxRecDepth 100000 in
set_option maxHeartbeats 4000000 in
theorem refOpen_any (A : Option Addr) (l : List UInt8) (m c : Nat) (i : Int) (w : World) (C : List UInt8) (X : Int) (E : Nat) (hO : Op l i = (C, X, E)) (hm : l.length = m) (hl : m ≤ 60000) (hc : m ≤ c) (h : BytR w A l) (lo : -9223372036854775808 ≤ i) (hi : i ≤ 9223372036854775807) :
    Calls Try.prog 18 #[.slice A m c, .int .i64 i] w fun e w' => OpenP w C X E e w' := by
  have HI := Lib.hid (fun N X E hI => refInt_any A l m c i w N X E hI hm (by omega) h lo hi)
  rcases It_cases l i with ⟨E', h5, h6, _⟩ | ⟨k, x, n, rfl, h1, h2, h3, h4, _, h6⟩
  · rw [Op_err h5 h6] at hO
    simp only [Prod.mk.injEq] at hO
    obtain ⟨rfl, rfl, rfl⟩ := hO
    have HI2 := Lib.hid (HI.out _ _ _ h5)
    have hz : ¬ (E' : Int) = 0 := by omega
    clear h hm HI h5
    go_enter Try.func18, Try.ntmps18
    go_wp2_with fail
    refine HI2.out.mono ?_
    rintro e w1 ⟨rfl, rfl⟩
    go_wp2_with fail
    go_ret3
    exact ⟨_, rfl, OwnB.nil w _, Below.refl _ _⟩
  have HI2 := Lib.hid (HI.out _ _ _ h6)
  rw [hm] at h2
  by_cases hneg : n < 0 ∨ 65536 < n
  · rw [Op_form h6 hneg] at hO
    simp only [Prod.mk.injEq] at hO
    obtain ⟨rfl, rfl, rfl⟩ := hO
    clear h hm HI h6
    rcases hneg with hneg | hneg
    · go_enter Try.func18, Try.ntmps18
      go_wp2_with fail
      refine HI2.out.mono ?_
      rintro e w1 ⟨rfl, rfl⟩
      go_wp2_with fail
      go_ret3
      exact ⟨_, rfl, OwnB.nil w _, Below.refl _ _⟩
    · have hn0 : ¬ n < 0 := by omega
      go_enter Try.func18, Try.ntmps18
      go_wp2_with fail
      refine HI2.out.mono ?_
      rintro e w1 ⟨rfl, rfl⟩
      go_wp2_with fail
      go_ret3
      exact ⟨_, rfl, OwnB.nil w _, Below.refl _ _⟩
  obtain ⟨n, rfl⟩ : ∃ q : Nat, n = q := ⟨n.toNat, by omega⟩
  have hn : n ≤ 65536 := by omega
  have hn0 : ¬ (n : Int) < 0 := by omega
  have hn1 : ¬ (65536 : Int) < (n : Int) := by omega
  clear hneg h3 h4
  by_cases hx : m < x + n + 4
  · rw [Op_short h6 hn (by rw [hm]; exact hx)] at hO
    simp only [Prod.mk.injEq] at hO
    obtain ⟨rfl, rfl, rfl⟩ := hO
    have hxz : (m : Int) - (x : Int) < (n : Int) + 4 := by omega
    clear h hm HI h6
    go_enter Try.func18, Try.ntmps18
    go_wp2_with fail
    refine HI2.out.mono ?_
    rintro e w1 ⟨rfl, rfl⟩
    go_wp2_with fail
    go_ret3
    exact ⟨_, rfl, OwnB.nil w _, Below.refl _ _⟩
  have hxz : ¬ (m : Int) - (x : Int) < (n : Int) + 4 := by omega
  obtain ⟨ab, o, rfl, hab, hcells⟩ := h.at (by omega)
  have HCL : Hid (((l.drop x).take n).length = n) := Lib.hid (by rw [List.length_take, List.length_drop]; omega)
  have HCF : Hid (((l.drop (x + n)).take 4).length = 4) := Lib.hid (by rw [List.length_take, List.length_drop]; omega)
  have HPART := Lib.hid (h.part x n)
  have HPARF := Lib.hid (h.part (x + n) 4)
  obtain ⟨P, hP⟩ : ∃ P, (l.drop x).take n = P := ⟨_, rfl⟩
  obtain ⟨G, hG⟩ : ∃ G, (l.drop (x + n)).take 4 = G := ⟨_, rfl⟩
  rw [hP] at HCL HPART
  rw [hG] at HCF HPARF
  have hcs := cs_lt P
  have e1 : IntKind.i64.wrap ((x : Int) + (n : Int)) = (x : Int) + (n : Int) := IntWalk.i64_in _ (by omega)
  have e2 : IntKind.i64.wrap ((x : Int) + (n : Int) + 4) = (x : Int) + (n : Int) + 4 := IntWalk.i64_in _ (by omega)
  have z1 : ¬ c = x := by omega
  have z2 : ¬ c = x + n := by omega
  have r1 : ∀ w : World, (Instr.sliceAt 22 (.slice (some ⟨ab, o, none⟩) m c) (some (.int .i64 ((x : Int) + (n : Int)))) (some (.int .i64 ((x : Int) + (n : Int) + 4))) none).run Try.prog w = .ok (.slice (some ⟨ab, o + (x + n), none⟩) 4 (c - (x + n))) w := fun w => by
    have := run_part w ab o m c (x + n) (x + n + 4) .i64 .i64 ((x : Int) + (n : Int)) ((x : Int) + (n : Int) + 4) (by omega) (by omega) (by omega) (by omega) (by omega)
    rwa [Nat.add_sub_cancel_left] at this
  have r2 : ∀ w : World, (Instr.sliceAt 22 (.slice (some ⟨ab, o, none⟩) m c) (some (.int .i64 (x : Int))) (some (.int .i64 ((x : Int) + (n : Int)))) none).run Try.prog w = .ok (.slice (some ⟨ab, o + x, none⟩) n (c - x)) w := fun w => by
    have := run_part w ab o m c x (x + n) .i64 .i64 (x : Int) ((x : Int) + (n : Int)) (by omega) (by omega) (by omega) (by omega) (by omega)
    rwa [Nat.add_sub_cancel_left] at this
  have HLEN : Hid (([] : List UInt8).length + n ≤ 1000000) := Lib.hid (by simp; omega)
  by_cases hs : tail (cs P) = G
  · rw [Op_ok h6 hn (by omega) (by rw [hP, hG]; exact hs), hP] at hO
    simp only [Prod.mk.injEq] at hO
    obtain ⟨rfl, hX, rfl⟩ := hO
    have HX : Hid ((x : Int) + (n : Int) + 4 = X) := Lib.hid (by omega)
    have HSB := Lib.hid (fun w1 BT (hb : Below w.heap.size w w1) hT => same_any BT 4 4 (some ⟨ab, o + (x + n), none⟩) 4 (c - (x + n)) (tail (cs P)) G true w1 (by rw [hs]; simp) (tail_len _) HCF.out (by decide) hT (HPARF.out.below hb))
    clear h hm HI h6 hcells hP hG hs hab hX
    go_enter Try.func18, Try.ntmps18
    go_wp2_with fail
    refine HI2.out.mono ?_
    rintro e w1 ⟨rfl, rfl⟩
    go_wp2_with (at_builtin; refine wpList_append_bytes rfl _ _ rfl w.heap.size _ [] P rfl (OwnB.nil w _) (some ⟨ab, o + x, none⟩) n (c - x) HCL.out rfl HPART.out HLEN.out (Nat.le_refl _) ?_)
    intro v1 w1 hO1 hB1
    have HO1 : Hid (OwnB w1 w.heap.size v1 P) := Lib.hid (by simpa using hO1.out)
    obtain ⟨B1, d1, hv, hd1, hr1⟩ := HO1.out.form
    rw [HCL.out] at hv hd1
    subst hv
    have HR1 := Lib.hid (refSum_any B1 P n d1 w1.drew HCL.out (by omega) hr1)
    clear hO1 hr1
    go_wp2_with fail
    go_region_held3 (fun _ => True) (exact trivial)
      (first | (go_at_call 13; refine HR1.out.mono ?_; rintro e w2 ⟨rfl, rfl⟩) | (go_at_call 27; refine (tail_any (cs P) _ hcs).mono ?_; rintro e w2 ⟨BT, rfl, hT, hB2⟩) | (go_at_call 16; refine (HSB.out w2 BT (Below.step hB1 ⟨hB2.os, hB2.tape, hB2.output, hB2.size, hB2.block⟩) hT.out).mono ?_; rintro e w3 ⟨rfl, q, rfl⟩))
    all_goals
      have hB3 : Below w.heap.size w (w2.drewN q) := Below.drewN (Below.step hB1 ⟨hB2.os, hB2.tape, hB2.output, hB2.size, hB2.block⟩) q
      have HO4 : Hid (OwnB (w2.drewN q) w.heap.size (.slice B1 n d1) P) := Lib.hid (HO1.out.below ⟨hB2.os, hB2.tape, hB2.output, hB2.size, hB2.block⟩)
      clear HSB HR1 hB2 HO1
      go_wp2_with fail
      go_ret3
      exact ⟨_, retO HX.out rfl, HO4.out, hB3⟩
  · rw [Op_sum h6 hn (by omega) (by rw [hP, hG]; exact hs)] at hO
    simp only [Prod.mk.injEq] at hO
    obtain ⟨rfl, rfl, rfl⟩ := hO
    have HSB := Lib.hid (fun w1 BT (hb : Below w.heap.size w w1) hT => same_any BT 4 4 (some ⟨ab, o + (x + n), none⟩) 4 (c - (x + n)) (tail (cs P)) G false w1 (by rw [eq_false hs]; simp) (tail_len _) HCF.out (by decide) hT (HPARF.out.below hb))
    clear h hm HI h6 hcells hP hG hs hab
    go_enter Try.func18, Try.ntmps18
    go_wp2_with fail
    refine HI2.out.mono ?_
    rintro e w1 ⟨rfl, rfl⟩
    go_wp2_with (at_builtin; refine wpList_append_bytes rfl _ _ rfl w.heap.size _ [] P rfl (OwnB.nil w _) (some ⟨ab, o + x, none⟩) n (c - x) HCL.out rfl HPART.out HLEN.out (Nat.le_refl _) ?_)
    intro v1 w1 hO1 hB1
    have HO1 : Hid (OwnB w1 w.heap.size v1 P) := Lib.hid (by simpa using hO1.out)
    obtain ⟨B1, d1, hv, hd1, hr1⟩ := HO1.out.form
    rw [HCL.out] at hv hd1
    subst hv
    have HR1 := Lib.hid (refSum_any B1 P n d1 w1.drew HCL.out (by omega) hr1)
    clear hO1 hr1
    go_wp2_with fail
    go_region_held3 (fun _ => True) (exact trivial)
      (first | (go_at_call 13; refine HR1.out.mono ?_; rintro e w2 ⟨rfl, rfl⟩) | (go_at_call 27; refine (tail_any (cs P) _ hcs).mono ?_; rintro e w2 ⟨BT, rfl, hT, hB2⟩) | (go_at_call 16; refine (HSB.out w2 BT (Below.step hB1 ⟨hB2.os, hB2.tape, hB2.output, hB2.size, hB2.block⟩) hT.out).mono ?_; rintro e w3 ⟨rfl, q, rfl⟩))
    all_goals
      have hB3 : Below w.heap.size w (w2.drewN q) := Below.drewN (Below.step hB1 ⟨hB2.os, hB2.tape, hB2.output, hB2.size, hB2.block⟩) q
      clear HSB HR1 hB2 HO1
      go_wp2_with fail
      go_ret3
      exact ⟨_, rfl, OwnB.nil _ _, hB3⟩
end Go.Proofs.Ythafaococbdhoaa
