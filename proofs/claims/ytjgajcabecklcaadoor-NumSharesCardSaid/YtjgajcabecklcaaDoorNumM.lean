/-
  The contract of Share, of package num, given the library's stable sort of the remainders. Condition: at most 600 weights.
-/
import Derived.Test.YtjgajcabecklcaaDoorNumK
import Derived.Test.YtjgajcabecklcaaDoorNumL
import Derived.Test.YtjgajcabecklcaaDoorNumD
namespace Go.Proofs.YtjgajcabecklcaaDoor
open Go.RowKit
set_option linter.unusedVariables false

theorem Row.setN {w : World} {blk : Nat} {l : List Nat} (h : Row w blk (castL l)) (k x : Nat) : Row (w.setCell ⟨blk, k, none⟩ (.int .i64 (x : Int))) blk (castL (l.set k x)) := by
  rw [← castL_set]; exact h.set k x
theorem Row.cellN {w : World} {blk : Nat} {l : List Nat} (h : Row w blk (castL l)) (k : Nat) (hk : k < l.length) : w.cell? ⟨blk, k, none⟩ = some (.int .i64 ((l.getD k 0 : Nat) : Int)) ∧ w.frozen? ⟨blk, k, none⟩ = false := by
  have := h k (by rw [castL_length]; exact hk)
  rw [castL_getD] at this
  exact this
theorem castL_replicate (n : Nat) : List.replicate n (0 : Int) = castL (List.replicate n 0) := by simp [castL]

/-- Share, where weigh finds a fault. -/
theorem share_err (total x e0 : Int) (l : List Int) (v : Value) (w : World) (h1 : -9223372036854775808 ≤ total) (h2 : total ≤ 9223372036854775807) (hl : l.length ≤ 4096) (hwd : Wide l) (h : IntsAt w v l) (hw : weighS total l = (x, e0)) (he : (e0 != 0) = true) :
    Calls Tryd.prog 26 #[.int .i64 total, v] w fun e w' => e = .returned (.tuple #[.slice none 0 0, .int .i64 e0]) ∧ w = w' := by
  have hW := weigh_any total l v w h1 h2 hl hwd h
  rw [hw] at hW
  have HW := Lib.hid hW
  clear hW hw h hwd
  go_enter Tryd.func26, Tryd.ntmps26
  go_wp2_with (go_at_call 39; refine HW.out.mono ?_; rintro e w' ⟨rfl, rfl⟩)
  go_ret2
  exact ⟨rfl, rfl⟩

/-- Share of nothing among weights of nothing. -/
theorem share_zero (total : Int) (l : List Int) (v : Value) (w : World) (h1 : -9223372036854775808 ≤ total) (h2 : total ≤ 9223372036854775807) (hl : l.length ≤ 4096) (hwd : Wide l) (h : IntsAt w v l) (hw : weighS total l = (0, 0)) :
    Calls Tryd.prog 26 #[.int .i64 total, v] w fun e w' => ∃ blk, e = .returned (.tuple #[.slice (some ⟨blk, 0, none⟩) l.length l.length, .int .i64 0]) ∧ w.heap.size ≤ blk ∧ blk < w'.heap.size ∧ Row w' blk (castL (List.replicate l.length 0)) ∧ Below w.heap.size w w' := by
  have hW := weigh_any total l v w h1 h2 hl hwd h
  rw [hw] at hW
  have HW := Lib.hid hW
  obtain ⟨a, cap, rfl⟩ := h.len
  have hmk := make_ints l.length hl
  clear hW hw h hwd
  go_enter Tryd.func26, Tryd.ntmps26
  go_wp2_with (go_at_call 39; refine HW.out.mono ?_; rintro e w' ⟨rfl, rfl⟩)
  go_ret2
  refine ⟨w.heap.size, rfl, Nat.le_refl _, by simp, ?_, (Below.refl _ _).alloc (Nat.le_refl _) _⟩
  rw [← castL_replicate]
  exact Row.made w l.length 3

set_option maxRecDepth 100000 in
set_option maxHeartbeats 4000000 in
theorem share_ok (T : Nat) (l : List Nat) (out : Array Nat) (v : Value) (w : World) (hT : T ≤ 1125899906842624) (hl0 : 1 ≤ l.length) (hl : l.length ≤ 512) (h : IntsAt w v (castL l)) (hw : weighS T (castL l) = (((l.sum : Nat) : Int), 0)) (hs0 : 0 < l.sum) (hs : l.sum ≤ 1125899906842624)
    (hwd : Wide (castL l)) (hS : SortsAs (castL (restL T l.sum l)) out) :
    Calls Tryd.prog 26 #[.int .i64 (T : Int), v] w fun e w' => ∃ blk, e = .returned (.tuple #[.slice (some ⟨blk, 0, none⟩) l.length l.length, .int .i64 0]) ∧ w.heap.size ≤ blk ∧ blk < w'.heap.size ∧ Row w' blk (castL (shareN T l out.toList)) ∧ Below w.heap.size w w' := by
  have hW := weigh_any T (castL l) v w (by omega) (by omega) (by rw [castL_length]; omega) hwd h
  rw [hw] at hW
  have HW := Lib.hid hW
  rcases h with ⟨he, _⟩ | ⟨b, o, cap, rfl, _, _, hc⟩
  · have := congrArg List.length he
    rw [castL_length] at this
    exact absurd this (by show l.length ≠ 0; omega)
  rw [castL_length] at hc HW ⊢
  have hbl : b < w.heap.size := World.block_lt_of_cell? _ _ (hc 0 (by omega))
  have hc' : ∀ k, k < l.length → w.cell? ⟨b, o + k, none⟩ = some (.int .i64 ((l.getD k 0 : Nat) : Int)) := fun k hk => by rw [hc k hk, castL_getD]
  have HC := Lib.hid hc'
  have hmk := make_ints l.length (by omega)
  obtain ⟨hle, hlr, hln⟩ := left_rests T l hs0
  have hparts : ∀ k, k < l.length → (partL T l.sum l).getD k 0 = T * l.getD k 0 / l.sum := fun k hk => by simp [partL, hk]
  have hrests : ∀ k, k < l.length → (restL T l.sum l).getD k 0 = T * l.getD k 0 % l.sum := fun k hk => by simp [restL, hk]
  have hpl : (partL T l.sum l).length = l.length := by simp [partL]
  have hrl : (restL T l.sum l).length = l.length := by simp [restL]
  have hxl : ∀ k, k < l.length → l.getD k 0 ≤ 1125899906842624 := fun k hk => Nat.le_trans (le_sum_of_mem (by simp [hk])) hs
  have hql : ∀ k, k < l.length → (partL T l.sum l).getD k 0 ≤ T := fun k hk => by rw [hparts k hk]; exact part_le T l k hk
  have hDiv : ∀ k, k < l.length → ∀ w, Calls Tryd.prog 38 #[.int .i64 (T : Int), .int .i64 ((l.getD k 0 : Nat) : Int), .int .i64 ((l.sum : Nat) : Int)] w fun e w' => e = .returned (.tuple #[.int .i64 (((partL T l.sum l).getD k 0 : Nat) : Int), .int .i64 (((restL T l.sum l).getD k 0 : Nat) : Int), .bool true]) ∧ ∃ n, w' = w.drewN n := fun k hk w => by
    rw [hparts k hk, hrests k hk]
    exact divide_yes T (l.getD k 0) l.sum w hT (hxl k hk) hs0 hs (by have := part_le T l k hk; omega)
  have hsumb : ∀ k, ((partL T l.sum l).take k).sum ≤ T := fun k => by
    refine Nat.le_trans ?_ hle
    have := List.sum_append (l₁ := (partL T l.sum l).take k) (l₂ := (partL T l.sum l).drop k)
    rw [List.take_append_drop] at this
    omega
  have HD := Lib.hid hDiv
  have HQL := Lib.hid hql
  have HSB := Lib.hid hsumb
  have hFL := fun v w h => fromLargest_any (castL (restL T l.sum l)) out hS v w (by rw [castL_length, hrl]; exact hl0) (by rw [castL_length, hrl]; exact hl) h
  rw [castL_length, hrl] at hFL
  have HFL := Lib.hid hFL
  have HO : Hid (out.size = l.length ∧ ∀ k, k < out.size → out[k]! < l.length) := by
    obtain ⟨h1, h2, _⟩ := hS
    rw [castL_length, hrl] at h1 h2
    exact ⟨h1, h2⟩
  obtain ⟨left, hleft⟩ : ∃ x, T - (partL T l.sum l).sum = x := ⟨_, rfl⟩
  have HSH : Hid (shareN T l out.toList = (out.toList.take left).foldl bump (partL T l.sum l)) := by unfold Hid shareN; rw [hleft]
  rw [hleft] at hln
  obtain ⟨p, hp⟩ : ∃ p, partL T l.sum l = p := ⟨_, rfl⟩
  obtain ⟨r, hr⟩ : ∃ r, restL T l.sum l = r := ⟨_, rfl⟩
  obtain ⟨W, hWd⟩ : ∃ W, l.sum = W := ⟨_, rfl⟩
  rw [hp] at HD HQL HSB HSH hpl hleft hle
  rw [hr] at HD HFL hrl
  rw [hWd] at HD HW hs0
  have hWz : ((W : Int) == 0) = false := beq_eq_false_iff_ne.2 (by omega)
  obtain ⟨n, hn⟩ : ∃ n, l.length = n := ⟨_, rfl⟩
  rw [hn] at hpl hrl hl0 hl hmk HC HD HQL HFL HO HW hln ⊢
  have HPL := Lib.hid hpl
  have HRL := Lib.hid hrl
  have HLE := Lib.hid hle
  have HLF := Lib.hid hleft
  clear hW hw hwd hc hc' hlr hparts hrests hpl hrl hxl hql hDiv hsumb hFL hS hp hr hWd hn hle hs hleft
  go_enter Tryd.func26, Tryd.ntmps26
  go_wp2_with (go_at_call 39; refine HW.out.mono ?_; rintro e w' ⟨rfl, rfl⟩)
  go_loopw [10, 35] (fun lf i wr => ∃ k : Nat, k ≤ n ∧ i = .int .i64 (k : Int) ∧ lf = .int .i64 ((T : Int) - (((p.take k).sum : Nat) : Int)) ∧ Row wr w.heap.size (castL (upTo p k)) ∧ Row wr (w.heap.size + 1) (castL (upTo r k)) ∧ Below w.heap.size w wr ∧ w.heap.size + 1 < wr.heap.size) (fun _ i _ => n - (intOf i).toNat)
  case atStart =>
    refine ⟨0, by omega, rfl, by simp, ?_, ?_, ((Below.refl _ _).alloc (Nat.le_refl _) _).alloc (by simp) _, by simp⟩
    · rw [upTo_zero, HPL.out, ← castL_replicate]
      exact (Row.made w n 3).below (B := w.heap.size + 1) ((Below.refl _ _).alloc (by simp) _) (by omega)
    · rw [upTo_zero, HRL.out, ← castL_replicate]
      have := Row.made (w.alloc (.cells (Array.replicate n (.int .i64 0)) 3)) n 3
      simpa using this
  case round =>
    obtain ⟨k, hk, rfl, rfl, hR1, hR2, hB, hwl⟩ := hrel
    have hsk := HSB.out k
    obtain ⟨s, hsd⟩ : ∃ s, (p.take k).sum = s := ⟨_, rfl⟩
    rw [hsd] at hsk ⊢
    have HSD := Lib.hid hsd
    clear hsd
    by_cases hkn : k < n
    · have hkz : (k : Int) < (n : Int) := by omega
      have hcw : wr.cell? ⟨b, o + k, none⟩ = some (.int .i64 ((l.getD k 0 : Nat) : Int)) := by
        rw [hB.cell (p := ⟨b, o + k, none⟩) hbl]
        exact HC.out k hkn
      obtain ⟨c1, f1⟩ := hR1.cellN k (by rw [upTo_length p k (by rw [HPL.out]; exact hk), HPL.out]; exact hkn)
      obtain ⟨c2, f2⟩ := hR2.cellN k (by rw [upTo_length r k (by rw [HRL.out]; exact hk), HRL.out]; exact hkn)
      have D := Lib.hid (HD.out k hkn)
      have hpk := HQL.out k hkn
      have hnp := upTo_next p k (by rw [HPL.out]; exact hkn)
      have hnr := upTo_next r k (by rw [HRL.out]; exact hkn)
      have hss := sum_take_succ p k (by rw [HPL.out]; exact hkn)
      rw [HSD.out] at hss
      have hsk1 := HSB.out (k + 1)
      rw [hss] at hsk1
      obtain ⟨x, hx⟩ : ∃ x, l.getD k 0 = x := ⟨_, rfl⟩
      obtain ⟨pk, hpkd⟩ : ∃ x, p.getD k 0 = x := ⟨_, rfl⟩
      obtain ⟨rk, hrkd⟩ : ∃ x, r.getD k 0 = x := ⟨_, rfl⟩
      rw [hx] at D hcw
      rw [hpkd] at D hpk hnp hss hsk1
      rw [hrkd] at D hnr
      obtain ⟨u1, hu1⟩ : ∃ u, (upTo p k).getD k 0 = u := ⟨_, rfl⟩
      obtain ⟨u2, hu2⟩ : ∃ u, (upTo r k).getD k 0 = u := ⟨_, rfl⟩
      rw [hu1] at c1
      rw [hu2] at c2
      have HNP := Lib.hid hnp
      have HNR := Lib.hid hnr
      have HSS := Lib.hid hss
      clear hx hpkd hrkd hu1 hu2 hnp hnr hss
      go_wp2_with (go_at_call 38; refine (D.out _).mono ?_; rintro e w' ⟨rfl, m, rfl⟩)
      go_roundw
      case rel =>
        refine ⟨k + 1, by omega, by go_num, val_int' (by rw [HSS.out]; omega), ?_, ?_, ?_, by simpa using hwl⟩
        · rw [← HNP.out]
          exact (hR1.setN k pk).far _ _ (by show w.heap.size + 1 ≠ w.heap.size; omega)
        · rw [← HNR.out]
          exact (hR2.far _ _ (by show w.heap.size ≠ w.heap.size + 1; omega)).setN k rk
        · exact below_drewN ((hB.setCell (p := ⟨w.heap.size, k, none⟩) (Nat.le_refl _) _).setCell (p := ⟨w.heap.size + 1, k, none⟩) (by show _ ≤ w.heap.size + 1; omega) _) m
      case measure => simp only [intOf]; omega
    · have hkz : ¬ (k : Int) < (n : Int) := by omega
      obtain rfl : k = n := by omega
      have hall : p.take k = p := List.take_of_length_le (by rw [HPL.out]; exact Nat.le_refl _)
      have hsp := HSD.out
      rw [hall] at hsp
      have hup : upTo p k = p := by have := upTo_all p; rw [HPL.out] at this; exact this
      have hur : upTo r k = r := by have := upTo_all r; rw [HRL.out] at this; exact this
      rw [hup] at hR1
      rw [hur] at hR2
      have zl : (T : Int) - (s : Int) = (left : Int) := by have := HLF.out; have := HLE.out; omega
      have hint : IntsAt wr (.slice (some ⟨w.heap.size + 1, 0, none⟩) k k) (castL r) := by
        have := hR2.ints (cap := k) (by rw [castL_length, HRL.out]; omega) (by rw [castL_length, HRL.out]; exact hl0)
        rw [castL_length, HRL.out] at this
        exact this
      have F := Lib.hid (HFL.out _ wr hint)
      clear hall hsp hup hur hint hkn
      go_wp2_with fail
      refine F.out.mono ?_
      rintro e w2 ⟨b3, rfl, hb3, hb3l, hRo, hB2⟩
      have hRp : Row w2 w.heap.size (castL p) := hR1.below hB2 (by omega)
      have hBw : Below w.heap.size w w2 := hB.trans (hB2.mono (by omega))
      have hRo2 : Row w2 b3 (castL out.toList) := hRo
      have hb1 : w.heap.size < b3 := by omega
      clear hR1 hR2 hRo hB hB2 hb3 F
      obtain ⟨v2, hv2⟩ : ∃ v2, w2 = v2 := ⟨_, rfl⟩
      rw [hv2] at hRp hBw hRo2 hb3l ⊢
      clear hv2
      go_wp2_with fail
      go_loopw [65] (fun i ws => ∃ j : Nat, j ≤ left ∧ i = .int .i64 (j : Int) ∧ Row ws w.heap.size (castL ((out.toList.take j).foldl bump p)) ∧ Row ws b3 (castL out.toList) ∧ Below w.heap.size w ws ∧ b3 < ws.heap.size) (fun i _ => left - (intOf i).toNat)
      case atStart => exact ⟨0, Nat.zero_le _, rfl, hRp, hRo2, hBw, hb3l⟩
      case round =>
        obtain ⟨j, hj, rfl, hP, hO, hBs, hbs⟩ := hrel
        clear hRp hRo2 hBw hb3l
        by_cases hjl : j < left
        · have hjz : (j : Int) < (left : Int) := by omega
          obtain ⟨hos, hol⟩ := HO.out
          have hjo : j < out.toList.length := by rw [Array.length_toList, hos]; omega
          obtain ⟨co, fo⟩ := hO.cellN j hjo
          have hom : out.toList.getD j 0 < k := by
            have := hol j (by rw [hos]; omega)
            have hj2 : j < out.size := by rw [hos]; omega
            rw [getElem!_pos out j hj2] at this
            simpa [hj2] using this
          have hnx := bumps_next out.toList p j hjo
          obtain ⟨q, hq⟩ : ∃ q, out.toList.getD j 0 = q := ⟨_, rfl⟩
          rw [hq] at co hom hnx
          have hlp : ((out.toList.take j).foldl bump p).length = k := by rw [bumps_length, HPL.out]
          obtain ⟨cp, fp⟩ := hP.cellN q (by rw [hlp]; exact hom)
          have hub := bumps_getD q (out.toList.take j) p
          rw [List.length_take] at hub
          have hpq := HQL.out q hom
          have hu2 : ((out.toList.take j).foldl bump p).getD q 0 ≤ 1125899906842624 + 512 := by omega
          have hst := fun x : Nat => hP.setN q x
          obtain ⟨X, hX⟩ : ∃ X, (out.toList.take j).foldl bump p = X := ⟨_, rfl⟩
          rw [hX] at cp hu2 hnx hst
          have hnx : (out.toList.take (j + 1)).foldl bump p = X.set q (X.getD q 0 + 1) := hnx
          obtain ⟨u, hu⟩ : ∃ u, X.getD q 0 = u := ⟨_, rfl⟩
          rw [hu] at cp hu2 hnx
          have HST := Lib.hid (hst (u + 1))
          have HNX := Lib.hid hnx
          have HOO := Lib.hid hO
          have hqz : (q : Int) < (k : Int) := by omega
          clear hos hol hjo hnx hq hlp hub hpq hst hu hP hO hX
          go_wp2
          go_roundw
          case rel =>
            refine ⟨j + 1, by omega, by go_num, ?_, HOO.out.far _ _ (by show w.heap.size ≠ b3; omega), hBs.setCell (p := ⟨w.heap.size, q, none⟩) (Nat.le_refl _) _, by simpa using hbs⟩
            rw [HNX.out]
            exact HST.out
          case measure => simp only [intOf]; omega
        · have hjz : ¬ (j : Int) < (left : Int) := by omega
          obtain rfl : j = left := by omega
          go_wp2
          go_ret2
          refine ⟨w.heap.size, rfl, Nat.le_refl _, by omega, ?_, hBs⟩
          rw [HSH.out]
          exact hP
end Go.Proofs.YtjgajcabecklcaaDoor
