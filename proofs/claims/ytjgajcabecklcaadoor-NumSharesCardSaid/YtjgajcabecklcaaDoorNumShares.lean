/-
  P1.3, P1.4: NumShares: without the reference's Share: for all totals and every list of weights (at most 600 of them: the law's own bound), the parts add up to the total, each is the exact share rounded down or up, an exact share that is an integer is not changed, and greater weights have no smaller parts; and the chapter's examples hold; the tied card. Conditions: the row's own (Go's own tables and error values hold what the program's text lays when the call begins).
-/
import Derived.Test.YtjgajcabecklcaaDoorNumZ
import Derived.Deep.CutRange
import Derived.Deep.DeepCutAuto
import Derived.Test.YtjgajcabecklcaaDoorCards
import Derived.Test.YtjgajcabecklcaaDoorTie
namespace Go.Proofs.YtjgajcabecklcaaDoor.numShares
open Go.ChangeShapes Go.WideShapes Go.ChangeAt Go.RowKit
set_option linter.unusedVariables false

theorem cnt_nat (x : Int) : cntB x 0 = natB x := by
  unfold cntB natB
  rfl

set_option maxHeartbeats 1000000 in
theorem sum_empty2 (v : Value) (w : World) (h : v = .slice none 0 0 ∨ ∃ a cap, v = .slice (some a) 0 cap) :
    Calls Tryd.prog 29 #[v] w fun e w' => e = .returned (.tuple #[.int .i64 0, .bool true]) ∧ w = w' := by
  have : ∃ a cap, v = .slice a 0 cap := by
    rcases h with h | ⟨a, cap, h⟩
    · exact ⟨none, 0, h⟩
    · exact ⟨some a, cap, h⟩
  obtain ⟨a, cap, rfl⟩ := this
  clear h
  go_enter Tryd.func29, Tryd.ntmps29
  go_wp2
  go_loop [4, 5] (fun s i => s = .int .i64 0 ∧ i = .int .i64 0) (fun _ _ => 0)
  case atStart => exact ⟨rfl, rfl⟩
  case round =>
    obtain ⟨rfl, rfl⟩ := hrel
    go_wp2
    go_ret2
    exact ⟨rfl, rfl⟩

set_option maxHeartbeats 2000000 in
theorem sum_cells2 (l : List Int) (sm : Int) (ok : Bool) (hok : l.all natB = ok) (hsm : (if l.all natB then l.sum else 0) = sm) (b o cap : Nat) (w : World) (hl : l.length ≤ 4096) (h1 : 1 ≤ l.length) (hwd : Wide l) (hc : ∀ k, k < l.length → w.cell? ⟨b, o + k, none⟩ = some (.int .i64 (l.getD k 0))) :
    Calls Tryd.prog 29 #[.slice (some ⟨b, o, none⟩) l.length cap] w fun e w' => e = .returned (.tuple #[.int .i64 sm, .bool ok]) ∧ w = w' := by
  have HOK := Lib.hid hok
  have HSM := Lib.hid hsm
  clear hok hsm
  obtain ⟨len, hlen⟩ : ∃ n, l.length = n := ⟨_, rfl⟩
  have HL := Lib.hid hlen
  rw [hlen] at hl h1 ⊢
  have HC := Lib.hid hc
  clear hc hlen
  go_enter Tryd.func29, Tryd.ntmps29
  go_wp2
  go_loop [4, 5] (fun s i => ∃ k : Nat, k ≤ len ∧ i = .int .i64 (k : Int) ∧ s = .int .i64 (l.take k).sum ∧ Hid ((l.take k).all natB = true)) (fun _ i => len - (intOf i).toNat)
  case atStart => exact ⟨0, by omega, rfl, rfl, rfl⟩
  case round =>
    obtain ⟨k, hk, rfl, rfl, hva⟩ := hrel
    have hbd := nat_bd _ hva.out
    have hll : (l.take k).length ≤ 4096 := by rw [List.length_take]; omega
    obtain ⟨A, hA⟩ : ∃ A, (l.take k).sum = A := ⟨_, rfl⟩
    rw [hA] at hbd ⊢
    have hA0 : 0 ≤ A ∧ A ≤ 4611686018427387904 := by omega
    clear hbd hll
    have HA := Lib.hid hA
    clear hA
    by_cases hlt : k < len
    · have hkl : k < l.length := by rw [HL.out]; exact hlt
      have hx := hwd k hkl
      have hcell := HC.out k hkl
      have hsn := Lib.hid (take_snoc l k hkl)
      have HBAD := Lib.hid (nat_bad l k hkl)
      have HGOOD := Lib.hid (nat_snoc l k hkl hva.out)
      obtain ⟨x, hxd⟩ : ∃ x, l.getD k 0 = x := ⟨_, rfl⟩
      rw [hxd] at hx hcell hsn HBAD HGOOD
      have hcn := fun w => count_any x 0 w hx.1 hx.2 (by omega) (by omega)
      rw [cnt_nat] at hcn
      clear hxd hkl
      have hltz : (k : Int) < (len : Int) := by omega
      cases hv : natB x
      · have HF : Hid (l.all natB = false) := HBAD.out hv
        rw [hv] at hcn
        have HCN := Lib.hid hcn
        clear hcn hv
        go_wp2_with fail
        refine (HCN.out _).mono ?_
        rintro e w' ⟨rfl, rfl⟩
        go_wp2_with fail
        go_ret2
        have q1 : ok = false := by rw [← HOK.out, HF.out]
        have q2 : sm = 0 := by rw [← HSM.out, HF.out]; rfl
        exact ⟨by rw [q1, q2]; rfl, rfl⟩
      · have hx2 := natB_true hv
        rw [hv] at hcn
        have HCN := Lib.hid hcn
        have HV := Lib.hid hv
        clear hcn hv
        go_wp2_with fail
        refine (HCN.out _).mono ?_
        rintro e w' ⟨rfl, rfl⟩
        go_wp2_with fail
        go_round
        case rel => exact ⟨k + 1, by omega, by go_num, val_int' (by rw [hsn.out, List.sum_append, HA.out]; simp), HGOOD.out HV.out⟩
        case measure => simp only [intOf]; omega
    · have hnlt : ¬ (k : Int) < (len : Int) := by omega
      have htk : l.take k = l := by rw [List.take_of_length_le]; rw [HL.out]; omega
      have hva2 := hva.out
      rw [htk] at hva2
      have hA2 := HA.out
      rw [htk] at hA2
      have q1 : ok = true := by rw [← HOK.out, hva2]
      have q2 : sm = A := by rw [← HSM.out, hva2, hA2]; rfl
      have Q1 := Lib.hid q1
      have Q2 := Lib.hid q2
      clear htk hva2 hva hA2 HA q1 q2
      go_wp2_with fail
      go_ret2
      exact ⟨by rw [Q1.out, Q2.out]; rfl, rfl⟩
theorem sum_any2 (l : List Int) (sm : Int) (ok : Bool) (hok : l.all natB = ok) (hsm : (if l.all natB then l.sum else 0) = sm) (v : Value) (w : World) (hl : l.length ≤ 4096) (hwd : Wide l) (h : IntsAt w v l) :
    Calls Tryd.prog 29 #[v] w fun e w' => e = .returned (.tuple #[.int .i64 sm, .bool ok]) ∧ w = w' := by
  rcases h with ⟨rfl, h⟩ | ⟨b, o, cap, rfl, _, h1, hc⟩
  · have q1 : ok = true := hok.symm
    have q2 : sm = 0 := hsm.symm
    rw [q1, q2]
    exact sum_empty2 v w h
  · exact sum_cells2 l sm ok hok hsm b o cap w hl h1 hwd hc

theorem fine_any {total : Int} {l R : List Int} (P : Parts total l R 0) (hf : natB total = true ∧ l.length ≠ 0 ∧ l.length ≤ 512 ∧ l.all natB = true) :
    ∃ (T : Nat) (ln S : List Nat), total = (T : Int) ∧ T ≤ 1125899906842624 ∧ l = castL ln ∧ ln.sum ≤ 1125899906842624 ∧ 1 ≤ ln.length ∧ ln.length ≤ 512 ∧ R = castL S ∧ FineN T ln.sum ln S := by
  by_cases hz : (weighS total l).1 = 0
  · have hR := P.zero rfl hz
    rcases weighS_cases total l with h | ⟨h1, h2, h3, h4, h | h | h⟩
    · have := P.wei; rw [h] at this; exact absurd this (by decide)
    · have := P.wei; rw [h.2] at this; exact absurd this (by decide)
    · have := P.wei; rw [h.2.2.2] at this; exact absurd this (by decide)
    · obtain ⟨hs, hn, hw⟩ := h
      rw [hw] at hz
      have hz : l.sum = 0 := hz
      obtain ⟨ln, hln⟩ := of_nat_list l (fun x hx => (natB_nat (List.all_eq_true.1 h4 x hx)).1)
      have ht : total = 0 := by
        rcases Classical.em (total = 0) with h | h
        · exact h
        · exact absurd ⟨hz, h⟩ hn
      have hlen : l.length = ln.length := by rw [hln, castL_length]
      have hsum : l.sum = ((ln.sum : Nat) : Int) := by rw [hln, castL_sum]
      have hs0 : ln.sum = 0 := by omega
      have hg : ∀ x, (List.replicate ln.length 0).getD x 0 = 0 := fun x => by
        rw [List.getD_eq_getElem?_getD, List.getElem?_replicate]
        split <;> rfl
      refine ⟨0, ln, List.replicate ln.length 0, by rw [ht]; rfl, by omega, hln, by omega, by omega, by omega, ?_, ?_⟩
      · rw [hR, ← castL_replicate, hlen]
      · refine ⟨by simp, by simp, fun x hx => Or.inl ?_, fun x y hx hy h => ?_, fun x y h hy he => ?_⟩
        · rw [hg, Nat.zero_mul, Nat.zero_div]
        · rw [hg, hg]; exact Nat.le_refl _
        · rw [hg, hg]; exact ⟨Nat.le_refl _, Nat.le_succ _⟩
  · obtain ⟨T, ln, g, hT, hTm, hln, hs0, hs, hw1, hn1, hn2, hR, hS, hso, hsm⟩ := P.ok rfl hz
    refine ⟨T, ln, shareN T ln (Arr ln.length g).toList, hT, hTm, hln, hs, hn1, hn2, hR, fine_of T ln _ g hs0 (by rw [Array.length_toList, Arr_size]) (fun t ht => ?_) ⟨hso, hsm⟩⟩
    have hl2 : t < (Arr ln.length g).size := by rw [Arr_size]; omega
    rw [List.getD_eq_getElem?_getD, Array.getElem?_toList, Array.getElem?_eq_getElem hl2]
    show (Arr ln.length g)[t] = g t
    rw [← getElem!_pos (Arr ln.length g) t hl2, Arr_get ln.length g t (by omega)]


set_option maxRecDepth 100000 in
set_option maxHeartbeats 8000000 in
theorem walk_good (w : World) (f : Facts w) (a0 : Int) (lo0 : -9223372036854775808 ≤ a0) (hi0 : a0 ≤ 9223372036854775807) (v1 : Value) (l1 : List Int) (hw1 : Wide l1) (hi1 : IntsAt w v1 l1) (R : List Int) (P : Parts a0 l1 R 0) (hb : ¬ 600 < l1.length) (hf : natB a0 = true ∧ l1.length ≠ 0 ∧ l1.length ≤ 512 ∧ l1.all natB = true) :
    Calls Tryd.prog 10 #[.int .i64 a0, v1] w fun e w' => e = .returned (.bool true) ∧ Below w.heap.size w w' := by
  have F := Lib.hid f
  obtain ⟨a, cap, hv1⟩ := hi1.len
  have hA := share_any a0 l1 R 0 P v1 w lo0 hi0 (by omega) hw1 hi1
  have hct := fun w => count_any a0 0 w lo0 hi0 (by omega) (by omega)
  rw [cnt_nat, hf.1] at hct
  have hsum := fun w1 (hb1 : Below w.heap.size w w1) => sum_any2 l1 l1.sum true hf.2.2.2 (by rw [hf.2.2.2]; rfl) v1 w1 (by omega) hw1 (hi1.below hb1)
  have hbd := nat_bd l1 hf.2.2.2
  have htn := natB_nat hf.1
  have hW : True := trivial
  obtain ⟨T, ln, S, rfl, hTm, rfl, hs, hn1, hn2, rfl, FN⟩ := fine_any P hf
  have hln : (castL ln).length = ln.length := castL_length ln
  have hSn : (castL S).length = ln.length := by rw [castL_length, FN.len]
  have hSx : ∀ x, x < ln.length → S.getD x 0 ≤ 1125899906842624 := fun x hx => by
    have := le_sum_of_mem (x := S.getD x 0) (l := S) (by
      have : x < S.length := by rw [FN.len]; exact hx
      simp [this])
    rw [FN.sum] at this
    omega
  have hxl : ∀ k, k < ln.length → ln.getD k 0 ≤ 1125899906842624 := fun k hk => Nat.le_trans (le_sum_of_mem (by simp [hk])) hs
  have hSw : Wide (castL S) := fun k hk => by
    rw [castL_getD]
    rw [hSn] at hk
    have := hSx k hk
    omega
  have hSa : (castL S).all natB = true := List.all_eq_true.2 fun y hy => by
    obtain ⟨k, hk, e⟩ := List.mem_iff_getElem.1 hy
    have e2 : (castL S).getD k 0 = y := by rw [List.getD_eq_getElem?_getD, List.getElem?_eq_getElem hk, e]; rfl
    rw [castL_getD] at e2
    rw [hSn] at hk
    have := hSx k hk
    rw [← e2]
    exact decide_eq_true ⟨by omega, by omega⟩
  have hsum2 := fun va w1 (h : IntsAt w1 va (castL S)) => sum_any2 (castL S) (T : Int) true hSa (by rw [hSa, castL_sum, FN.sum]; rfl) va w1 (by rw [hSn]; omega) hSw h
  rw [castL_sum] at hsum
  have hdiv : ∀ x, x < ln.length → 0 < ln.sum → ∀ w, Calls Tryd.prog 30 #[.int .i64 (T : Int), .int .i64 ((ln.getD x 0 : Nat) : Int), .int .i64 ((ln.sum : Nat) : Int)] w fun e w' => e = .returned (.tuple #[.int .i64 ((T * ln.getD x 0 / ln.sum : Nat) : Int), .int .i64 ((T * ln.getD x 0 % ln.sum : Nat) : Int)]) ∧ ∃ n, w' = w.drewN n := fun x hx h0 w => by
    have := refDivide_any T (ln.getD x 0) ln.sum w hTm (hxl x hx) h0 hs
    have hp := part_le T ln x hx
    rw [Nat.min_eq_left (by omega)] at this
    exact this
  have hxw : ∀ k, k < ln.length → ln.getD k 0 ≤ ln.sum := fun k hk => le_sum_of_mem (by simp [hk])
  have HXW0 := Lib.hid hxw
  have hql : ∀ x, x < ln.length → T * ln.getD x 0 / ln.sum ≤ 1125899906842624 := fun x hx => by
    have := part_le T ln x hx
    omega
  have hcells1 := hi1
  rcases hcells1 with ⟨h0, _⟩ | ⟨b, o, c0, hvv, _, _, hc⟩
  · have := congrArg List.length h0
    rw [hln] at this
    exact absurd this (by show ln.length ≠ 0; omega)
  rw [hln] at hvv hc
  subst hvv
  have hbl : b < w.heap.size := World.block_lt_of_cell? _ _ (hc 0 (by omega))
  have hcl : ∀ k, k < ln.length → w.cell? ⟨b, o + k, none⟩ = some (.int .i64 ((ln.getD k 0 : Nat) : Int)) := fun k hk => by rw [hc k hk, castL_getD]
  obtain ⟨hFl, hFs, hFp, hFless, hFsame⟩ := FN
  obtain ⟨W, hW2⟩ : ∃ W, ln.sum = W := ⟨_, rfl⟩
  obtain ⟨n, hn⟩ : ∃ n, ln.length = n := ⟨_, rfl⟩
  rw [hW2] at hsum hdiv hFp hs hql
  rw [hn] at hA hsum hcl hdiv hFp hFless hFsame hn1 hn2 hSx hxl hql hSn ⊢
  have hbz : ¬ (600 : Int) < (n : Int) := by omega
  have c3z : ¬ (n : Int) < 1 := by omega
  have c4z : ¬ (512 : Int) < (n : Int) := by omega
  have HA := Lib.hid hA
  have HSUM := Lib.hid hsum
  have HSUM2 := Lib.hid hsum2
  have HCT := Lib.hid hct
  have HDIV := Lib.hid hdiv
  have HFP := Lib.hid hFp
  have HLESS := Lib.hid hFless
  have HSAME := Lib.hid hFsame
  have HCL := Lib.hid hcl
  have HSX := Lib.hid hSx
  have HXL := Lib.hid hxl
  have hxw2 : ∀ k, k < n → ln.getD k 0 ≤ W := fun k hk => by
    rw [← hW2]
    exact HXW0.out k (by rw [hn]; exact hk)
  have HXW := Lib.hid hxw2
  have HQL := Lib.hid hql
  have HSN := Lib.hid hSn
  have hWm : W ≤ 1125899906842624 := hs
  have hWz : ¬ (1125899906842624 : Int) < (W : Int) := by omega
  clear f hb hi1 hw1 P hA hsum hsum2 hct hdiv hFl hFs hFp hFless hFsame hcl hc hln hSn hSx hxl hSw hSa hW2 hn hs hf hbd htn hW hv1 hql hxw hxw2 HXW0
  go_enter Tryd.func10, Tryd.ntmps10
  go_wp2_with fail
  refine HA.out.mono ?_
  rintro e w1 ⟨va, rfl, hia, hb1⟩
  have HS := Lib.hid (HSUM.out w1 hb1)
  have HS2 := Lib.hid (HSUM2.out va w1 hia)
  have hcells2 : ∃ b2 o2 cap2, va = .slice (some ⟨b2, o2, none⟩) n cap2 ∧ ∀ k, k < n → w1.cell? ⟨b2, o2 + k, none⟩ = some (.int .i64 ((S.getD k 0 : Nat) : Int)) := by
    rcases hia with ⟨h0, _⟩ | ⟨b2, o2, cap2, hvv, _, _, hc⟩
    · have := congrArg List.length h0
      rw [HSN.out] at this
      exact absurd this (by show n ≠ 0; omega)
    · rw [HSN.out] at hvv hc
      exact ⟨b2, o2, cap2, hvv, fun k hk => by rw [hc k hk, castL_getD]⟩
  obtain ⟨b2, o2, cap2, rfl, hc2⟩ := hcells2
  have HC2 : Hid (∀ k, k < n → w1.cell? ⟨b2, o2 + k, none⟩ = some (.int .i64 ((S.getD k 0 : Nat) : Int))) := Lib.hid hc2
  have HC1 : Hid (∀ k, k < n → w1.cell? ⟨b, o + k, none⟩ = some (.int .i64 ((ln.getD k 0 : Nat) : Int))) := Lib.hid fun k hk => by
    rw [hb1.cell (p := ⟨b, o + k, none⟩) hbl]
    exact HCL.out k hk
  clear hia hc2 HSUM HSUM2 HCL HA
  go_wp2_with fail
  refine HS.out.mono ?_
  rintro e w2 ⟨rfl, rfl⟩
  go_wp2_with fail
  refine (HCT.out _).mono ?_
  rintro e w2 ⟨rfl, rfl⟩
  go_wp2_with fail
  refine HS2.out.mono ?_
  rintro e w2 ⟨rfl, rfl⟩
  clear HS HS2 HCT
  go_wp2_with fail
  go_loopw [11] (fun vi wr => ∃ i : Nat, vi = .int .i64 (i : Int) ∧ i ≤ n ∧ Hid (∀ k, k < n → wr.cell? ⟨b, o + k, none⟩ = some (.int .i64 ((ln.getD k 0 : Nat) : Int))) ∧ Hid (∀ k, k < n → wr.cell? ⟨b2, o2 + k, none⟩ = some (.int .i64 ((S.getD k 0 : Nat) : Int))) ∧ Below w.heap.size w wr) (fun vi _ => n - (intOf vi).toNat)
  case atStart => exact ⟨0, rfl, Nat.zero_le _, HC1, HC2, hb1⟩
  case round =>
    clear HC1 HC2 hb1
    obtain ⟨i, rfl, hin, HC1, HC2, hb1⟩ := hrel
    by_cases hi : i < n
    · have hiz : (i : Int) < (n : Int) := by omega
      have wi := HC1.out i hi
      have si := HC2.out i hi
      have hp := HFP.out i hi
      have hsx := HSX.out i hi
      have hqx := HQL.out i hi
      have hxW := HXW.out i hi
      have hdv := HDIV.out i hi
      obtain ⟨x, hx⟩ : ∃ x, ln.getD i 0 = x := ⟨_, rfl⟩
      obtain ⟨y, hy⟩ : ∃ y, S.getD i 0 = y := ⟨_, rfl⟩
      rw [hx] at wi hp hqx hxW hdv
      rw [hy] at si hp hsx
      have HX := Lib.hid hx
      have HY := Lib.hid hy
      clear hx hy
      go_upto_if 115 with fail
      go_cut [12, 13] (fun sq sr wx => ∃ q r : Nat, sq = .int .i64 (q : Int) ∧ sr = .int .i64 (r : Int) ∧ q ≤ 1125899906842624 ∧ Hid (y = q ∨ (y = q + 1 ∧ r ≠ 0)) ∧ Hid (∀ k, k < n → wx.cell? ⟨b, o + k, none⟩ = some (.int .i64 ((ln.getD k 0 : Nat) : Int))) ∧ Hid (∀ k, k < n → wx.cell? ⟨b2, o2 + k, none⟩ = some (.int .i64 ((S.getD k 0 : Nat) : Int))) ∧ Below w.heap.size w wx)
      case first =>
        by_cases hW0 : 0 < W
        · have hWz0 : (0 : Int) < (W : Int) := by omega
          have hdv2 := hdv hW0
          obtain ⟨q, hq⟩ : ∃ q, T * x / W = q := ⟨_, rfl⟩
          obtain ⟨r, hr⟩ : ∃ r, T * x % W = r := ⟨_, rfl⟩
          rw [hq, hr] at hdv2 hp
          rw [hq] at hqx
          have D := Lib.hid hdv2
          have HP : Hid (y = q ∨ (y = q + 1 ∧ r ≠ 0)) := Lib.hid (by rcases hp with h | ⟨h1, h2⟩; exact Or.inl h; exact Or.inr ⟨h1, h2⟩)
          clear hdv hdv2 hq hr hp
          go_wp2_with fail
          refine (D.out _).mono ?_
          rintro e wd ⟨rfl, nq, rfl⟩
          clear D
          have hb2' : Below w.heap.size w ((wr.drewN nq)) := hb1.trans ((below_drewN' wr nq).mono hb1.size)
          go_wp2_with fail
          go_meet
          exact ⟨q, r, rfl, rfl, hqx, HP, Lib.hid HC1.out, Lib.hid HC2.out, hb2'⟩
        · have hWz0 : ¬ (0 : Int) < (W : Int) := by omega
          have hx0 : x = 0 := by omega
          have hp0 : y = 0 := by
            rcases hp with hp | ⟨_, hp⟩
            · rw [hp, hx0, Nat.mul_zero, Nat.zero_div]
            · exact absurd (by rw [hx0, Nat.mul_zero, Nat.zero_mod]) hp
          have HP : Hid (y = 0 ∨ (y = 0 + 1 ∧ 0 ≠ 0)) := Lib.hid (Or.inl hp0)
          clear hdv hxW hqx hx0 hp hp0 hW0
          go_wp2_with fail
          go_meet
          exact ⟨0, 0, rfl, rfl, Nat.zero_le _, HP, HC1, HC2, hb1⟩
      case rest =>
        clear HC1 HC2 hb1 wi si hp hdv hqx hxW
        obtain ⟨q, r, rfl, rfl, hqb, hp, G1, G2, hb2'⟩ := hcut
        have wi2 := G1.out i hi
        have si2 := G2.out i hi
        rw [HX.out] at wi2
        rw [HY.out] at si2
        go_upto_region 18 with fail
        go_cut [144] (fun sc wx => sc = .bool false ∧ Hid (∀ k, k < n → wx.cell? ⟨b, o + k, none⟩ = some (.int .i64 ((ln.getD k 0 : Nat) : Int))) ∧ Hid (∀ k, k < n → wx.cell? ⟨b2, o2 + k, none⟩ = some (.int .i64 ((S.getD k 0 : Nat) : Int))) ∧ Below w.heap.size w wx)
        case first =>
          rcases hp.out with hp | ⟨hp, hr0⟩
          · have zy1 : ((y : Int) != (q : Int)) = false := by rw [hp]; simp
            clear hp
            go_wp2_with fail
            go_meet
            exact ⟨rfl, G1, G2, hb2'⟩
          · have zy1 : ((y : Int) != (q : Int)) = true := by rw [bne_iff_ne]; omega
            have zy2 : (q : Int) + 1 = (y : Int) := by omega
            have zy4 : ((r : Int) == 0) = false := by rw [beq_eq_false_iff_ne]; omega
            clear hp hr0
            go_wp2_with fail
            go_meet
            exact ⟨rfl, G1, G2, hb2'⟩
        case rest =>
          clear G1 G2 hb2' wi2 si2 hp
          obtain ⟨rfl, G1, G2, hb2'⟩ := hcut
          go_wp2_with fail
          go_loopw [14] (fun vk ws => ∃ k : Nat, vk = .int .i64 (k : Int) ∧ k ≤ i ∧ Hid (∀ k, k < n → ws.cell? ⟨b, o + k, none⟩ = some (.int .i64 ((ln.getD k 0 : Nat) : Int))) ∧ Hid (∀ k, k < n → ws.cell? ⟨b2, o2 + k, none⟩ = some (.int .i64 ((S.getD k 0 : Nat) : Int))) ∧ Below w.heap.size w ws) (fun vk _ => i - (intOf vk).toNat)
          case atStart => exact ⟨0, rfl, Nat.zero_le _, G1, G2, hb2'⟩
          case round =>
            clear G1 G2 hb2'
            obtain ⟨k, rfl, hki, G1, G2, hb3⟩ := hrel
            by_cases hk : k < i
            · have hkz : (k : Int) < (i : Int) := by omega
              have hkn : (k : Int) < (n : Int) := by omega
              have wi3 := G1.out i hi
              have si3 := G2.out i hi
              have wk3 := G1.out k (by omega)
              have sk3 := G2.out k (by omega)
              have hl1 := HLESS.out k i (by omega) hi
              have hl2 := HLESS.out i k hi (by omega)
              have hs1 := HSAME.out k i hk hi
              have hsk := HSX.out k (by omega)
              rw [HX.out] at wi3 hl1 hl2 hs1
              rw [HY.out] at si3 hl1 hl2 hs1
              obtain ⟨a, ha⟩ : ∃ a, ln.getD k 0 = a := ⟨_, rfl⟩
              obtain ⟨c, hc⟩ : ∃ a, S.getD k 0 = a := ⟨_, rfl⟩
              rw [ha] at wk3 hl1 hl2 hs1
              rw [hc] at sk3 hl1 hl2 hs1 hsk
              clear ha hc
              rcases Nat.lt_trichotomy a x with cab | cab | cab
              · as_aux_lemma =>
                  have hcd := hl1 cab
                  have d1 : decide (a < x) = true := decide_eq_true (by omega)
                  have d2 : decide (y < c) = false := decide_eq_false (by omega)
                  have d3 : decide (x < a) = false := decide_eq_false (by omega)
                  have d1i : decide ((a : Int) < (x : Int)) = true := decide_eq_true (by omega)
                  have d2i : decide ((y : Int) < (c : Int)) = false := decide_eq_false (by omega)
                  have d3i : decide ((x : Int) < (a : Int)) = false := decide_eq_false (by omega)
                  have d4 : ((a : Int) == (x : Int)) = false := beq_eq_false_iff_ne.2 (by omega)
                  have d4n : (a == x) = false := beq_eq_false_iff_ne.2 (by omega)
                  clear hl1 hl2 hs1 hcd cab
                  go_wp2_with fail
                  dsimp only [List.append]
                  go_big_quiet (fail)
                  have hb4 : Below w.heap.size w (wr.drewN nq) := hb3.trans ((below_drewN' wr nq).mono hb3.size)
                  have G3 : Hid (∀ k, k < n → (wr.drewN nq).cell? ⟨b, o + k, none⟩ = some (.int .i64 ((ln.getD k 0 : Nat) : Int))) := Lib.hid G1.out
                  have G4 : Hid (∀ k, k < n → (wr.drewN nq).cell? ⟨b2, o2 + k, none⟩ = some (.int .i64 ((S.getD k 0 : Nat) : Int))) := Lib.hid G2.out
                  clear G1 G2 wi3 si3 wk3 sk3 hb3
                  generalize wr.drewN nq = w6 at hb4 G3 G4 ⊢
                  go_wp2
                  go_roundw
                  case rel => exact ⟨k + 1, val_int' (by omega), by omega, G3, G4, hb4⟩
                  case measure => simp only [intOf]; omega
              · as_aux_lemma =>
                  subst cab
                  have hcd := hs1 rfl
                  have d1 : decide (a < a) = false := decide_eq_false (by omega)
                  have d5 : decide (c < y) = false := decide_eq_false (by omega)
                  have d6 : decide (y + 1 < c) = false := decide_eq_false (by omega)
                  have d5i : decide ((c : Int) < (y : Int)) = false := decide_eq_false (by omega)
                  have d6i : decide ((y : Int) + 1 < (c : Int)) = false := decide_eq_false (by omega)
                  have d4 : ((a : Int) == (a : Int)) = true := beq_self_eq_true _
                  have hyb : y ≤ 1125899906842624 := hsx
                  clear hl1 hl2 hs1 hcd
                  have hwr : IntKind.i64.wrap ((y : Int) + 1) = (y : Int) + 1 := by rw [IntKind.wrap_i64]; omega
                  go_wp2_with fail
                  dsimp only [List.append]
                  go_big_quiet (fail)
                  have hb4 : Below w.heap.size w (wr.drewN nq) := hb3.trans ((below_drewN' wr nq).mono hb3.size)
                  have G3 : Hid (∀ k, k < n → (wr.drewN nq).cell? ⟨b, o + k, none⟩ = some (.int .i64 ((ln.getD k 0 : Nat) : Int))) := Lib.hid G1.out
                  have G4 : Hid (∀ k, k < n → (wr.drewN nq).cell? ⟨b2, o2 + k, none⟩ = some (.int .i64 ((S.getD k 0 : Nat) : Int))) := Lib.hid G2.out
                  clear G1 G2 wi3 si3 wk3 sk3 hb3 hwr
                  generalize wr.drewN nq = w6 at hb4 G3 G4 ⊢
                  go_wp2
                  go_roundw
                  case rel => exact ⟨k + 1, val_int' (by omega), by omega, G3, G4, hb4⟩
                  case measure => simp only [intOf]; omega
              · as_aux_lemma =>
                  have hcd := hl2 cab
                  have d1 : decide (a < x) = false := decide_eq_false (by omega)
                  have d3 : decide (x < a) = true := decide_eq_true (by omega)
                  have d2 : decide (c < y) = false := decide_eq_false (by omega)
                  have d1i : decide ((a : Int) < (x : Int)) = false := decide_eq_false (by omega)
                  have d3i : decide ((x : Int) < (a : Int)) = true := decide_eq_true (by omega)
                  have d2i : decide ((c : Int) < (y : Int)) = false := decide_eq_false (by omega)
                  have d4 : ((a : Int) == (x : Int)) = false := beq_eq_false_iff_ne.2 (by omega)
                  have d4n : (a == x) = false := beq_eq_false_iff_ne.2 (by omega)
                  clear hl1 hl2 hs1 hcd cab
                  go_wp2_with fail
                  dsimp only [List.append]
                  go_big_quiet (fail)
                  have hb4 : Below w.heap.size w (wr.drewN nq) := hb3.trans ((below_drewN' wr nq).mono hb3.size)
                  have G3 : Hid (∀ k, k < n → (wr.drewN nq).cell? ⟨b, o + k, none⟩ = some (.int .i64 ((ln.getD k 0 : Nat) : Int))) := Lib.hid G1.out
                  have G4 : Hid (∀ k, k < n → (wr.drewN nq).cell? ⟨b2, o2 + k, none⟩ = some (.int .i64 ((S.getD k 0 : Nat) : Int))) := Lib.hid G2.out
                  clear G1 G2 wi3 si3 wk3 sk3 hb3
                  generalize wr.drewN nq = w6 at hb4 G3 G4 ⊢
                  go_wp2
                  go_roundw
                  case rel => exact ⟨k + 1, val_int' (by omega), by omega, G3, G4, hb4⟩
                  case measure => simp only [intOf]; omega
            · have hkz : ¬ (k : Int) < (i : Int) := by omega
              go_wp2
              go_roundw
              case rel => exact ⟨i + 1, val_int' (by omega), by omega, G1, G2, hb3⟩
              case measure => simp only [intOf]; omega
    · have hiz : ¬ (i : Int) < (n : Int) := by omega
      go_wp2_with fail
      refine (awake_any _ (F.out.below hb1)).mono ?_
      rintro e w8 ⟨rfl, hb8⟩
      have hb9 := Below.step hb1 hb8
      go_wp2
      go_ret
      exact ⟨rfl, hb9⟩

set_option maxRecDepth 100000 in
set_option maxHeartbeats 8000000 in
theorem walk (w : World) (f : Facts w) (a0 : Int) (lo0 : -9223372036854775808 ≤ a0) (hi0 : a0 ≤ 9223372036854775807) (v1 : Value) (l1 : List Int) (hw1 : Wide l1) (hi1 : IntsAt w v1 l1) :
    Calls Tryd.prog 10 #[.int .i64 a0, v1] w fun e w' => e = .returned (.bool true) ∧ Below w.heap.size w w' := by
  obtain ⟨R, E, P⟩ := parts_ex a0 l1
  have F := Lib.hid f
  obtain ⟨a, cap, hv1⟩ := hi1.len
  by_cases hb : 600 < l1.length
  · have hbz : (600 : Int) < (l1.length : Int) := by omega
    rw [hv1]
    clear f hb hi1 hw1 P hv1
    go_enter Tryd.func10, Tryd.ntmps10
    go_wp2_with (go_at_call 17; refine (awake_any _ F.out).mono ?_; rintro e w' ⟨rfl, hb⟩)
    go_ret
    exact ⟨rfl, hb⟩
  have hA := share_any a0 l1 R E P v1 w lo0 hi0 (by omega) hw1 hi1
  have hct := fun w => count_any a0 0 w lo0 hi0 (by omega) (by omega)
  rw [cnt_nat] at hct
  by_cases hf : natB a0 = true ∧ l1.length ≠ 0 ∧ l1.length ≤ 512 ∧ l1.all natB = true
  rotate_left
  · have hw : weighS a0 l1 = (0, 1) := by
      rcases weighS_cases a0 l1 with h | ⟨h1, h2, h3, h4, _⟩
      · exact h
      · exact absurd ⟨h1, h2, h3, h4⟩ hf
    have hE : E = 1 := by rw [← P.wei, hw]
    have hR : R = [] := P.bad (by rw [hE]; decide)
    subst hE hR
    obtain ⟨ok, hok⟩ : ∃ b, l1.all natB = b := ⟨_, rfl⟩
    obtain ⟨ct, hct2⟩ : ∃ b, natB a0 = b := ⟨_, rfl⟩
    obtain ⟨sm, hsm⟩ : ∃ b, (if l1.all natB then l1.sum else 0) = b := ⟨_, rfl⟩
    have hsum := fun w1 (hb1 : Below w.heap.size w w1) => sum_any2 l1 sm ok hok hsm v1 w1 (by omega) hw1 (hi1.below hb1)
    rw [hct2] at hct
    rw [hct2, hok] at hf
    subst hv1
    obtain ⟨n, hn⟩ : ∃ n, l1.length = n := ⟨_, rfl⟩
    rw [hn] at hA hsum hb hf ⊢
    have hbz : ¬ (600 : Int) < (n : Int) := by omega
    have HA := Lib.hid hA
    have HSUM := Lib.hid hsum
    have HCT := Lib.hid hct
    clear f hb hi1 hw1 P hA hsum hct hn hok hct2 hsm hw
    cases ok
    · clear hf HCT
      go_enter Tryd.func10, Tryd.ntmps10
      go_wp2_with fail
      refine HA.out.mono ?_
      rintro e w1 ⟨va, rfl, hia, hb1⟩
      obtain ⟨xa, xc, hva⟩ := hia.len
      have hva : va = .slice xa 0 xc := hva
      subst hva
      have HS := Lib.hid (HSUM.out w1 hb1)
      clear hia
      go_wp2_with fail
      refine HS.out.mono ?_
      rintro e w2 ⟨rfl, rfl⟩
      go_wp2_with fail
      refine (awake_any _ (F.out.below hb1)).mono ?_
      rintro e w8 ⟨rfl, hb8⟩
      have hb9 := Below.step hb1 hb8
      go_wp2
      go_ret
      exact ⟨rfl, hb9⟩
    · cases ct
      · clear hf
        go_enter Tryd.func10, Tryd.ntmps10
        go_wp2_with fail
        refine HA.out.mono ?_
        rintro e w1 ⟨va, rfl, hia, hb1⟩
        obtain ⟨xa, xc, hva⟩ := hia.len
        have hva : va = .slice xa 0 xc := hva
        subst hva
        have HS := Lib.hid (HSUM.out w1 hb1)
        clear hia
        go_wp2_with fail
        refine HS.out.mono ?_
        rintro e w2 ⟨rfl, rfl⟩
        go_wp2_with fail
        refine (HCT.out _).mono ?_
        rintro e w2 ⟨rfl, rfl⟩
        go_wp2_with fail
        refine (awake_any _ (F.out.below hb1)).mono ?_
        rintro e w8 ⟨rfl, hb8⟩
        have hb9 := Below.step hb1 hb8
        go_wp2
        go_ret
        exact ⟨rfl, hb9⟩
      · by_cases c3 : n < 1
        · have c3z : (n : Int) < 1 := by omega
          clear hf
          go_enter Tryd.func10, Tryd.ntmps10
          go_wp2_with fail
          refine HA.out.mono ?_
          rintro e w1 ⟨va, rfl, hia, hb1⟩
          obtain ⟨xa, xc, hva⟩ := hia.len
          have hva : va = .slice xa 0 xc := hva
          subst hva
          have HS := Lib.hid (HSUM.out w1 hb1)
          clear hia
          go_wp2_with fail
          refine HS.out.mono ?_
          rintro e w2 ⟨rfl, rfl⟩
          go_wp2_with fail
          refine (HCT.out _).mono ?_
          rintro e w2 ⟨rfl, rfl⟩
          go_wp2_with fail
          refine (awake_any _ (F.out.below hb1)).mono ?_
          rintro e w8 ⟨rfl, hb8⟩
          have hb9 := Below.step hb1 hb8
          go_wp2
          go_ret
          exact ⟨rfl, hb9⟩
        · have c3z : ¬ (n : Int) < 1 := by omega
          have c4z : (512 : Int) < (n : Int) := by
            have : ¬ n ≤ 512 := fun h => hf ⟨rfl, by omega, h, rfl⟩
            omega
          clear hf
          go_enter Tryd.func10, Tryd.ntmps10
          go_wp2_with fail
          refine HA.out.mono ?_
          rintro e w1 ⟨va, rfl, hia, hb1⟩
          obtain ⟨xa, xc, hva⟩ := hia.len
          have hva : va = .slice xa 0 xc := hva
          subst hva
          have HS := Lib.hid (HSUM.out w1 hb1)
          clear hia
          go_wp2_with fail
          refine HS.out.mono ?_
          rintro e w2 ⟨rfl, rfl⟩
          go_wp2_with fail
          refine (HCT.out _).mono ?_
          rintro e w2 ⟨rfl, rfl⟩
          go_wp2_with fail
          refine (awake_any _ (F.out.below hb1)).mono ?_
          rintro e w8 ⟨rfl, hb8⟩
          have hb9 := Below.step hb1 hb8
          go_wp2
          go_ret
          exact ⟨rfl, hb9⟩
  have hsum := fun w1 (hb1 : Below w.heap.size w w1) => sum_any2 l1 l1.sum true hf.2.2.2 (by rw [hf.2.2.2]; rfl) v1 w1 (by omega) hw1 (hi1.below hb1)
  have hbd := nat_bd l1 hf.2.2.2
  have htn := natB_nat hf.1
  rw [hf.1] at hct
  have hW : weighS a0 l1 = if 1125899906842624 < l1.sum then (0, 2) else if l1.sum = 0 ∧ a0 ≠ 0 then (0, 10) else (l1.sum, 0) := by
    have h0 : l1 ≠ [] := fun e => hf.2.1 (by rw [e]; rfl)
    simp [weighS, hf.1, hf.2.2.1, hf.2.2.2, h0]
  by_cases hE : E = 0
  rotate_left
  · have hR : R = [] := P.bad hE
    subst hR
    obtain ⟨sm, hsm⟩ : ∃ b, l1.sum = b := ⟨_, rfl⟩
    obtain ⟨n, hn⟩ : ∃ n, l1.length = n := ⟨_, rfl⟩
    subst hv1
    rw [hn] at hA hsum hb hf hbd ⊢
    rw [hsm] at hsum hbd hW
    have hbz : ¬ (600 : Int) < (n : Int) := by omega
    have hcase : (E = 2 ∧ 1125899906842624 < sm) ∨ (E = 10 ∧ ¬ 1125899906842624 < sm ∧ sm = 0 ∧ 0 < a0) := by
      by_cases c1 : 1125899906842624 < sm
      · rw [if_pos c1] at hW
        exact Or.inl ⟨by rw [← P.wei, hW], c1⟩
      · rw [if_neg c1] at hW
        by_cases c2 : sm = 0 ∧ a0 ≠ 0
        · rw [if_pos c2] at hW
          exact Or.inr ⟨by rw [← P.wei, hW], c1, c2.1, by omega⟩
        · rw [if_neg c2] at hW
          exact absurd (by rw [← P.wei, hW]) hE
    have c3z : ¬ (n : Int) < 1 := by omega
    have c4z : ¬ (512 : Int) < (n : Int) := by omega
    have HA := Lib.hid hA
    have HSUM := Lib.hid hsum
    have HCT := Lib.hid hct
    clear f hb hi1 hw1 P hA hsum hct hn hsm hW hf hbd hE
    rcases hcase with ⟨rfl, c1⟩ | ⟨rfl, c1, rfl, c2⟩
    · skip
      go_enter Tryd.func10, Tryd.ntmps10
      go_wp2_with fail
      refine HA.out.mono ?_
      rintro e w1 ⟨va, rfl, hia, hb1⟩
      obtain ⟨xa, xc, hva⟩ := hia.len
      have hva : va = .slice xa 0 xc := hva
      subst hva
      have HS := Lib.hid (HSUM.out w1 hb1)
      clear hia
      go_wp2_with fail
      refine HS.out.mono ?_
      rintro e w2 ⟨rfl, rfl⟩
      go_wp2_with fail
      refine (HCT.out _).mono ?_
      rintro e w2 ⟨rfl, rfl⟩
      go_wp2_with fail
      refine (awake_any _ (F.out.below hb1)).mono ?_
      rintro e w8 ⟨rfl, hb8⟩
      have hb9 := Below.step hb1 hb8
      go_wp2
      go_ret
      exact ⟨rfl, hb9⟩
    · skip
      go_enter Tryd.func10, Tryd.ntmps10
      go_wp2_with fail
      refine HA.out.mono ?_
      rintro e w1 ⟨va, rfl, hia, hb1⟩
      obtain ⟨xa, xc, hva⟩ := hia.len
      have hva : va = .slice xa 0 xc := hva
      subst hva
      have HS := Lib.hid (HSUM.out w1 hb1)
      clear hia
      go_wp2_with fail
      refine HS.out.mono ?_
      rintro e w2 ⟨rfl, rfl⟩
      go_wp2_with fail
      refine (HCT.out _).mono ?_
      rintro e w2 ⟨rfl, rfl⟩
      go_wp2_with fail
      refine (awake_any _ (F.out.below hb1)).mono ?_
      rintro e w8 ⟨rfl, hb8⟩
      have hb9 := Below.step hb1 hb8
      go_wp2
      go_ret
      exact ⟨rfl, hb9⟩
  subst hE
  exact walk_good w f a0 lo0 hi0 v1 l1 hw1 hi1 R P hb hf

set_option maxRecDepth 100000 in
theorem lifted (os : Os) (started : os.Started) (H : Type) (enc : TypeId × Value → H) (F : Stop.Interp) :
    ReturnsInHanded {} Tryd.checked os 10 .any ((OpenSpec.ofChange Rows.numSharesSpec).preRow enc Tryd.prog Tryd.f10 Rows.numSharesRow.domain false Rows.numSharesRow.laid) (((OpenSpec.ofChange Rows.numSharesSpec).at F).post enc Tryd.prog Tryd.f10 false true false false) := by
  refine returnsInHanded_of_row (C := Tryd.checked) (s := OpenSpec.ofChange Rows.numSharesSpec) own started (by kernel_rfl) Tryd.func10
    (ChangeSpec.witness_shaped (enc := enc) (C := Tryd.checked) (os := os) (X := fun w _ => laidMetH Tryd.prog Rows.numSharesRow.laid w) false (World.laidAll Tryd.prog os Rows.numSharesRow.laid) #[.int .i64 0, .slice none 0 0] 8 (World.laidAll_os _ _ _)
      (World.shaped_of_ZipB (by kernel_rfl) (by kernel_rfl)) (by kernel_rfl) (by kernel_rfl) (by kernel_rfl)
      (by rw [MakeChecks.laidMetH_plain _ _ _ (by kernel_rfl)]; exact laidMet_laidAll _ (by kernel_rfl) (by kernel_rfl))) ?_
  intro W base args ds gs before hval0 hW _ _ _ hL hsh _
  have hval : ∀ (j : Nat) t v, Tryd.f10.params[j]? = some t → args[j]? = some v → Value.okWide Tryd.prog W .any base t v := hval0
  have hW' := hW
  obtain ⟨p, q, hA0, hV, rfl, hfz, hnd⟩ := hW
  have hA : DataW.TrodAll enc Tryd.prog W 0 (fun _ => true) true Tryd.f10.params.toList args.toList ds p := hA0
  rw [Tryd.params10] at hA hval
  obtain ⟨v0, vs0, d0, ds0, p0, q0, hargs, rfl, rfl, h0, r0⟩ := trodAll_cons hA
  obtain ⟨v1, vs1, d1, ds1, p1, q1, rfl, rfl, rfl, h1, r1⟩ := trodAll_cons r0
  obtain ⟨rfl, rfl, rfl⟩ := trodAll_nil r1
  obtain rfl : args = #[v0, v1] := by cases args; simp_all
  obtain ⟨rfl, rfl⟩ := trodVars_none hV
  obtain ⟨a0, rfl, rfl, rfl, w0⟩ := open_int Tryd.underlying3 (hval 0 3 v0 rfl rfl) h0
  have bd0 := i64_bd w0
  obtain ⟨l1, hi1, hw1⟩ := ints_open (hval 1 27 v1 rfl rfl) h1
  clear hA0 hval0
  simp only [List.append_nil] at hW'
  have hlt1 : ∀ x ∈ p1, x.block < W.heap.size := fun x hx => by simpa using hW'.lt x (by simp [hx])
  have hargs1 : ∀ (W' : World), Below W.heap.size W W' → DataW.Trod enc Tryd.prog W' 0 (fun b => decide (b < W.heap.size)) true 27 v1 d1 p1 := fun W' hn => Below.trod laidOut (by kernel_rfl) (of_decide_eq_true (by kernel_rfl)) h1 hn hlt1
  refine (walk W (facts_of W hL hsh) a0 bd0.1 bd0.2 v1 l1 hw1 hi1).mono fun e W' ⟨he, hb⟩ => ?_
  subst he
  exact ⟨_, rfl, _, _, _, [], [] ++ (p1 ++ ([])), [], hW', trodAll_mk1 (shut_bool Tryd.underlying4 _), (trodAll_cons_mk (shut_int Tryd.underlying3 w0) (trodAll_cons_mk (hargs1 W' hb) trodAll_mk0)), rfl, hb.frame _, fun h => by cases h⟩

theorem said : Rows.NumSharesSaid :=
  OpenClaim.holds_of_cond 10 Tryd.f10 rfl rfl rfl rfl rfl rfl rfl ⟨rfl, rfl, rfl, rfl, rfl⟩ rfl rfl rfl rfl rfl (by kernel_rfl) Tryd.func10 (by kernel_rfl)
    (of_decide_eq_true (by kernel_rfl)) (by unfold Func.isWrapper; first | (rw [if_pos (by decide +kernel)]; kernel_rfl) | (rw [if_neg (by decide +kernel)]; exact ⟨rfl, rfl⟩))
    (fun os started H enc _ F => by rw [OpenClaim.pre_eq_preRow]; exact lifted os started H enc F)

theorem plain (f : FuncId) (fn : Func) (hf : Tryd.pinned.checked.prog.funcNamed "bikeshare/bikesharelaw01.NumShares" = some f) (hfn : Tryd.pinned.checked.prog.funcs[f]? = some fn) :
    true = Tryd.pinned.checked.prog.looks [] ∧ ∀ (j : Nat) t, fn.params[j]? = some t → Tryd.pinned.checked.prog.wantsStandIn t = false := by
  obtain rfl : f = 10 := Option.some.inj ((show Tryd.prog.funcNamed "bikeshare/bikesharelaw01.NumShares" = some 10 by kernel_rfl).symm.trans hf) |>.symm
  obtain rfl : fn = Tryd.f10 := (Option.some.inj (Tryd.func10.symm.trans hfn)).symm
  refine ⟨by kernel_rfl, fun j t ht => ?_⟩
  rw [Tryd.params10] at ht
  have hm : t ∈ [3, 27] := by simpa using Array.mem_of_getElem? ht
  have hall : ([3, 27].all fun u => !Tryd.prog.wantsStandIn u) = true := by kernel_rfl
  exact (show Tryd.prog.wantsStandIn t = false by simpa using List.all_eq_true.1 hall t hm)

/-- The card. -/
theorem card : Rows.NumSharesCardSaid :=
  Claim7.holds_tied_plain_at .later [] _ _ _ _ said (fun _ h => by cases h) (by kernel_rfl) (fun _ h => by cases h) numShares_row_tie rfl ⟨rfl, rfl⟩ (by kernel_rfl) rfl plain (by kernel_rfl)
#print axioms card
end Go.Proofs.YtjgajcabecklcaaDoor.numShares
