/-
  The contract of the reference's Share: the walk.
-/
import Derived.Test.YtjgajcabecklcaaDoorNumX
namespace Go.Proofs.YtjgajcabecklcaaDoor
open Go.RowKit
set_option linter.unusedVariables false

theorem gives_bad {total : Int} {l R : List Int} {E : Int} (P : Parts total l R E) (c : Int) (hc : c ≠ 0) (hw : weighS total l = (0, c)) (w : World) : Gives w R E (.returned (.tuple #[.slice none 0 0, .int .i64 c])) w := by
  have hE : E = c := by rw [← P.wei, hw]
  subst hE
  rw [P.bad hc]
  exact ⟨_, rfl, Or.inl ⟨rfl, Or.inl rfl⟩, Below.refl _ _⟩
theorem gives_zero {total : Int} {l R : List Int} {E : Int} (P : Parts total l R E) (hw : weighS total l = (0, 0)) (w : World) (n : Nat) (hn : l.length = n) (h1 : 1 ≤ n) (h2 : n ≤ 512) :
    Gives w R E (.returned (.tuple #[.slice (some ⟨w.heap.size, 0, none⟩) n n, .int .i64 0])) (w.alloc (.cells (Array.replicate n (.int .i64 0)) 3)) := by
  have hE : E = 0 := by rw [← P.wei, hw]
  rw [P.zero hE (by rw [hw]), hE, hn]
  have hi := (Row.made w n 3).ints (cap := n) (by rw [List.length_replicate]; omega) (by rw [List.length_replicate]; exact h1)
  rw [List.length_replicate] at hi
  exact ⟨_, rfl, hi, (Below.refl _ _).alloc (Nat.le_refl _) _⟩

set_option maxRecDepth 100000 in
set_option maxHeartbeats 8000000 in
theorem refShare_front (total : Int) (l R : List Int) (E : Int) (P : Parts total l R E) (v : Value) (w : World) (h : IntsAt w v l) (hl : l.length ≤ 4096) (hb : total < 0 ∨ 1125899906842624 < total ∨ l.length < 1 ∨ 512 < l.length) :
    Calls Tryd.prog 27 #[.int .i64 total, v] w (Gives w R E) := by
  obtain ⟨a, cap, hv⟩ := h.len
  have hw : weighS total l = (0, 1) := by
    rcases weighS_cases total l with h | ⟨h1, h2, h3, _⟩
    · exact h
    · have := natB_nat h1
      omega
  have HF := Lib.hid (gives_bad P 1 (by decide) hw w)
  obtain ⟨n, hn⟩ : ∃ n, l.length = n := ⟨_, rfl⟩
  rw [hv]
  rw [hn] at hb hl ⊢
  clear P h hv hw hn
  by_cases c1 : total < 0
  · go_enter Tryd.func27, Tryd.ntmps27
    go_wp2
    go_ret2
    exact HF.out
  by_cases c2 : 1125899906842624 < total
  · go_enter Tryd.func27, Tryd.ntmps27
    go_wp2
    go_ret2
    exact HF.out
  by_cases c3 : n < 1
  · have c3z : (n : Int) < 1 := by omega
    go_enter Tryd.func27, Tryd.ntmps27
    go_wp2
    go_ret2
    exact HF.out
  have c3z : ¬ (n : Int) < 1 := by omega
  have c4z : 512 < (n : Int) := by omega
  go_enter Tryd.func27, Tryd.ntmps27
  go_wp2
  go_ret2
  exact HF.out

set_option maxRecDepth 100000 in
set_option maxHeartbeats 16000000 in
theorem refShare_cells (total : Int) (l R : List Int) (E : Int) (P : Parts total l R E) (b o cap : Nat) (w : World) (h1 : 0 ≤ total) (h2 : total ≤ 1125899906842624) (hl1 : 1 ≤ l.length) (hl : l.length ≤ 512) (hwd : Wide l)
    (hc : ∀ k, k < l.length → w.cell? ⟨b, o + k, none⟩ = some (.int .i64 (l.getD k 0))) :
    Calls Tryd.prog 27 #[.int .i64 total, .slice (some ⟨b, o, none⟩) l.length cap] w (Gives w R E) := by
  obtain ⟨ii, hii, hz0, hz1, hz2⟩ := info_parts info_int
  have hbl : b < w.heap.size := World.block_lt_of_cell? _ _ (hc 0 (by omega))
  have ht : natB total = true := by
    unfold natB
    simp only [decide_eq_true_eq]
    omega
  have hW : weighS total l = if l.all natB then (if 1125899906842624 < l.sum then (0, 2) else if l.sum = 0 ∧ total ≠ 0 then (0, 10) else (l.sum, 0)) else (0, 1) := by
    have h0 : l ≠ [] := fun e => by rw [e] at hl1; exact absurd hl1 (by decide)
    simp [weighS, ht, hl, h0]
  have HB := Lib.hid (fun c hc hw => gives_bad P c hc hw w)
  have HZ := Lib.hid (fun hw n hn h1 h2 => gives_zero P hw w n hn h1 h2)
  have HP := Lib.hid P
  obtain ⟨len, hlen⟩ : ∃ n, l.length = n := ⟨_, rfl⟩
  have hll : l.length = len := hlen
  rw [hlen] at hl hl1 ⊢
  have c1 : ¬ total < 0 := by omega
  have c2 : ¬ 1125899906842624 < total := by omega
  have c3 : ¬ (len : Int) < 1 := by omega
  have c4 : ¬ (512 : Int) < (len : Int) := by omega
  have hmk := make_ints len (by omega)
  have HC := Lib.hid hc
  have HL := Lib.hid hll
  have HW := Lib.hid hW
  clear hc hlen hll hW P ht
  go_enter Tryd.func27, Tryd.ntmps27
  go_wp2
  go_loop [6, 7] (fun s i => ∃ k : Nat, k ≤ len ∧ i = .int .i64 (k : Int) ∧ s = .int .i64 (l.take k).sum ∧ Hid ((l.take k).all natB = true)) (fun _ i => len - (intOf i).toNat)
  case atStart => exact ⟨0, by omega, rfl, rfl, rfl⟩
  case round =>
    obtain ⟨k, hk, rfl, rfl, hva⟩ := hrel
    have hbd := nat_bd _ hva.out
    have hlk : (l.take k).length ≤ 4096 := by rw [List.length_take]; omega
    obtain ⟨A, hA⟩ : ∃ A, (l.take k).sum = A := ⟨_, rfl⟩
    rw [hA] at hbd ⊢
    have hA0 : 0 ≤ A ∧ A ≤ 4611686018427387904 := by omega
    clear hbd hlk
    have HA := Lib.hid hA
    clear hA
    by_cases hlt : k < len
    · have hkl : k < l.length := by rw [HL.out]; exact hlt
      have hx := hwd k hkl
      have hcell := HC.out k hkl
      have hsn := Lib.hid (take_snoc l k hkl)
      have HBAD := Lib.hid (nat_bad l k hkl)
      have HGOOD := Lib.hid (nat_snoc l k hkl hva.out)
      obtain ⟨x, hxd⟩ : ∃ x, l.getD k 0 = x := ⟨_, rfl⟩
      rw [hxd] at hx hcell hsn HBAD HGOOD
      clear hxd hkl
      have hltz : (k : Int) < (len : Int) := by omega
      cases hv : natB x
      · have HF : Hid (weighS total l = (0, 1)) := by unfold Hid; rw [HW.out, HBAD.out hv]; rfl
        have hxx : x < 0 ∨ 1125899906842624 < x := by
          unfold natB at hv
          simp only [decide_eq_false_iff_not] at hv
          omega
        clear hv
        by_cases d1 : x < 0
        · go_wp2
          go_ret2
          exact HB.out 1 (by decide) HF.out
        · have d2 : 1125899906842624 < x := by omega
          go_wp2
          go_ret2
          exact HB.out 1 (by decide) HF.out
      · have hx2 := natB_true hv
        have d1 : ¬ x < 0 := by omega
        have d2 : ¬ 1125899906842624 < x := by omega
        go_wp2
        go_round
        case rel => exact ⟨k + 1, by omega, by go_num, val_int' (by rw [hsn.out, List.sum_append, HA.out]; simp), HGOOD.out hv⟩
        case measure => simp only [intOf]; omega
    · have hnlt : ¬ (k : Int) < (len : Int) := by omega
      have htk : l.take k = l := by rw [List.take_of_length_le]; rw [HL.out]; omega
      have hva2 := hva.out
      rw [htk] at hva2
      have hA2 := HA.out
      rw [htk] at hA2
      have hS := HW.out
      rw [if_pos hva2, hA2] at hS
      have HS := Lib.hid hS
      have HA2 := Lib.hid hA2
      clear htk hva2 hva hS hA2 HA
      by_cases e1 : 1125899906842624 < A
      · have HF : Hid (weighS total l = (0, 2)) := by unfold Hid; rw [HS.out, if_pos e1]
        go_wp2
        go_ret2
        exact HB.out 2 (by decide) HF.out
      · by_cases e2 : A = 0
        · subst e2
          by_cases e3 : total = 0
          · subst e3
            have HF : Hid (weighS 0 l = (0, 0)) := by unfold Hid; rw [HS.out]; rfl
            go_wp2
            go_ret2
            exact HZ.out HF.out len HL.out hl1 hl
          · have e3z : 0 < total := by omega
            have HF : Hid (weighS total l = (0, 10)) := by unfold Hid; rw [HS.out, if_neg e1, if_pos ⟨rfl, e3⟩]
            go_wp2
            go_ret2
            exact HB.out 10 (by decide) HF.out
        · have hwA : weighS total l = (A, 0) := by rw [HS.out, if_neg e1, if_neg (fun h => e2 h.1)]
          have hE : E = 0 := by rw [← HP.out.wei, hwA]
          obtain ⟨T, ln, g, rfl, hTm, rfl, hs0, hs, hw1, hn1, hn2, rfl, hS, hso, hsm⟩ := HP.out.ok hE (by rw [hwA]; exact e2)
          subst hE
          obtain ⟨W, hWd⟩ : ∃ W, ln.sum = W := ⟨_, rfl⟩
          have hAW : A = (W : Int) := by rw [hwA] at hw1; rw [← hWd]; exact hw1
          subst hAW
          have hlnl : ln.length = len := by have := HL.out; rw [castL_length] at this; exact this
          have hcell : ∀ k, k < len → w.cell? ⟨b, o + k, none⟩ = some (.int .i64 ((ln.getD k 0 : Nat) : Int)) := fun k hk => by
            rw [HC.out k (by rw [HL.out]; exact hk), castL_getD]
          have HCL := Lib.hid hcell
          obtain ⟨hle, hlr, hln⟩ := left_rests T ln hs0
          have hparts : ∀ k, k < ln.length → (partL T ln.sum ln).getD k 0 = T * ln.getD k 0 / ln.sum := fun k hk => by simp [partL, hk]
          have hrests : ∀ k, k < ln.length → (restL T ln.sum ln).getD k 0 = T * ln.getD k 0 % ln.sum := fun k hk => by simp [restL, hk]
          have hpl : (partL T ln.sum ln).length = ln.length := by simp [partL]
          have hrl : (restL T ln.sum ln).length = ln.length := by simp [restL]
          have hxl : ∀ k, k < ln.length → ln.getD k 0 ≤ 1125899906842624 := fun k hk => Nat.le_trans (le_sum_of_mem (by simp [hk])) hs
          have hql : ∀ k, k < ln.length → (partL T ln.sum ln).getD k 0 ≤ T := fun k hk => by rw [hparts k hk]; exact part_le T ln k hk
          have hrq : ∀ k, k < ln.length → (restL T ln.sum ln).getD k 0 ≤ 1125899906842624 := fun k hk => by
            rw [hrests k hk]
            have := Nat.mod_lt (T * ln.getD k 0) hs0
            omega
          have hDiv : ∀ k, k < ln.length → ∀ w, Calls Tryd.prog 30 #[.int .i64 (T : Int), .int .i64 ((ln.getD k 0 : Nat) : Int), .int .i64 ((ln.sum : Nat) : Int)] w fun e w' => e = .returned (.tuple #[.int .i64 (((partL T ln.sum ln).getD k 0 : Nat) : Int), .int .i64 (((restL T ln.sum ln).getD k 0 : Nat) : Int)]) ∧ ∃ n, w' = w.drewN n := fun k hk w => by
            have := refDivide_any T (ln.getD k 0) ln.sum w hTm (hxl k hk) hs0 hs
            have hp := part_le T ln k hk
            rw [Nat.min_eq_left (by omega), ← hparts k hk, ← hrests k hk] at this
            exact this
          have hsumb : ∀ k, ((partL T ln.sum ln).take k).sum ≤ T := fun k => by
            refine Nat.le_trans ?_ hle
            have := List.sum_append (l₁ := (partL T ln.sum ln).take k) (l₂ := (partL T ln.sum ln).drop k)
            rw [List.take_append_drop] at this
            omega
          obtain ⟨left, hleft⟩ : ∃ x, T - (partL T ln.sum ln).sum = x := ⟨_, rfl⟩
          have HSH : Hid (shareN T ln (Arr ln.length g).toList = ((Arr ln.length g).toList.take left).foldl bump (partL T ln.sum ln)) := by unfold Hid shareN; rw [hleft]
          have hsl := shareN_length T ln (Arr ln.length g).toList
          rw [hleft] at hln
          obtain ⟨p, hp⟩ : ∃ p, partL T ln.sum ln = p := ⟨_, rfl⟩
          obtain ⟨r, hr⟩ : ∃ r, restL T ln.sum ln = r := ⟨_, rfl⟩
          rw [hp] at hDiv hql hsumb HSH hpl hleft hle
          rw [hr] at hDiv hrl hrq hso
          rw [hWd] at hDiv hs0
          rw [hlnl] at hDiv hql hrq HSH hpl hrl hln hso hsm hsl ⊢
          have HD := Lib.hid hDiv
          have HQL := Lib.hid hql
          have HRQ := Lib.hid hrq
          have HSB := Lib.hid hsumb
          have HPL := Lib.hid hpl
          have HRL := Lib.hid hrl
          have HLF := Lib.hid hleft
          have HLE := Lib.hid hle
          have HSO := Lib.hid hso
          have HSM := Lib.hid hsm
          have HSL := Lib.hid hsl
          have HLN := Lib.hid hlnl
          have hWz : ((W : Int) == 0) = false := beq_eq_false_iff_ne.2 (by omega)
          have hWz2 : ¬ (W : Int) = 0 := by omega
          clear hwA hw1 hS hso hsm hWd hlnl hcell hlr hparts hrests hpl hrl hxl hql hrq hDiv hsumb hleft hp hr hle hsl HP HB HZ HS HA2 HW HC HL e2
          go_wp2_with fail
          go_loopw [8, 9, 10, 11] (fun va vb vl vi wr => ∃ k : Nat, k ≤ len ∧ vi = .int .i64 (k : Int) ∧ vl = .int .i64 ((T : Int) - (((p.take k).sum : Nat) : Int)) ∧ Hid (wr.ownsRow w.heap.size 3 1 va k ((castL (p.take k)).map (Value.int .i64))) ∧ Hid (wr.ownsRow w.heap.size 3 1 vb k ((castL (r.take k)).map (Value.int .i64))) ∧ Hid (∀ b, va.ownBlock = some b → vb.ownBlock ≠ some b) ∧ Below w.heap.size w wr) (fun _ _ _ i _ => len - (intOf i).toNat)
          case atStart => exact ⟨0, Nat.zero_le _, rfl, by simp, Lib.hid (World.ownsRow_nil _ _ _ _), Lib.hid (World.ownsRow_nil _ _ _ _), Lib.hid (fun b hb => by cases hb), Below.refl _ _⟩
          case round =>
            obtain ⟨k, hk, rfl, rfl, hA1, hA2, hDJ, hnx⟩ := hrel
            have hsk := HSB.out k
            obtain ⟨sk, hsd⟩ : ∃ s, (p.take k).sum = s := ⟨_, rfl⟩
            rw [hsd] at hsk ⊢
            have HSD := Lib.hid hsd
            clear hsd
            by_cases hkn : k < len
            · have hkz : (k : Int) < (len : Int) := by omega
              have hcw : wr.cell? ⟨b, o + k, none⟩ = some (.int .i64 ((ln.getD k 0 : Nat) : Int)) := by
                rw [hnx.cell (p := ⟨b, o + k, none⟩) hbl]
                exact HCL.out k hkn
              have D := Lib.hid (HD.out k hkn)
              have hpk := HQL.out k hkn
              have hrk := HRQ.out k hkn
              have hnp := castL_take_succ p k (by rw [HPL.out]; exact hkn)
              have hnr := castL_take_succ r k (by rw [HRL.out]; exact hkn)
              have hss := sum_take_succ p k (by rw [HPL.out]; exact hkn)
              rw [HSD.out] at hss
              have hsk1 := HSB.out (k + 1)
              rw [hss] at hsk1
              obtain ⟨x, hx⟩ : ∃ x, ln.getD k 0 = x := ⟨_, rfl⟩
              obtain ⟨pk, hpkd⟩ : ∃ x, p.getD k 0 = x := ⟨_, rfl⟩
              obtain ⟨rk, hrkd⟩ : ∃ x, r.getD k 0 = x := ⟨_, rfl⟩
              rw [hx] at hcw D
              rw [hpkd] at D hpk hnp hss hsk1
              rw [hrkd] at D hrk hnr
              have HNP := Lib.hid hnp
              have HNR := Lib.hid hnr
              have HSS := Lib.hid hss
              clear hx hpkd hrkd hnp hnr hss
              go_wp2_with fail
              refine (D.out _).mono ?_
              rintro e wd ⟨rfl, nq, rfl⟩
              have hB0 : Below w.heap.size w (wr.drewN nq) := hnx.trans ((below_drewN' wr nq).mono hnx.size)
              have hO1 : Hid ((wr.drewN nq).ownsRow w.heap.size 3 1 u8 k ((castL (p.take k)).map (Value.int .i64))) := Lib.hid hA1.out
              have hO2 : Hid ((wr.drewN nq).ownsRow w.heap.size 3 1 u9 k ((castL (r.take k)).map (Value.int .i64))) := Lib.hid hA2.out
              clear hA1 hA2 hnx hcw D
              generalize wr.drewN nq = w2 at hB0 hO1 hO2 ⊢
              clear nq
              go_wp2_with (at_builtin; refine wpList_append_own_at _ rfl _ _ 27 rfl w.heap.size 3 ii (.int .i64 0) 1 8 Tryd.underlying27 hii hz0 hz1 hz2 rfl (by decide) _ _ _ rfl (hO1.out.alloc _) ⟨w2.heap.size, 0, none⟩ 1 1 [.int .i64 (pk : Int)] rfl rfl ?c1 ?c2 ?c3 ?c4 ?c5 ?_)
              case c1 =>
                intro j u hj
                match j, hj with
                | 0, hj => simp at hj; subst hj; simp [Addr.add]
              case c2 => intro u hu; simp at hu; subst hu; rfl
              case c3 => unfold maxLen; omega
              case c4 => omega
              case c5 => have := hB0.size; simp; omega
              intro v1 w3 hown1 hgrow1 _ hat1
              have hb3 : Below w.heap.size w w3 := (hB0.alloc hB0.size _).grown hgrow1 (by have := hB0.size; simp; omega) (own_ge hO1.out)
              have hP1 : Hid (w3.ownsRow w.heap.size 3 1 v1 (k + 1) ((castL (p.take (k + 1))).map (Value.int .i64))) := Lib.hid (by rw [HNP.out]; exact hown1)
              have hR1 : Hid (w3.ownsRow w.heap.size 3 1 u9 k ((castL (r.take k)).map (Value.int .i64))) := Lib.hid ((hO2.out.alloc _).kept hgrow1 (by
                cases hq : u9.ownBlock with
                | none => exact Or.inl rfl
                | some q => exact Or.inr fun e => hDJ.out q e.symm hq))
              have hDJ1 : Hid (∀ b, v1.ownBlock = some b → u9.ownBlock ≠ some b) := Lib.hid fun q hq hq2 => by
                rcases hat1 with e | e
                · exact hDJ.out q (by rw [← e]; exact hq) hq2
                · rw [hq] at e
                  have := (hO2.out.lt q hq2).2
                  simp only [Option.some.injEq] at e
                  omega
              clear hown1 hgrow1 hat1 hO1 hO2 hB0 hDJ HNP
              go_wp2_with (at_builtin; refine wpList_append_own_at _ rfl _ _ 27 rfl w.heap.size 3 ii (.int .i64 0) 1 8 Tryd.underlying27 hii hz0 hz1 hz2 rfl (by decide) _ _ _ rfl (hR1.out.alloc _) ⟨w3.heap.size, 0, none⟩ 1 1 [.int .i64 (rk : Int)] rfl rfl ?d1 ?d2 ?d3 ?d4 ?d5 ?_)
              case d1 =>
                intro j u hj
                match j, hj with
                | 0, hj => simp at hj; subst hj; simp [Addr.add]
              case d2 => intro u hu; simp at hu; subst hu; rfl
              case d3 => unfold maxLen; omega
              case d4 => omega
              case d5 => have := hb3.size; simp; omega
              intro v2 w4 hown2 hgrow2 _ hat2
              have hb4 : Below w.heap.size w w4 := (hb3.alloc hb3.size _).grown hgrow2 (by have := hb3.size; simp; omega) (own_ge hR1.out)
              have hR2 : Hid (w4.ownsRow w.heap.size 3 1 v2 (k + 1) ((castL (r.take (k + 1))).map (Value.int .i64))) := Lib.hid (by rw [HNR.out]; exact hown2)
              have hP2 : Hid (w4.ownsRow w.heap.size 3 1 v1 (k + 1) ((castL (p.take (k + 1))).map (Value.int .i64))) := Lib.hid ((hP1.out.alloc _).kept hgrow2 (by
                cases hq : v1.ownBlock with
                | none => exact Or.inl rfl
                | some q => exact Or.inr fun e => hDJ1.out q hq e.symm))
              have hDJ2 : Hid (∀ b, v1.ownBlock = some b → v2.ownBlock ≠ some b) := Lib.hid fun q hq hq2 => by
                rcases hat2 with e | e
                · exact hDJ1.out q hq (by rw [← e]; exact hq2)
                · rw [hq2] at e
                  have := (hP1.out.lt q hq).2
                  simp only [Option.some.injEq] at e
                  omega
              clear hown2 hgrow2 hat2 hP1 hR1 hb3 hDJ1 HNR
              go_wp2
              go_roundw
              case rel => exact ⟨k + 1, by omega, val_int' (by omega), val_int' (by rw [HSS.out]; omega), hP2, hR2, hDJ2, hb4⟩
              case measure => simp only [intOf]; omega
            · have hkl : k = len := by omega
              have hpt : p.take k = p := List.take_of_length_le (by rw [HPL.out]; omega)
              have hrt : r.take k = r := List.take_of_length_le (by rw [HRL.out]; omega)
              have hA1' := hA1.out
              have hA2' := hA2.out
              rw [hpt] at hA1'
              rw [hrt] at hA2'
              have hcp : (castL p).length = k := by rw [castL_length, HPL.out]; exact hkl.symm
              have hcr : (castL r).length = k := by rw [castL_length, HRL.out]; exact hkl.symm
              obtain ⟨g1, cap1, hv1, hg1, hg1l, hRow1⟩ := row_of_owned (l := castL p) (by rw [hcp]; exact hA1') (by rw [hcp]; omega)
              obtain ⟨g2, cap2, hv2, hg2, hg2l, hRow2⟩ := row_of_owned (l := castL r) (by rw [hcr]; exact hA2') (by rw [hcr]; omega)
              rw [hcp] at hv1
              rw [hcr] at hv2
              have hne : g1 ≠ g2 := fun e => hDJ.out g1 (by rw [hv1]; rfl) (by rw [hv2, e]; rfl)
              have hne2 : g2 ≠ g1 := fun e => hne e.symm
              subst hv1 hv2
              have hsd2 := HSD.out
              rw [hpt] at hsd2
              have hlf := HLF.out
              have hle2 := HLE.out
              rw [hsd2] at hlf hle2
              have zl : (T : Int) - (sk : Int) = (left : Int) := by omega
              have hlk : left ≤ k := by omega
              have hk1 : 1 ≤ k := by omega
              have hk2 : k ≤ 512 := Nat.le_trans hk hl
              have hst : Struck (castL r) r g k 0 := by
                have := Struck.start r g
                rw [← castL_length, hcr] at this
                exact this
              have HST := Lib.hid hst
              have hnlt : ¬ (k : Int) < (len : Int) := by omega
              obtain ⟨ol, hol⟩ : ∃ o, (Arr len g).toList = o := ⟨_, rfl⟩
              have hol1 : ol.length = k := by rw [← hol, Array.length_toList, Arr_size]; exact hkl.symm
              have hol2 : ∀ t, t < k → ol.getD t 0 = g t := fun t ht => by
                have hl2 : t < (Arr len g).size := by rw [Arr_size]; omega
                rw [← hol, List.getD_eq_getElem?_getD, Array.getElem?_toList, Array.getElem?_eq_getElem hl2]
                show (Arr len g)[t] = g t
                rw [← getElem!_pos (Arr len g) t hl2, Arr_get len g t (by omega)]
              have HO1 := Lib.hid hol1
              have HO2 := Lib.hid hol2
              have HFIN : Hid (∀ ws, Row ws g1 (castL ((ol.take left).foldl bump p)) → IntsAt ws (.slice (some ⟨g1, 0, none⟩) k cap1) (castL (shareN T ln (Arr len g).toList))) := Lib.hid fun ws hr => by
                have q1 : castL ((ol.take left).foldl bump p) = castL (shareN T ln (Arr len g).toList) := by rw [HSH.out, hol]
                rw [q1] at hr
                have q2 : (castL (shareN T ln (Arr len g).toList)).length = k := by rw [castL_length, HSL.out]; exact hkl.symm
                have hi := hr.ints (cap := cap1) (by rw [q2]; omega) (by rw [q2]; omega)
                rw [q2] at hi
                exact hi
              have HKL := Lib.hid hkl
              clear hkl hpt hrt hA1 hA2 hA1' hA2' hcp hcr hDJ HSD hsd2 hlf hle2 hst hol hol1 hol2 HLF HLE HD HSB HSH HSL HCL hmk hWz hWz2
              go_wp2_with fail
              go_loopw [10] (fun vl ws => ∃ (t m : Nat) (C : List Int), vl = .int .i64 (m : Int) ∧ t + m ≤ left ∧ left ≤ t + m ∧ Row ws g1 (castL ((ol.take t).foldl bump p)) ∧ Row ws g2 C ∧ Hid (Struck C r g k t) ∧ Below w.heap.size w ws) (fun vl _ => (intOf vl).toNat)
              case atStart => exact ⟨0, left, castL r, rfl, by omega, by omega, hRow1, hRow2, HST, hnx⟩
              case round =>
                clear hRow1 hRow2 HST hnx hg1l hg2l
                obtain ⟨t, m, C, rfl, htm1, htm2, hP, hR, HS, hB⟩ := hrel
                by_cases hm : 0 < m
                · have hmz : (0 : Int) < (m : Int) := by omega
                  have hCl := HS.out.1
                  have HBEST0 : Hid (Best C 0 1) := Lib.hid (Best.one C)
                  have hRR : Hid (Row wr g2 C) := Lib.hid hR
                  have hPP : Hid (Row wr g1 (castL ((ol.take t).foldl bump p))) := Lib.hid hP
                  have HCL2 := Lib.hid hCl
                  clear hP hR hCl
                  go_wp2_with fail
                  go_loopw [14, 15] (fun vb vi wi => ∃ (bst i : Nat), vb = .int .i64 (bst : Int) ∧ vi = .int .i64 (i : Int) ∧ i ≤ k ∧ bst < k ∧ Hid (Best C bst i) ∧ Hid (Row wi g1 (castL ((ol.take t).foldl bump p))) ∧ Hid (Row wi g2 C) ∧ Below w.heap.size w wi) (fun _ vi _ => k - (intOf vi).toNat)
                  case atStart => exact ⟨0, 1, rfl, rfl, hk1, by omega, HBEST0, hPP, hRR, hB⟩
                  case round =>
                    clear HBEST0 hPP hRR hB
                    obtain ⟨bst, i, rfl, rfl, hik, hbk, HBE, hPP, hRR, hB⟩ := hrel
                    by_cases hi : i < k
                    · have hiz : (i : Int) < (k : Int) := by omega
                      have hbz : (bst : Int) < (k : Int) := by omega
                      have ci := (hRR.out i (by rw [HCL2.out]; exact hi)).1
                      have cb := (hRR.out bst (by rw [HCL2.out]; exact hbk)).1
                      have HT := Lib.hid (fun h => HBE.out.take (C := C) (i := i) h)
                      have HLV := Lib.hid (fun h => HBE.out.leave (C := C) (i := i) h)
                      obtain ⟨x, hx⟩ : ∃ x, C.getD i 0 = x := ⟨_, rfl⟩
                      obtain ⟨y, hy⟩ : ∃ x, C.getD bst 0 = x := ⟨_, rfl⟩
                      rw [hx] at ci HT HLV
                      rw [hy] at cb HT HLV
                      clear hx hy
                      by_cases cxy : y < x
                      · have hd : decide (y < x) = true := decide_eq_true cxy
                        have HN := Lib.hid (HT.out cxy)
                        clear HT HLV
                        go_wp2_with fail
                        go_quiet (fail)
                        have hB2 : Below w.heap.size w (wr.drewN nq) := hB.trans ((below_drewN' wr nq).mono hB.size)
                        have hP2 : Hid (Row (wr.drewN nq) g1 (castL ((ol.take t).foldl bump p))) := Lib.hid hPP.out
                        have hR2 : Hid (Row (wr.drewN nq) g2 C) := Lib.hid hRR.out
                        clear hB hPP hRR ci cb
                        generalize wr.drewN nq = w5 at hB2 hP2 hR2 ⊢
                        go_wp2
                        go_roundw
                        case rel => exact ⟨i, i + 1, rfl, val_int' (by omega), by omega, hi, HN, hP2, hR2, hB2⟩
                        case measure => simp only [intOf]; omega
                      · have hd : decide (y < x) = false := decide_eq_false cxy
                        have HN := Lib.hid (HLV.out cxy)
                        clear HT HLV
                        go_wp2_with fail
                        go_quiet (fail)
                        have hB2 : Below w.heap.size w (wr.drewN nq) := hB.trans ((below_drewN' wr nq).mono hB.size)
                        have hP2 : Hid (Row (wr.drewN nq) g1 (castL ((ol.take t).foldl bump p))) := Lib.hid hPP.out
                        have hR2 : Hid (Row (wr.drewN nq) g2 C) := Lib.hid hRR.out
                        clear hB hPP hRR ci cb
                        generalize wr.drewN nq = w5 at hB2 hP2 hR2 ⊢
                        go_wp2
                        go_roundw
                        case rel => exact ⟨bst, i + 1, rfl, val_int' (by omega), by omega, hbk, HN, hP2, hR2, hB2⟩
                        case measure => simp only [intOf]; omega
                    · have hik2 : i = k := by omega
                      have htk : t < k := by omega
                      have hbest : bst = g t := by
                        have hBE := HBE.out
                        rw [hik2] at hBE
                        refine best_is HS.out htk ?_ ?_ hBE
                        · rw [HKL.out]; exact HSO.out
                        · rw [HKL.out]; exact HSM.out
                      have hiz : ¬ (i : Int) < (k : Int) := by omega
                      have hbz : (bst : Int) < (k : Int) := by omega
                      have hnext : Struck (C.set bst (-1)) r g k (t + 1) := by
                        rw [hbest]
                        exact HS.out.next (by rw [← hbest]; exact hbk)
                      have HNEXT := Lib.hid hnext
                      have hlp : ((ol.take t).foldl bump p).length = k := by rw [bumps_length, HPL.out]; exact HKL.out.symm
                      obtain ⟨cp, fp⟩ := hPP.out.cellN bst (by rw [hlp]; exact hbk)
                      have hub := bumps_getD bst (ol.take t) p
                      rw [List.length_take] at hub
                      have hpq := HQL.out bst (by rw [← HKL.out]; exact hbk)
                      have hu2 : ((ol.take t).foldl bump p).getD bst 0 ≤ 1125899906842624 + 512 := by omega
                      have hnx := bumps_next ol p t (by rw [HO1.out]; exact htk)
                      rw [HO2.out t htk, ← hbest] at hnx
                      have hst := fun x : Nat => hPP.out.setN bst x
                      obtain ⟨X, hX⟩ : ∃ X, (ol.take t).foldl bump p = X := ⟨_, rfl⟩
                      rw [hX] at cp hu2 hnx hst
                      have hnx : (ol.take (t + 1)).foldl bump p = X.set bst (X.getD bst 0 + 1) := hnx
                      obtain ⟨u, hu⟩ : ∃ u, X.getD bst 0 = u := ⟨_, rfl⟩
                      rw [hu] at cp hu2 hnx
                      have HPS := Lib.hid (hst (u + 1))
                      have HNX := Lib.hid hnx
                      have hRf := fun v => hRR.out.far ⟨g1, bst, none⟩ v hne
                      have c2 := fun v => (hRf v bst (by rw [HCL2.out]; exact hbk)).1
                      have f2 := (hRR.out bst (by rw [HCL2.out]; exact hbk)).2
                      have HRF := Lib.hid hRf
                      have hm1 : ∃ m1, m = m1 + 1 := ⟨m - 1, by omega⟩
                      obtain ⟨m1, hm1⟩ := hm1
                      have zm1 : (m : Int) - 1 = (m1 : Int) := by omega
                      have hm2 : m1 + 1 ≤ m := by omega
                      have hm3 : m ≤ m1 + 1 := by omega
                      obtain ⟨cv2, hcv2⟩ : ∃ x, C.getD bst 0 = x := ⟨_, rfl⟩
                      rw [hcv2] at c2
                      clear hcv2 hm1 hik2 hbest hnext hlp hub hpq hnx hst hX hu hRf HBE hPP hRR
                      go_wp2_with fail
                      refine ⟨⟨t + 1, m1, C.set bst (-1), rfl, by omega, by omega, ?_, ?_, HNEXT.out, ?_⟩, by simp only [intOf]; omega⟩
                      · rw [HNX.out]
                        exact HPS.out.far ⟨g2, bst, none⟩ _ hne2
                      · exact (HRF.out _).set bst (-1)
                      · exact (hB.setCell (p := ⟨g1, bst, none⟩) hg1 _).setCell (p := ⟨g2, bst, none⟩) hg2 _
                · have hm0 : m = 0 := by omega
                  have htl : t = left := by omega
                  rw [htl] at hP
                  have HG := Lib.hid (HFIN.out _ hP)
                  subst hm0
                  clear hP hR htl
                  go_wp2
                  go_ret2
                  exact ⟨.slice (some ⟨g1, 0, none⟩) k cap1, rfl, by rw [HLN.out]; exact HG.out, hB⟩

theorem refShare_any (total : Int) (l R : List Int) (E : Int) (P : Parts total l R E) (v : Value) (w : World) (hl : l.length ≤ 4096) (hwd : Wide l) (h : IntsAt w v l) :
    Calls Tryd.prog 27 #[.int .i64 total, v] w (Gives w R E) := by
  by_cases hb : total < 0 ∨ 1125899906842624 < total ∨ l.length < 1 ∨ 512 < l.length
  · exact refShare_front total l R E P v w h hl hb
  · rcases h with ⟨rfl, _⟩ | ⟨b, o, cap, rfl, _, h1, hc⟩
    · exact absurd (Or.inr (Or.inr (Or.inl (by show (0 : Nat) < 1; omega)))) hb
    · exact refShare_cells total l R E P b o cap w (by omega) (by omega) h1 (by omega) hwd hc
end Go.Proofs.YtjgajcabecklcaaDoor
