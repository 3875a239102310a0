/-
  The contracts of drain and fill. Condition: at most 1000 items.
-/
import Derived.Test.YtkbfpkejogdieaaPqM
namespace Go.Proofs.Ytkbfpkejogdieaa
open Go.RowKit
set_option linter.unusedVariables false

/-- A slice at address A reads as the integers l. -/
def IntR (w : World) (A : Option Addr) (l : List Int) : Prop := 0 < l.length → ∃ b o, A = some ⟨b, o, none⟩ ∧ b < w.heap.size ∧ ∀ k, k < l.length → w.cell? ⟨b, o + k, none⟩ = some (.int .i64 (l.getD k 0))
def WideI (l : List Int) : Prop := ∀ k, k < l.length → -9223372036854775808 ≤ l.getD k 0 ∧ l.getD k 0 ≤ 9223372036854775807
theorem IntR.keep {w w' : World} {A : Option Addr} {l : List Int} {S : Nat → Prop} (h : IntR w A l) (hk : Keep S w w') (hS : ∀ a, A = some a → ¬ S a.block) : IntR w' A l := fun hl => by
  obtain ⟨b, o, rfl, hlt, hc⟩ := h hl
  have hn := hS _ rfl
  refine ⟨b, o, rfl, Nat.lt_of_lt_of_le hlt hk.size, fun k hk2 => ?_⟩
  rw [hk.cell (p := ⟨b, o + k, none⟩) hlt hn]
  exact hc k hk2
theorem IntR.below {w w' : World} {A : Option Addr} {l : List Int} (h : IntR w A l) (hb : Below w.heap.size w w') : IntR w' A l := h.keep (Keep.ofBelow (S := fun _ => False) hb) (fun _ _ e => e)
theorem IntR.nil (w : World) (A : Option Addr) : IntR w A [] := fun h => absurd h (Nat.lt_irrefl _)
/-- The items with these keys, tags from t on. -/
def itF (t : Int) : List Int → List It
  | [] => []
  | k :: l => (k, t) :: itF (t + 1) l
theorem itF_length (t : Int) (l : List Int) : (itF t l).length = l.length := by
  induction l generalizing t with
  | nil => rfl
  | cons k l ih => simp [itF, ih]
theorem itF_snoc (t : Int) (l : List Int) (k : Int) : itF t (l ++ [k]) = itF t l ++ [(k, t + l.length)] := by
  induction l generalizing t with
  | nil => simp [itF]
  | cons y l ih =>
    simp only [List.cons_append, itF, ih, List.length_cons]
    rw [show t + 1 + (l.length : Int) = t + ((l.length + 1 : Nat) : Int) by omega]
theorem takeI_snoc (l : List Int) (k : Nat) (h : k < l.length) : l.take (k + 1) = l.take k ++ [l.getD k 0] := by
  rw [List.take_succ_eq_append_getElem h]
  simp [h]
/-- The queue behind the pushes of l. -/
def pushS (dn : Bool) (l : List It) (V : List It) : List It := l.foldl (fun V x => insR (kI dn) x V) V
theorem pushS_snoc (dn : Bool) (l : List It) (x : It) (V : List It) : pushS dn (l ++ [x]) V = insR (kI dn) x (pushS dn l V) := by
  unfold pushS; rw [List.foldl_append]; rfl
theorem pushS_st (dn : Bool) (l : List It) : pushS dn l [] = stS (kI dn) l := rfl

set_option maxRecDepth 100000 in
set_option maxHeartbeats 2000000 in
theorem drain_any (b : Nat) (S : Nat → Prop) (dn : Bool) (N : Nat) (V : List It) (v n : Nat) (w : World) (H : QR w b S dn N V) (hN : N ≤ 5000) (hv : V.length = v) (hn : v < n) (hn2 : n ≤ 5000) :
    Calls Try.prog 14 #[.pointer (some ⟨b, 0, none⟩), .int .i64 (n : Int)] w fun e w' => ∃ B d, e = .returned (.slice B v d) ∧ ItsR w' B V ∧ QR w' b S dn N [] ∧ Keep S w w' ∧ ∀ a, B = some a → w.heap.size ≤ a.block := by
  have HV := Lib.hid hv
  have HQ := Lib.hid H
  have HLT := Lib.hid H.lt
  have hvN : v ≤ N := hv ▸ H.len.1
  clear H hv
  go_enter Try.func14, Try.ntmps14
  go_wp2_with fail
  go_loopw [5, 6] (fun vo vi wr => ∃ (k : Nat) (P O : List It), vi = .int .i64 (k : Int) ∧ Hid (V = O ++ P) ∧ Hid (O.length = k) ∧ Hid (QR wr b S dn N P) ∧ Hid (OwnT wr w.heap.size vo O) ∧ k ≤ v ∧ Hid (Keep S w wr)) (fun _ vi _ => n - (intOf vi).toNat)
  case atStart => exact ⟨0, V, [], rfl, Lib.hid rfl, Lib.hid rfl, HQ, Lib.hid (OwnT.nil _ _), by omega, Lib.hid (Keep.refl _ _)⟩
  case round =>
    obtain ⟨k, P, O, rfl, HVP, HOK, HQR, HO, hkv, HK⟩ := hrel
    have hkz : (k : Int) < (n : Int) := by omega
    obtain ⟨Ao, co, hvo, hco, hro, hao⟩ := HO.out.form
    rw [HOK.out] at hvo hco
    subst hvo
    have hww : w.heap.size ≤ wr.heap.size := HK.out.size
    have HAO : Hid (∀ g, (Value.slice Ao k co).ownBlock = some g → ¬ S g) := Lib.hid (fun g e e2 => by have := (HO.out.ge g e).1; have := HLT.out g e2; omega)
    cases P with
    | nil =>
      have hVO : V = O := by rw [HVP.out, List.append_nil]
      have hkv2 : k = v := by rw [← HOK.out, ← HV.out, hVO]
      have hm := hkv2
      subst hm
      have HPOP := Lib.hid (pop_any b S dn N [] wr HQR.out (by omega))
      have HRO : Hid (ItsR wr Ao V) := Lib.hid (by rw [hVO]; exact hro)
      have HAG : Hid (∀ a, Ao = some a → w.heap.size ≤ a.block ∧ ¬ S a.block) := Lib.hid (fun a ha => ⟨(HO.out.ge _ (hao a ha)).1, HAO.out _ (hao a ha)⟩)
      clear hVO hkv2 hro hao HVP HOK hkv
      go_wp2_with fail
      refine HPOP.out.mono ?_
      rintro e w2 ⟨rfl, hq2, hk2⟩
      have HQ2 := Lib.hid hq2
      have HK2 := Lib.hid hk2
      clear hq2 hk2 HPOP
      unfold hdV
      go_wp2_with fail
      go_ret
      refine ⟨Ao, co, rfl, ?_, ?_, ?_, fun a ha => (HAG.out a ha).1⟩
      · exact (HRO.out.keep HK2.out (fun a ha => (HAG.out a ha).2)).below ((Below.refl _ _).alloc (Nat.le_refl _) _)
      · exact HQ2.out.below ((Below.refl _ _).alloc (Nat.le_refl _) _)
      · exact (HK.out.step HK2.out).alloc _
    | cons x P =>
      have HPOP := Lib.hid (pop_any b S dn N (x :: P) wr HQR.out (by omega))
      have hk1 : k + 1 ≤ v := by
        have h5 := congrArg List.length HVP.out
        rw [HV.out, List.length_append, HOK.out, List.length_cons] at h5
        omega
      have HVP2 : Hid (V = (O ++ [x]) ++ P) := Lib.hid (by rw [HVP.out]; simp)
      have HOK2 : Hid ((O ++ [x]).length = k + 1) := Lib.hid (by rw [List.length_append, HOK.out]; rfl)
      clear hro hao HVP
      go_wp2_with fail
      refine HPOP.out.mono ?_
      rintro e w2 ⟨rfl, hq2, hk2⟩
      have HQ2 : Hid (QR w2 b S dn N P) := Lib.hid hq2
      have HK2 := Lib.hid hk2
      have HO2 : Hid (OwnT w2 w.heap.size (.slice Ao k co) O) := Lib.hid (HO.out.keep hk2 HAO.out)
      have hw2 : wr.heap.size ≤ w2.heap.size := hk2.size
      clear hq2 hk2 HPOP HO
      unfold hdV
      go_wp2_with (at_builtin; refine wpList_append_its rfl _ _ rfl w.heap.size (.slice Ao k co) O [x] 1 rfl rfl ((HO2.out.alloc _).alloc _) (some ⟨w2.heap.size + 1, 0, none⟩) 1 rfl (ItsR.fresh _ x _ _ (by simp)) (by rw [HOK.out]; omega) (by omega) (by simp; omega) ?_)
      intro v4 w4 hO4 hg4 hat4
      have k24 : Keep (fun q => (Value.slice Ao k co).ownBlock = some q) w2 w4 := (((Keep.alloc0 w2 _).alloc _)).grown hg4.out (fun q e => Or.inl e)
      have HQ4 : Hid (QR w4 b S dn N P) := Lib.hid (HQ2.out.keep k24 (fun q e e2 => HAO.out q e2 e))
      have HK4 : Hid (Keep S w w4) := Lib.hid ((HK.out.step HK2.out).trans k24 (fun q e => Or.inr (HO2.out.ge q e).1))
      clear k24
      go_wp2_with fail
      go_roundw
      case rel => exact ⟨k + 1, P, O ++ [x], by go_num, HVP2, HOK2, HQ4, hO4, hk1, HK4⟩
      case measure => simp only [intOf]; omega

set_option maxRecDepth 100000 in
set_option maxHeartbeats 2000000 in
theorem fill_any (b : Nat) (S : Nat → Prop) (dn : Bool) (N : Nat) (V : List It) (ks : List Int) (n c t : Nat) (A : Option Addr) (w : World) (H : QR w b S dn N V) (hN : N + n ≤ 5000) (hn : ks.length = n) (ht : t ≤ 100000) (hA : IntR w A ks) (hAS : 0 < n → ∀ a, A = some a → ¬ S a.block) :
    Calls Try.prog 12 #[.pointer (some ⟨b, 0, none⟩), .slice A n c, .int .i64 (t : Int)] w fun e w' => ∃ B d S', e = .returned (.slice B n d) ∧ n ≤ d ∧ ItsR w' B (itF t ks) ∧ QR w' b S' dn (N + n) (pushS dn (itF t ks) V) ∧ Keep S w w' ∧ (∀ k, S' k → S k ∨ w.heap.size ≤ k) ∧ ∀ a, B = some a → w.heap.size ≤ a.block ∧ ¬ S' a.block := by
  have HN := Lib.hid hn
  have HQ := Lib.hid H
  have HI := Lib.hid hA
  have HAS := Lib.hid hAS
  clear H hn hA hAS
  go_enter Try.func12, Try.ntmps12
  go_wp2_with fail
  go_loopw [7, 8] (fun vo vi wr => ∃ (k : Nat) (B : Option Addr) (d : Nat) (S' : Nat → Prop), k ≤ n ∧ vi = .int .i64 (k : Int) ∧ vo = .slice B k d ∧ k ≤ d ∧ Hid (ItsR wr B (itF t (ks.take k))) ∧ Hid (QR wr b S' dn (N + k) (pushS dn (itF t (ks.take k)) V)) ∧ Hid (Keep S w wr) ∧ Hid (∀ q, S' q → S q ∨ w.heap.size ≤ q) ∧ Hid (∀ a, B = some a → w.heap.size ≤ a.block ∧ ¬ S' a.block)) (fun _ vi _ => n - (intOf vi).toNat)
  case atStart => exact ⟨0, none, 0, S, by omega, rfl, rfl, Nat.le_refl _, Lib.hid (ItsR.nil _ _), HQ, Lib.hid (Keep.refl _ _), Lib.hid (fun q e => Or.inl e), Lib.hid (fun a e => by cases e)⟩
  case round =>
    obtain ⟨k, B, d, S', hk, rfl, rfl, hkd, HR, HQR, HK, HS, HBS⟩ := hrel
    by_cases hlt : k < n
    · have hltz : (k : Int) < (n : Int) := by omega
      have hks : k < ks.length := by rw [HN.out]; exact hlt
      obtain ⟨g, o, rfl, hgl, hc⟩ := HI.out (by omega)
      have hgS := HAS.out (by omega) _ rfl
      have c0 := hc k hks
      rw [← HK.out.cell (p := ⟨g, o + k, none⟩) hgl hgS] at c0
      have hgr : g < wr.heap.size := Nat.lt_of_lt_of_le hgl HK.out.size
      have e1 := takeI_snoc ks k hks
      have hsn := itF_snoc t (ks.take k) (ks.getD k 0)
      rw [← e1, List.length_take, Nat.min_eq_left (by omega)] at hsn
      obtain ⟨y, hy⟩ : ∃ y, ks.getD k 0 = y := ⟨_, rfl⟩
      rw [hy] at c0 hsn
      have HSN := Lib.hid hsn
      have HPUSH := Lib.hid (fun W (hb : Below wr.heap.size wr W) => push_any b S' dn (N + k) _ (y, (t : Int) + (k : Int)) W (HQR.out.below hb) (by omega))
      have HLEN : Hid ((itF t (ks.take k)).length = k) := Lib.hid (by rw [itF_length, List.length_take]; omega)
      have hwr : w.heap.size ≤ wr.heap.size := HK.out.size
      clear hks hc e1 hsn hy
      go_wp2_with fail
      refine (HPUSH.out _ ?_).mono ?_
      · exact (Below.refl _ _).alloc (Nat.le_refl _) _
      rintro e w2 ⟨rfl, S2, hq2, hk2, hs2⟩
      have hv2 : VarI w2 wr.heap.size (y, (t : Int) + (k : Int)) := (VarI.made wr (y, (t : Int) + (k : Int)) 27).keep hk2 (fun e => by have := HQR.out.lt _ e; omega)
      obtain ⟨v0, v1, v2, v3⟩ := hv2
      have k02 : Keep S' wr w2 := (Keep.alloc0 wr _).step hk2
      have HQ2 := Lib.hid hq2
      have HK2 := Lib.hid k02
      have HS2 := Lib.hid (fun q (e : S2 q) => show S' q ∨ wr.heap.size ≤ q from by
        rcases hs2 q e with h | h
        · exact Or.inl h
        · simp at h; exact Or.inr (by omega))
      have hw2 : wr.heap.size ≤ w2.heap.size := k02.size
      have HRP := Lib.hid (refPush_any B _ k d (y, (t : Int) + (k : Int)) w2 HLEN.out (by omega) (HR.out.keep k02 (fun a ha => (HBS.out a ha).2)))
      clear hq2 hk2 hs2 k02 HPUSH
      go_wp2_with fail
      refine HRP.out.mono ?_
      rintro e w3 ⟨B3, d3, rfl, hd3, hr3, hb3, hk3⟩
      have HR3 : Hid (ItsR w3 B3 (itF t (ks.take (k + 1)))) := Lib.hid (by rw [HSN.out]; exact hr3)
      have HQ3 : Hid (QR w3 b S2 dn (N + (k + 1)) (pushS dn (itF t (ks.take (k + 1))) V)) := Lib.hid (by rw [HSN.out, pushS_snoc]; exact HQ2.out.below hb3)
      have HK3 : Hid (Keep S w w3) := Lib.hid ((HK.out.trans HK2.out (fun q e => HS.out q e)).on hb3)
      have HS3 : Hid (∀ q, S2 q → S q ∨ w.heap.size ≤ q) := Lib.hid (fun q e => by
        rcases HS2.out q e with h | h
        · exact HS.out q h
        · exact Or.inr (by omega))
      have HB3 : Hid (∀ a, B3 = some a → w.heap.size ≤ a.block ∧ ¬ S2 a.block) := Lib.hid (fun a ha => by
        have h1 := hk3 a ha
        exact ⟨by omega, fun e => by have := HQ2.out.lt _ e; omega⟩)
      clear hr3 hb3 hk3 HRP
      go_wp2_with fail
      go_roundw
      case rel => exact ⟨k + 1, B3, d3, S2, by omega, by go_num, rfl, hd3, HR3, HQ3, HK3, HS3, HB3⟩
      case measure => simp only [intOf]; omega
    · obtain rfl : k = n := by omega
      have hnlt : ¬ (k : Int) < (k : Int) := by omega
      have hall : ks.take k = ks := List.take_of_length_le (by rw [HN.out]; omega)
      rw [hall] at HR HQR
      go_wp2_with fail
      go_ret
      exact ⟨B, d, rfl, hkd, HR.out, S', HQR.out, HK.out, HS.out, HBS.out⟩
end Go.Proofs.Ytkbfpkejogdieaa
