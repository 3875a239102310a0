/-
  The contracts of New, of the package and of its specification, and of same. Condition: lists of at most 512 strings.
-/
import Derived.Test.YtagpkijgednmnaaIdtE
namespace Go.Proofs.Ytagpkijgednmnaa
open Go.RowKit Go.Maps
set_option linter.unusedVariables false

/-- What New returns. -/
def NewP (w : World) (L : List ByteArray) (e : Ending) (w' : World) : Prop :=
  Below w.heap.size w w' ∧ ((newE [] L = 0 ∧ ∃ b S, e = .returned (.tuple #[.pointer (some ⟨b, 0, none⟩), .int .i64 0]) ∧ Tab w' b S L ∧ ∀ k, S k → w.heap.size ≤ k) ∨ (newE [] L ≠ 0 ∧ e = .returned (.tuple #[.pointer none, .int .i64 (newE [] L : Int)])))
theorem newE_step {L : List ByteArray} {k : Nat} (hk : k < L.length) (h : newE [] L = newE (L.take k) (L.drop k)) (he : addE (L.take k) (L.getD k ByteArray.empty) = 0) : newE [] L = newE (L.take (k + 1)) (L.drop (k + 1)) := by
  rw [h, dropS_cons L k hk, newE, if_pos he, ← takeS_snoc L k hk]
theorem newE_stop {L : List ByteArray} {k : Nat} (hk : k < L.length) (h : newE [] L = newE (L.take k) (L.drop k)) (he : addE (L.take k) (L.getD k ByteArray.empty) ≠ 0) : newE [] L = addE (L.take k) (L.getD k ByteArray.empty) := by
  rw [h, dropS_cons L k hk, newE, if_neg he]
theorem newE_end {L : List ByteArray} {k : Nat} (hk : L.length ≤ k) (h : newE [] L = newE (L.take k) (L.drop k)) : newE [] L = 0 := by
  rw [h, List.drop_eq_nil_of_le hk]
  rfl

set_option maxRecDepth 100000 in
set_option maxHeartbeats 2000000 in
theorem new_any (L : List ByteArray) (A : Option Addr) (cap : Nat) (w : World) (hl : L.length ≤ 1000) (hwd : WideS L) (h : StR w A L) :
    Calls Try.prog 14 #[.slice A L.length cap] w fun e w' => NewP w L e w' := by
  obtain ⟨len, hlen⟩ : ∃ n, L.length = n := ⟨_, rfl⟩
  have HL := Lib.hid hlen
  have H := Lib.hid h
  have HW := Lib.hid hwd
  rw [hlen] at hl ⊢
  clear hlen h hwd
  go_enter Try.func14, Try.ntmps14
  go_wp2_with fail
  go_loopw [13] (fun i wr => ∃ (k : Nat) (S : Nat → Prop), k ≤ len ∧ i = .int .i64 (k : Int) ∧ Hid (newE [] L = newE (L.take k) (L.drop k)) ∧ Hid (Tab wr w.heap.size S (L.take k)) ∧ Hid (∀ x, S x → w.heap.size ≤ x) ∧ Below w.heap.size w wr) (fun i _ => len - (intOf i).toNat)
  case atStart => exact ⟨0, _, by omega, rfl, rfl, Tab.made w, Lib.hid (fun x hx => by subst hx; exact Nat.le_refl _), (Below.refl _ _).alloc (Nat.le_refl _) _⟩
  case round =>
    obtain ⟨k, S, hk, rfl, hnew, hT, hS, hB⟩ := hrel
    by_cases hlt : k < len
    · have hkl : k < L.length := by rw [HL.out]; exact hlt
      obtain ⟨b, o, rfl, hbl, hc⟩ := (H.out.below hB) (by omega)
      have c0 := hc k hkl
      have hx := HW.out k hkl
      have HSTEP := Lib.hid (newE_step hkl hnew.out)
      have HSTOP := Lib.hid (newE_stop hkl hnew.out)
      have HSN := Lib.hid (takeS_snoc L k hkl)
      obtain ⟨s, hs⟩ : ∃ s, L.getD k ByteArray.empty = s := ⟨_, rfl⟩
      rw [hs] at hx c0 HSTEP HSTOP HSN
      clear hs hkl hc
      have hltz : (k : Int) < (len : Int) := by omega
      by_cases he : addE (L.take k) s = 0
      · have HE := Lib.hid (HSTEP.out he)
        have HA := Lib.hid (add_ok w.heap.size S (L.take k) s wr hT.out hx he)
        obtain ⟨m, hm⟩ : ∃ m, (L.take k).length = m := ⟨_, rfl⟩
        rw [hm, ← HSN.out] at HA
        clear he hm HSTOP HSTEP
        go_wp2_with fail
        refine HA.out.mono ?_
        rintro e w2 ⟨rfl, S2, hT2, hK2, hS2⟩
        have HT2 := Lib.hid hT2
        have HS2 : Hid (∀ x, S2 x → w.heap.size ≤ x) := Lib.hid (fun x hx => by rcases hS2 x hx with h | h; exact hS.out x h; exact Nat.le_trans hB.size h)
        have hB2 : Below w.heap.size w w2 := hB.trans (hK2.below hS.out hB.size)
        clear hT2 hK2 hS2
        go_wp2_with fail
        go_roundw
        case rel => exact ⟨k + 1, S2, by omega, by go_num, HE, HT2, HS2, hB2⟩
        case measure => simp only [intOf]; omega
      · have HE := Lib.hid (HSTOP.out he)
        have HA := Lib.hid (add_err w.heap.size S (L.take k) s wr hT.out hx he)
        obtain ⟨m, hm⟩ : ∃ m, addE (L.take k) s = m := ⟨_, rfl⟩
        rw [hm] at HA he HE
        have hz : ¬ (m : Int) = 0 := by omega
        have HNZ := Lib.hid he
        clear he hm HSTOP HSTEP
        go_wp2_with fail
        refine HA.out.mono ?_
        rintro e w2 ⟨rfl, rfl⟩
        go_wp2_with fail
        go_ret2
        refine ⟨hB, Or.inr ⟨by rw [HE.out]; exact HNZ.out, ?_⟩⟩
        rw [HE.out]
        rfl
    · have hnlt : ¬ (k : Int) < (len : Int) := by omega
      have HE := Lib.hid (newE_end (by rw [HL.out]; omega) hnew.out)
      have ht : Hid (Tab wr w.heap.size S L) := by
        have := hT.out
        rw [List.take_of_length_le (by rw [HL.out]; omega)] at this
        exact this
      clear hT hnew
      go_wp2_with fail
      go_ret2
      exact ⟨hB, Or.inl ⟨HE.out, w.heap.size, S, rfl, ht.out, hS.out⟩⟩

/-- What the specification's New returns. -/
def RefNewP (w : World) (L : List ByteArray) (e : Ending) (w' : World) : Prop :=
  Below w.heap.size w w' ∧ ((newE [] L = 0 ∧ ∃ v, e = .returned (.tuple #[v, .int .i64 0]) ∧ OwnS w' w.heap.size v L) ∨ (newE [] L ≠ 0 ∧ e = .returned (.tuple #[.slice none 0 0, .int .i64 (newE [] L : Int)])))

set_option maxRecDepth 100000 in
set_option maxHeartbeats 2000000 in
theorem refNew_any (L : List ByteArray) (A : Option Addr) (cap : Nat) (w : World) (hl : L.length ≤ 512) (hwd : WideS L) (h : StR w A L) :
    Calls Try.prog 15 #[.slice A L.length cap] w fun e w' => RefNewP w L e w' := by
  obtain ⟨len, hlen⟩ : ∃ n, L.length = n := ⟨_, rfl⟩
  have HL := Lib.hid hlen
  have H := Lib.hid h
  have HW := Lib.hid hwd
  rw [hlen] at hl ⊢
  clear hlen h hwd
  go_enter Try.func15, Try.ntmps15
  go_wp2_with fail
  go_loopw [4, 5] (fun v i wr => ∃ (k : Nat), k ≤ len ∧ i = .int .i64 (k : Int) ∧ Hid (newE [] L = newE (L.take k) (L.drop k)) ∧ Hid (OwnS wr w.heap.size v (L.take k)) ∧ Below w.heap.size w wr) (fun _ i _ => len - (intOf i).toNat)
  case atStart => exact ⟨0, by omega, rfl, rfl, Lib.hid (OwnS.nil w _), Below.refl _ _⟩
  case round =>
    obtain ⟨k, hk, rfl, hnew, hO, hB⟩ := hrel
    by_cases hlt : k < len
    · have hkl : k < L.length := by rw [HL.out]; exact hlt
      obtain ⟨b, o, rfl, hbl, hc⟩ := (H.out.below hB) (by omega)
      have c0 := hc k hkl
      have hx := HW.out k hkl
      have HSTEP := Lib.hid (newE_step hkl hnew.out)
      have HSTOP := Lib.hid (newE_stop hkl hnew.out)
      have HSN := Lib.hid (takeS_snoc L k hkl)
      obtain ⟨s, hs⟩ : ∃ s, L.getD k ByteArray.empty = s := ⟨_, rfl⟩
      rw [hs] at hx c0 HSTEP HSTOP HSN
      clear hs hc
      have hltz : (k : Int) < (len : Int) := by omega
      obtain ⟨A1, cap1, hv1, hr1, _⟩ := hO.out.form
      have hm : (L.take k).length = k := by rw [List.length_take]; omega
      have hm5 : (L.take k).length ≤ 512 := by omega
      clear hkl
      by_cases he : addE (L.take k) s = 0
      · have HE := Lib.hid (HSTEP.out he)
        have HA := Lib.hid (refAdd_ok (L.take k) s A1 cap1 wr hm5 hr1 hx he)
        rw [hm] at HA hv1
        rw [← HSN.out] at HA
        subst hv1
        clear he hm hm5 HSTOP HSTEP hr1
        go_wp2_with fail
        refine HA.out.mono ?_
        rintro e w2 ⟨v2, rfl, hO2, hB2⟩
        have HO2 : Hid (OwnS w2 w.heap.size v2 (L.take (k + 1))) := Lib.hid (hO2.rebase (fun g hg => Nat.le_trans hB.size (World.ownsRow.lt hO2 g hg).1))
        have hB3 : Below w.heap.size w w2 := hB.trans (hB2.mono hB.size)
        clear hO2 hB2
        go_wp2_with fail
        go_roundw
        case rel => exact ⟨k + 1, by omega, by go_num, HE, HO2, hB3⟩
        case measure => simp only [intOf]; omega
      · have HE := Lib.hid (HSTOP.out he)
        have HA := Lib.hid (refAdd_err (L.take k) s A1 cap1 wr hm5 hr1 hx he)
        obtain ⟨m, hm2⟩ : ∃ m, addE (L.take k) s = m := ⟨_, rfl⟩
        rw [hm2] at HA he HE
        rw [hm] at HA hv1
        subst hv1
        have hz : ¬ (m : Int) = 0 := by omega
        have HNZ := Lib.hid he
        clear he hm hm2 hm5 HSTOP HSTEP hr1
        go_wp2_with fail
        refine HA.out.mono ?_
        rintro e w2 ⟨rfl, hB2⟩
        go_wp2_with fail
        go_ret2
        refine ⟨hB.trans (hB2.mono hB.size), Or.inr ⟨by rw [HE.out]; exact HNZ.out, ?_⟩⟩
        rw [HE.out]
        rfl
    · have hnlt : ¬ (k : Int) < (len : Int) := by omega
      have HE := Lib.hid (newE_end (by rw [HL.out]; omega) hnew.out)
      have ht := hO.out
      rw [List.take_of_length_le (by rw [HL.out]; omega)] at ht
      have HT := Lib.hid ht
      clear hO hnew ht
      go_wp2_with fail
      go_ret2
      exact ⟨hB, Or.inl ⟨HE.out, _, rfl, HT.out⟩⟩
end Go.Proofs.Ytagpkijgednmnaa
