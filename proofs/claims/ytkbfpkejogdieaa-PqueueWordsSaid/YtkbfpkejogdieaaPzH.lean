/-
  The contracts of Peek and Pop, for strings. Condition: at most 100000 pushes.
-/
import Derived.Test.YtkbfpkejogdieaaPzG
namespace Go.Proofs.Ytkbfpkejogdieaa
open Go.RowKit
set_option linter.unusedVariables false

set_option maxRecDepth 100000 in
set_option maxHeartbeats 2000000 in
theorem peek_some_z (b : Nat) (S : Nat → Prop) (dn : Bool) (N : Nat) (x : ByteArray) (V : List ByteArray) (w : World) (H : QRZ w b S dn N (x :: V)) (hN : N ≤ 100000) :
    Calls Try.prog 34 #[.pointer (some ⟨b, 0, none⟩)] w fun e w' => e = .returned (.tuple #[.string x, .bool true]) ∧ w = w' := by
  have HL := Lib.hid (len_z b S dn N (V.length + 1) (x :: V) w H rfl)
  obtain ⟨v, n, h, c1, hv, hvb, hA, hnN⟩ := H.ex
  have hl := hA.len
  rw [List.length_cons] at hl
  obtain ⟨m, rfl⟩ : ∃ m, n = m + 1 := ⟨V.length, by omega⟩
  obtain ⟨V', hV'⟩ := hA.first
  have hx := (List.cons.inj hV').1
  rcases hv with ⟨_, h0⟩ | ⟨g, cap, rfl, hp⟩
  · omega
  obtain ⟨a0, _⟩ := hp.cell (show 0 < m + 1 by omega)
  rw [← hx] at a0
  simp only [Nat.zero_mul] at a0
  have hml : m = V.length := by omega
  subst hml
  obtain ⟨m, hm⟩ : ∃ m, V.length = m := ⟨_, rfl⟩
  rw [hm] at HL c1 hnN
  have hz : (0 : Int) < (m : Int) + 1 := by omega
  have hz2 : ¬ (m : Int) + 1 = 0 := by omega
  clear H hA hp hvb hx hV' hl hm
  go_enter Try.func34, Try.ntmps34
  go_wp2_with fail
  refine HL.out.mono ?_
  rintro e w1 ⟨rfl, rfl⟩
  go_wp2_with fail
  go_ret2
  exact ⟨rfl, rfl⟩

set_option maxRecDepth 100000 in
set_option maxHeartbeats 2000000 in
theorem pop_some_z (b : Nat) (S : Nat → Prop) (dn : Bool) (N : Nat) (x : ByteArray) (V : List ByteArray) (w : World) (H : QRZ w b S dn N (x :: V)) (hN : N ≤ 100000) :
    Calls Try.prog 27 #[.pointer (some ⟨b, 0, none⟩)] w fun e w' => e = .returned (.tuple #[.string x, .bool true]) ∧ QRZ w' b S dn N V ∧ Keep S w w' := by
  have HL := Lib.hid (peek_some_z b S dn N x V w H hN)
  have hbw : b < w.heap.size := H.lt b H.sb
  have HH := Lib.hid H
  obtain ⟨v, n, h, c1, hv, hvb, hA, hnN⟩ := H.ex
  have hl := hA.len
  rw [List.length_cons] at hl
  obtain ⟨m, rfl⟩ : ∃ m, n = m + 1 := ⟨V.length, by omega⟩
  rcases hv with ⟨_, h0⟩ | ⟨g, cap, rfl, hp⟩
  · omega
  obtain ⟨hSg, hgb⟩ := hvb g rfl
  have hmc := hp.1
  have HP := Lib.hid hp
  have HA := Lib.hid hA
  have HC1 := Lib.hid c1
  have HF1 := Lib.hid H.f1
  have hgw := hp.lt
  have hmz : (m : Int) ≤ (cap : Int) := by omega
  clear H hvb hA hl hp
  go_enter Try.func27, Try.ntmps27
  go_wp2_with fail
  refine HL.out.mono ?_
  rintro e w2 ⟨rfl, rfl⟩
  have hp2 := HP.out
  obtain ⟨i0, i2⟩ := hp2.cell (show m < m + 1 by omega)
  obtain ⟨j0, j2⟩ := hp2.cell (show 0 < m + 1 by omega)
  have j3 := hp2.frozen 0
  have j4 := hp2.frozen 1
  simp only [Nat.zero_mul, Nat.zero_add] at j0 j2
  have hp3 : HpRZ (putZ w g 0 (h m)).drew g (m + 1) cap (fun t => if t = 0 then h m else h t) := (hp2.put (h m) (by omega) hmc fun t ht => by
    by_cases e : t = 0
    · simp [e]
    · simp [e]; omega).drew
  have k3 : Keep (fun k => k = g) w (putZ w g 0 (h m)).drew := ((Keep.refl (fun k => k = g) w).putZ g 0 (h m) rfl).drew
  simp only [putZ, Nat.zero_mul, Nat.zero_add] at hp3 k3
  have HP3 := Lib.hid hp3
  have K3 := Lib.hid k3
  obtain ⟨y, hy⟩ : ∃ y, h m = y := ⟨_, rfl⟩
  rw [hy] at i0 i2 K3
  have HY := Lib.hid hy
  obtain ⟨y0, y2⟩ := y
  simp only at i0 i2 K3
  rw [hy] at HP3
  clear hp2 hp3 k3 hy HL
  go_wp2_with fail
  go_region
  obtain ⟨w3, h3⟩ : ∃ w3, ((w.setCell ⟨g, 0, none⟩ (.string y0)).setCell ⟨g, 1, none⟩ (.int .i64 (y2 : Int))).drew = w3 := ⟨_, rfl⟩
  rw [h3]
  rw [h3] at HP3 K3
  clear i0 i2 j0 j2 j3 j4 c1 h3
  have hgb' : ¬ b = g := fun e => hgb e.symm
  have c3 : w3.cell? ⟨b, 1, none⟩ = some (.slice (some ⟨g, 0, none⟩) (m + 1) cap) := by rw [K3.out.cell (p := ⟨b, 1, none⟩) hbw hgb']; exact HC1.out
  have f3 : w3.frozen? ⟨b, 1, none⟩ = false := by
    rw [K3.out.frozen (p := ⟨b, 1, none⟩) hbw hgb']; exact HF1.out
  have hb3 : b < w3.heap.size := Nat.lt_of_lt_of_le hbw K3.out.size
  obtain ⟨i0, i2⟩ := HP3.out.cell (show m < m + 1 by omega)
  have i3 := HP3.out.frozen (m * 2)
  have i4 := HP3.out.frozen (m * 2 + 1)
  go_wp2_with fail
  have hp5 := HP3.out.put (m := m) (ByteArray.mk #[], 0) (show m < cap by omega) (by omega) (h' := fun t => if t = 0 then (y0, y2) else h t) (fun t ht => by rw [if_neg (show t ≠ m by omega)]; exact ⟨by omega, rfl⟩)
  have k5 : Keep (fun k => k = g ∨ k = b) w3 ((putZ w3 g m (ByteArray.mk #[], 0)).setCell ⟨b, 1, none⟩ (.slice (some ⟨g, 0, none⟩) m cap)) := ((Keep.refl (fun k => k = g ∨ k = b) w3).putZ g m (ByteArray.mk #[], 0) (Or.inl rfl)).set _ _ (Or.inr rfl)
  have hp6 : HpRZ ((putZ w3 g m (ByteArray.mk #[], 0)).setCell ⟨b, 1, none⟩ (.slice (some ⟨g, 0, none⟩) m cap)) g m cap (fun t => if t = 0 then (y0, y2) else h t) := hp5.keep ((Keep.refl (fun k => k = b) _).set _ _ rfl) (fun e => hgb e)
  have c5 : ((putZ w3 g m (ByteArray.mk #[], 0)).setCell ⟨b, 1, none⟩ (.slice (some ⟨g, 0, none⟩) m cap)).cell? ⟨b, 1, none⟩ = some (.slice (some ⟨g, 0, none⟩) m cap) := World.cell?_setCell_same _ _ _ (by rw [((Keep.refl (fun k => k = g) w3).putZ g m (ByteArray.mk #[], 0) rfl).cell (p := ⟨b, 1, none⟩) hb3 hgb']; exact c3)
  simp only [putZ] at k5 hp6 c5
  obtain ⟨w5, h5⟩ : ∃ w5, ((w3.setCell ⟨g, m * 2, none⟩ (.string (ByteArray.mk #[]))).setCell ⟨g, m * 2 + 1, none⟩ (.int .i64 0)).setCell ⟨b, 1, none⟩ (.slice (some ⟨g, 0, none⟩) m cap) = w5 := ⟨_, rfl⟩
  have ez : (((0 : Nat) : Int)) = 0 := rfl
  rw [ez, h5] at k5 hp6 c5
  rw [h5]
  have K5 := Lib.hid k5
  have HP6 := Lib.hid hp6
  have c50 : w5.cell? ⟨b, 0, none⟩ = some (.func (.func (lessZ dn)) #[] #[]) := by
    rw [← h5, World.cell?_setCell_other _ _ _ _ (by simp), World.cell?_setCell_other _ _ _ _ (by simp <;> omega), World.cell?_setCell_other _ _ _ _ (by simp <;> omega), K3.out.cell (p := ⟨b, 0, none⟩) hbw hgb']
    exact HH.out.c0
  have c52 : w5.cell? ⟨b, 2, none⟩ = some (.int .i64 (N : Int)) := by
    rw [← h5, World.cell?_setCell_other _ _ _ _ (by simp), World.cell?_setCell_other _ _ _ _ (by simp <;> omega), World.cell?_setCell_other _ _ _ _ (by simp <;> omega), K3.out.cell (p := ⟨b, 2, none⟩) hbw hgb']
    exact HH.out.c2
  have f51 : w5.frozen? ⟨b, 1, none⟩ = false := by
    rw [← h5]; simp only [World.frozen?_setCell]; exact f3
  have f52 : w5.frozen? ⟨b, 2, none⟩ = false := by
    rw [← h5]; simp only [World.frozen?_setCell]
    rw [K3.out.frozen (p := ⟨b, 2, none⟩) hbw hgb']
    exact HH.out.f2
  have b5 : BlkC w5 b := by
    rw [← h5]
    exact (((HH.out.blk.keep K3.out hgb').set _ _ _).set _ _ _).set _ _ _
  have H5 := Lib.hid (And.intro c50 (And.intro c5 (And.intro c52 (And.intro f51 (And.intro f52 b5)))))
  have hb5 : b < w5.heap.size := Nat.lt_of_lt_of_le hb3 k5.size
  clear k5 hp5 hp6 i0 i2 i3 i4 c3 f3 c52 f51 f52 b5 h5 ez
  refine (sink_z dn b g m cap _ w5 c50 c5 HP6.out (by omega) hgb' (Down.start HA.out.heap (fun t h0 ht => if_neg (by omega)))).mono ?_
  rintro e w6 ⟨rfl, h', p1, p2, p3, p4⟩
  have HQ6 : Hid (QRZ w6 b S dn N V) := Lib.hid (by
    obtain ⟨V', e1, e2⟩ := HA.out.pop (h1 := fun t => if t = 0 then (y0, y2) else h t) (by rw [if_pos rfl]; exact HY.out.symm) (fun t h0 _ => if_neg (by omega))
    have e3 := (List.cons.inj e1).2
    subst e3
    obtain ⟨d0, d1, d2, d3, d4, d5⟩ := H5.out
    refine ⟨HH.out.sb, fun k e => ?_, ?_, ?_, ?_, ?_, d5.keep p4 hgb', .slice (some ⟨g, 0, none⟩) m cap, m, h', ?_, Or.inr ⟨g, cap, rfl, p1.out⟩, fun k e => ?_, e2 h' p2.out p3.out, by omega⟩
    · exact Nat.lt_of_lt_of_le (HH.out.lt k e) (Nat.le_trans K3.out.size (Nat.le_trans K5.out.size p4.size))
    · rw [p4.cell (p := ⟨b, 0, none⟩) hb5 hgb']; exact d0
    · rw [p4.frozen (p := ⟨b, 1, none⟩) hb5 hgb']; exact d3
    · rw [p4.cell (p := ⟨b, 2, none⟩) hb5 hgb']; exact d2
    · rw [p4.frozen (p := ⟨b, 2, none⟩) hb5 hgb']; exact d4
    · rw [p4.cell (p := ⟨b, 1, none⟩) hb5 hgb']; exact d1
    · simp [Value.ownBlock] at e
      subst e
      exact ⟨hSg, hgb⟩)
  have HK6 : Hid (Keep S w w6) := Lib.hid (((K3.out.mono (fun k e => by subst e; exact hSg)).step (K5.out.mono (fun k e => by rcases e with rfl | rfl; exact hSg; exact HH.out.sb))).step (p4.mono (fun k e => by subst e; exact hSg)))
  clear p1 p2 p3 p4 c50 c5
  go_wp2_with fail
  go_ret2
  exact ⟨rfl, HQ6.out, HK6.out⟩
end Go.Proofs.Ytkbfpkejogdieaa
