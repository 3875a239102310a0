/-
  The contract of stableCmpFunc and of slices.SortStableFunc over a row of indices, at any number of elements up to 4096: the row comes out in order, equal keys in the order of their indices.
-/
import Derived.Test.YtjgajcabecklcaaDoorNumT
import Derived.Test.YtjgajcabecklcaaDoorNumU
namespace Go.Proofs.YtjgajcabecklcaaDoor
open Go.RowKit
set_option linter.unusedVariables false

theorem cmpN_of (l : List Int) (n : Nat) (w0 : World) (blk g : Nat) (cb : Array Value) (hl : n = l.length) (eg : ∀ args w, (callFunc g args).run Tryd.prog w = .ok (.enter g args) w)
    (h : CmpReads Tryd.prog g cb (encN n) (cfL l n) blk 0 n w0) : CmpN n w0 blk g cb (fun x => l.getD x 0) (cfL l n) := by
  refine ⟨eg, fun x y hx hy => ?_, fun f w S x y hx hy => ?_⟩
  · unfold cfL Lib.compareInt
    rw [Nat.mod_eq_of_lt hx, Nat.mod_eq_of_lt hy]
    split
    · omega
    · split <;> omega
  · obtain ⟨m, os, rfl⟩ := S
    have := h m os (Arr n f) (Arr_size n f) x y
    rw [encN_lt hx, encN_lt hy] at this
    exact this

theorem ins_any (n : Nat) (w0 : World) (blk cap gf : Nat) (cb : Array Value) (k : Nat → Int) (cf : Nat → Nat → Int) (C : CmpN n w0 blk gf cb k cf) (hcmp : CmpReads Tryd.prog gf cb (encN n) cf blk 0 n w0) (R : RowN n w0 blk) (hn : n ≤ 4096)
    (f : Nat → Nat) (w : World) (S : St n w0 blk f w) (hv : In n f) (a b : Nat) (hab : a ≤ b) (hb : b ≤ n) (hid : ∀ x, a ≤ x → x < b → f x = x) :
    Calls Tryd.prog 81 #[.slice (some ⟨blk, 0, none⟩) n cap, .int .i64 a, .int .i64 b, .func (.func gf) #[] cb] w fun e w' => e = .returned (.tuple #[]) ∧ ∃ g, Blk k g a b ∧ Same f g a b ∧ St n w0 blk g w' := by
  obtain ⟨g, h1, h2, h3⟩ := ins_plain n k cf C.says a b hb f hv hid
  have h := Any.insertionSortCmpFunc_s Tryd.laysSlF20_f81 (encN n) cf gf cb blk 0 cap a b (Arr n fun x => x) (Arr n f) w0 w C.eg
    (by rw [Arr_size]; exact hcmp.lays) R (by rw [Arr_size, Arr_size]) S hab (by rw [Arr_size]; exact hb) (by rw [Arr_size]; omega)
  rw [h1, Arr_size] at h
  exact h.mono fun e w' ⟨he, hS⟩ => ⟨he, g, blk_of_ins h2 h3 hid, h3, hS⟩

set_option maxRecDepth 100000 in
set_option maxHeartbeats 8000000 in
theorem stable_any (n : Nat) (w0 : World) (blk cap gf : Nat) (cb : Array Value) (k : Nat → Int) (cf : Nat → Nat → Int) (C : CmpN n w0 blk gf cb k cf) (hcmp : CmpReads Tryd.prog gf cb (encN n) cf blk 0 n w0) (R : RowN n w0 blk) (hn : n ≤ 4096)
    (w : World) (S : St n w0 blk (fun x => x) w) :
    Calls Tryd.prog 64 #[.slice (some ⟨blk, 0, none⟩) n cap, .int .i64 n, .func (.func gf) #[] cb] w fun e w' => e = .returned (.tuple #[]) ∧ ∃ g, Srt k g 0 n ∧ Same (fun x => x) g 0 n ∧ St n w0 blk g w' := by
  have inOf : ∀ f, Same (fun x => x) f 0 n → In n f := fun f h => In.same (fun x hx => hx) h (Nat.le_refl _)
  have HIN := Lib.hid inOf
  have HSYM := Lib.hid (symMerge_any n w0 blk cap gf cb k cf C R hn)
  have HINS := Lib.hid (ins_any n w0 blk cap gf cb k cf C hcmp R hn)
  have HS := Lib.hid S
  clear C hcmp R S inOf
  go_enter Tryd.func64, Tryd.ntmps64
  go_wp2_with fail
  go_loopw [7, 8] (fun va vb wr => ∃ (t c : Nat) (f : Nat → Nat), va = .int .i64 t ∧ vb = .int .i64 c ∧ c ≤ t + 20 ∧ t + 20 ≤ c ∧ t ≤ n ∧ Hid (Pre k f 20 n t) ∧ Hid (∀ x, t ≤ x → x < n → f x = x) ∧ Hid (Same (fun x => x) f 0 n) ∧ Hid (St n w0 blk f wr)) (fun va _ _ => ((n : Int) - intOf va).toNat)
  case atStart => exact ⟨0, 20, fun x => x, rfl, rfl, by omega, by omega, by omega, Lib.hid .zero, Lib.hid (fun _ _ _ => rfl), Lib.hid (Same.refl _ _ _), HS⟩
  case round =>
    obtain ⟨t, c, f, rfl, rfl, hc1, hc2, htn, HP, HID, HSM, HST⟩ := hrel
    by_cases hcn : c ≤ n
    · have hcz : (c : Int) ≤ (n : Int) := by omega
      have hi := HINS.out f wr HST.out (HIN.out f HSM.out) t c (by omega) hcn (fun x c1 c2 => HID.out x c1 (by omega))
      have HI := Lib.hid hi
      clear hi
      go_wp2_with fail
      refine HI.out.mono ?_
      rintro e w2 ⟨rfl, g, hb, hsm, hst⟩
      have HP2 : Hid (Pre k g 20 n c) := Lib.hid (by
        have e1 : c = t + 20 := by omega
        rw [e1]
        rw [e1] at hb hsm hcn
        exact .more (HP.out.congr fun x hx => hsm.out x (Or.inl hx)) hcn hb)
      have HID2 : Hid (∀ x, c ≤ x → x < n → g x = x) := Lib.hid fun x c1 c2 => by
        rw [hsm.out x (Or.inr c1)]
        exact HID.out x (by omega) c2
      have HSM2 : Hid (Same (fun x => x) g 0 n) := Lib.hid (HSM.out.trans (hsm.wide (Nat.zero_le _) hcn))
      have HST2 := Lib.hid hst
      clear hb hsm hst HI HP HID HSM HST
      go_wp2
      go_roundw
      case rel => exact ⟨c, c + 20, g, rfl, val_int' (by omega), by omega, by omega, hcn, HP2, HID2, HSM2, HST2⟩
      case measure => simp only [intOf]; omega
    · have hcz : ¬ (c : Int) ≤ (n : Int) := by omega
      have hi := HINS.out f wr HST.out (HIN.out f HSM.out) t n htn (Nat.le_refl _) HID.out
      have HI := Lib.hid hi
      clear hi
      go_wp2_with fail
      refine HI.out.mono ?_
      rintro e w2 ⟨rfl, g, hb, hsm, hst⟩
      have HB : Hid (Blks k g 20 n 0) := Lib.hid ((HP.out.congr (g := g) fun x hx => hsm.out x (Or.inl hx)).join (by omega) (Blks.one hb (by omega)))
      have HSM2 : Hid (Same (fun x => x) g 0 n) := Lib.hid (HSM.out.trans (hsm.wide (Nat.zero_le _) (Nat.le_refl _)))
      have HST2 := Lib.hid hst
      clear hb hsm hst HI HP HID HSM HST
      go_wp2_with fail
      go_loopw [6, 7, 8, 9] (fun vs va vb vm wr => ∃ (bs : Nat) (f : Nat → Nat), vs = .int .i64 bs ∧ 20 ≤ bs ∧ Hid (Blks k f bs n 0) ∧ Hid (Same (fun x => x) f 0 n) ∧ Hid (St n w0 blk f wr)) (fun vs _ _ _ _ => ((n : Int) - intOf vs).toNat)
      case atStart => exact ⟨20, g, rfl, Nat.le_refl _, HB, HSM2, HST2⟩
      case round =>
        clear HB HSM2 HST2
        obtain ⟨bs, f1, rfl, hbs, HB, HSM, HST⟩ := hrel
        by_cases hbn : bs < n
        · have hbz : (bs : Int) < (n : Int) := by omega
          obtain ⟨b2, hb2⟩ : ∃ q, 2 * bs = q := ⟨_, rfl⟩
          have z2 : (2 : Int) * (bs : Int) = (b2 : Int) := by omega
          have g1 : b2 ≤ bs + bs := by omega
          have g2 : bs + bs ≤ b2 := by omega
          clear hb2
          go_wp2_with fail
          go_loopw [7, 8] (fun va vb wr => ∃ (t c : Nat) (f : Nat → Nat), va = .int .i64 t ∧ vb = .int .i64 c ∧ c ≤ t + b2 ∧ t + b2 ≤ c ∧ t ≤ n ∧ Hid (Pre k f b2 n t) ∧ Hid (Blks k f bs n t) ∧ Hid (Same (fun x => x) f 0 n) ∧ Hid (St n w0 blk f wr)) (fun va _ _ => ((n : Int) - intOf va).toNat)
          case atStart => exact ⟨0, b2, f1, rfl, rfl, by omega, by omega, by omega, Lib.hid .zero, HB, HSM, HST⟩
          case round =>
            clear HB HSM HST
            obtain ⟨t, c, f, rfl, rfl, hc1, hc2, htn, HP, HB, HSM, HST⟩ := hrel
            obtain ⟨m, hm⟩ : ∃ q, t + bs = q := ⟨_, rfl⟩
            have zm : (t : Int) + (bs : Int) = (m : Int) := by omega
            by_cases hcn : c ≤ n
            · have hcz : (c : Int) ≤ (n : Int) := by omega
              obtain ⟨p1, p2, p3⟩ := HB.out.two (by omega) hm (show m + bs = c by omega) hcn
              have hi := HSYM.out (c - t + 1) f wr t m c (by omega) (by omega) (by omega) hcn HST.out (HIN.out f HSM.out) p1.1 p2.1 (p1.low p2)
              have HI := Lib.hid hi
              have HP1 := Lib.hid p1
              have HP2 := Lib.hid p2
              have HP3 := Lib.hid p3
              have HM := Lib.hid hm
              clear hi p1 p2 p3 hm
              go_wp2_with fail
              refine HI.out.mono ?_
              rintro e w3 ⟨rfl, g, hmg, hst⟩
              have HPN : Hid (Pre k g b2 n c) := Lib.hid (by
                have e1 : c = t + b2 := by omega
                have hblk : Blk k g t c := HP1.out.join HP2.out (by have := HM.out; omega) (by have := HM.out; omega) hmg
                rw [e1] at hblk hcn ⊢
                exact .more (HP.out.congr fun x hx => hmg.2.out x (Or.inl hx)) hcn hblk)
              have HBN : Hid (Blks k g bs n c) := Lib.hid (HP3.out.congr fun x c1 c2 => hmg.2.out x (Or.inr c1))
              have HSMN : Hid (Same (fun x => x) g 0 n) := Lib.hid (HSM.out.trans (hmg.2.wide (Nat.zero_le _) hcn))
              have HSTN := Lib.hid hst
              clear hmg hst HI HP HB HSM HST HP1 HP2 HP3 HM
              go_wp2
              go_roundw
              case rel => exact ⟨c, c + b2, g, rfl, val_int' (by omega), by omega, by omega, hcn, HPN, HBN, HSMN, HSTN⟩
              case measure => simp only [intOf]; omega
            · have hcz : ¬ (c : Int) ≤ (n : Int) := by omega
              by_cases hmn : m < n
              · have hmz : (m : Int) < (n : Int) := by omega
                obtain ⟨p1, p2⟩ := HB.out.last (by omega) hm hmn (by omega)
                have hi := HSYM.out (n - t + 1) f wr t m n (by omega) (by omega) hmn (Nat.le_refl _) HST.out (HIN.out f HSM.out) p1.1 p2.1 (p1.low p2)
                have HI := Lib.hid hi
                have HP1 := Lib.hid p1
                have HP2 := Lib.hid p2
                have HM := Lib.hid hm
                clear hi p1 p2 hm
                go_wp2_with fail
                refine HI.out.mono ?_
                rintro e w3 ⟨rfl, g, hmg, hst⟩
                have HBN : Hid (Blks k g b2 n 0) := Lib.hid ((HP.out.congr (g := g) fun x hx => hmg.2.out x (Or.inl hx)).join (by omega)
                  (Blks.one (HP1.out.join HP2.out (by have := HM.out; omega) (by omega) hmg) (by omega)))
                have HSMN : Hid (Same (fun x => x) g 0 n) := Lib.hid (HSM.out.trans (hmg.2.wide (Nat.zero_le _) (Nat.le_refl _)))
                have HSTN := Lib.hid hst
                clear hmg hst HI HP HB HSM HST HP1 HP2 HM
                go_wp2
                go_roundw
                case rel => exact ⟨b2, g, by first | rfl | exact val_int' (by omega), by omega, HBN, HSMN, HSTN⟩
                case measure => simp only [intOf]; omega
              · have hmz : ¬ (m : Int) < (n : Int) := by omega
                have HBN : Hid (Blks k f b2 n 0) := Lib.hid (HP.out.join (by omega) (by
                  by_cases c1 : t < n
                  · obtain ⟨p1, _⟩ := HB.out.split c1
                    rw [Nat.min_eq_right (by omega)] at p1
                    exact Blks.one p1 (by omega)
                  · exact .done (by omega)))
                clear HP HB hm
                go_wp2
                go_roundw
                case rel => exact ⟨b2, f, by first | rfl | exact val_int' (by omega), by omega, HBN, HSM, HST⟩
                case measure => simp only [intOf]; omega
        · have hbz : ¬ (bs : Int) < (n : Int) := by omega
          go_wp2
          go_end0
          exact ⟨rfl, f1, HB.out.whole (by omega), HSM.out, HST.out⟩

theorem sorted_unique (k : Nat → Int) (n : Nat) (g1 g2 : Nat → Nat) (s1 : Srt k g1 0 n) (s2 : Srt k g2 0 n) (m1 : Same (fun x => x) g1 0 n) (m2 : Same (fun x => x) g2 0 n) : ∀ i, i < n → g1 i = g2 i := by
  have irr : ∀ x, ¬ bef k x x := fun x h => by unfold bef at h; omega
  have H : ∀ c i, i < c → i < n → g1 i = g2 i := by
    intro c
    induction c with
    | zero => intro i h; omega
    | succ c ih =>
      intro i hc hi
      by_cases h : i < c
      · exact ih i h hi
      · obtain ⟨y, _, hy, ey⟩ := m1.of i (Nat.zero_le _) hi
        obtain ⟨j, _, hj, ej⟩ := m2.all y (Nat.zero_le _) hy
        obtain ⟨y', _, hy', ey'⟩ := m2.of i (Nat.zero_le _) hi
        obtain ⟨j', _, hj', ej'⟩ := m1.all y' (Nat.zero_le _) hy'
        have e1 : g2 j = g1 i := ej.trans ey.symm
        have e2 : g1 j' = g2 i := ej'.trans ey'.symm
        by_cases c1 : j < i
        · have := s1 j i (Nat.zero_le _) c1 hi
          rw [ih j (by omega) hj, e1] at this
          exact absurd this (irr _)
        · by_cases c2 : j = i
          · rw [c2] at e1; exact e1.symm
          · have b1 := s2 i j (Nat.zero_le _) (by omega) hj
            rw [e1] at b1
            by_cases c3 : j' < i
            · have := s2 j' i (Nat.zero_le _) c3 hi
              rw [← ih j' (by omega) hj', e2] at this
              exact absurd this (irr _)
            · by_cases c4 : j' = i
              · rw [c4] at e2; exact e2
              · have b2 := s1 i j' (Nat.zero_le _) (by omega) hj'
                rw [e2] at b2
                exact absurd (b1.trans b2) (irr _)
  exact fun i hi => H (i + 1) i (Nat.lt_succ_self _) hi

theorem range_arr (n : Nat) : Array.range n = Arr n fun x => x := by
  apply Array.ext
  · simp [Arr_size]
  · intro i h1 h2
    simp [Arr]

/-- The library's stable sort, at the remainders l: the indices in order. -/
theorem sorts_any (l : List Int) (hl : l.length ≤ 4096) :
    ∃ g, SortsAs l (Arr l.length g) ∧ Srt (fun x => l.getD x 0) g 0 l.length ∧ Same (fun x => x) g 0 l.length := by
  have hsays : ∀ x y, x < l.length → y < l.length → (cfL l l.length x y < 0 ↔ l.getD y 0 < l.getD x 0) := fun x y hx hy => by
    unfold cfL Lib.compareInt
    rw [Nat.mod_eq_of_lt hx, Nat.mod_eq_of_lt hy]
    split
    · omega
    · split <;> omega
  obtain ⟨g0, _, hS0, hM0⟩ := ins_plain l.length (fun x => l.getD x 0) (cfL l l.length) hsays 0 l.length (Nat.le_refl _) (fun x => x) (fun x h => h) (fun _ _ _ => rfl)
  refine ⟨g0, ⟨Arr_size _ _, fun k hk => ?_, fun w blk cap g cb eg hcmp hH hblk => ?_⟩, hS0, hM0⟩
  · rw [Arr_size] at hk
    rw [Arr_get _ _ _ hk]
    exact In.same (fun x hx => hx) hM0 (Nat.le_refl _) k hk
  · have R : RowN l.length w blk := ⟨encN_one _, by rw [← range_arr]; exact hH, hblk⟩
    have hst := stable_any l.length w blk cap g cb (fun x => l.getD x 0) (cfL l l.length) (cmpN_of l l.length w blk g cb rfl eg hcmp) hcmp R hl w (SW.start (by rw [← range_arr]; exact hH))
    have hst2 : Calls Tryd.prog 64 #[.slice (some ⟨blk, 0, none⟩) l.length cap, .int .i64 l.length, .func (.func g) #[] cb] w fun e w' => e = .returned (.tuple #[]) ∧ St l.length w blk g0 w' :=
      hst.mono fun e w' ⟨he, g', h1, h2, h3⟩ => ⟨he, by
        have e2 : Arr l.length g' = Arr l.length g0 := Arr_congr _ _ _ (sorted_unique _ _ g' g0 h1 hS0 h2 hM0)
        show SW _ _ _ _ (Arr l.length g0) _
        rw [← e2]
        exact h3⟩
    have HST := Lib.hid hst2
    obtain ⟨n, hn⟩ : ∃ n, l.length = n := ⟨_, rfl⟩
    rw [hn] at HST ⊢
    clear hst hst2 hcmp hH hsays hS0 hM0 R
    go_enter Tryd.func48, Tryd.ntmps48
    go_wp2_with fail
    refine HST.out.mono ?_
    rintro e w' ⟨rfl, h⟩
    go_wp2_with fail
    go_end0
    exact ⟨rfl, h⟩
end Go.Proofs.YtjgajcabecklcaaDoor
