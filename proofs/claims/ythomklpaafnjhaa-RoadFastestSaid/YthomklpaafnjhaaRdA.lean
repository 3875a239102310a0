/-
  Rows of three numbers, of integers in memory; the contracts of isNode and Check, and the specification's. Condition: at most 600 edges.
-/
import Derived.Test.YthomklpaafnjhaaRdDj
import Derived.Test.YthomklpaafnjhaaReI
import Derived.Deep.Upon
namespace Go.Proofs.Ythomklpaafnjhaa
open Go.RowKit
set_option linter.unusedVariables false

/-- A slice at address A reads as the triples l. -/
def EdR (w : World) (A : Option Addr) (l : List Ed) : Prop := 0 < l.length → ∃ b o, A = some ⟨b, o, none⟩ ∧ b < w.heap.size ∧
  ∀ k, k < l.length → w.cell? ⟨b, o + k * 3, none⟩ = some (.int .i64 (l.getD k ed0).f) ∧ w.cell? ⟨b, o + k * 3 + 1, none⟩ = some (.int .i64 (l.getD k ed0).t) ∧ w.cell? ⟨b, o + k * 3 + 2, none⟩ = some (.int .i64 (l.getD k ed0).s)
theorem EdR.keep {w w' : World} {A : Option Addr} {l : List Ed} {S : Nat → Prop} (h : EdR w A l) (hk : Keep S w w') (hS : ∀ a, A = some a → ¬ S a.block) : EdR w' A l := fun hl => by
  obtain ⟨b, o, rfl, hlt, hc⟩ := h hl
  have hn := hS _ rfl
  refine ⟨b, o, rfl, Nat.lt_of_lt_of_le hlt hk.size, fun k hk2 => ?_⟩
  rw [hk.cell (p := ⟨b, o + k * 3, none⟩) hlt hn, hk.cell (p := ⟨b, o + k * 3 + 1, none⟩) hlt hn, hk.cell (p := ⟨b, o + k * 3 + 2, none⟩) hlt hn]
  exact hc k hk2
theorem EdR.below {w w' : World} {A : Option Addr} {l : List Ed} (h : EdR w A l) (hb : Below w.heap.size w w') : EdR w' A l := h.keep (Keep.ofBelow (S := fun _ => False) hb) (fun _ _ e => e)
theorem EdR.nil (w : World) (A : Option Addr) : EdR w A [] := fun h => absurd h (Nat.lt_irrefl _)
def WideE (l : List Ed) : Prop := ∀ k, k < l.length → (-9223372036854775808 ≤ (l.getD k ed0).f ∧ (l.getD k ed0).f ≤ 9223372036854775807) ∧ (-9223372036854775808 ≤ (l.getD k ed0).t ∧ (l.getD k ed0).t ≤ 9223372036854775807) ∧ (-9223372036854775808 ≤ (l.getD k ed0).s ∧ (l.getD k ed0).s ≤ 9223372036854775807)
/-- A slice at address A reads as the integers l. -/
def IntR (w : World) (A : Option Addr) (l : List Int) : Prop := 0 < l.length → ∃ b o, A = some ⟨b, o, none⟩ ∧ b < w.heap.size ∧ ∀ k, k < l.length → w.cell? ⟨b, o + k, none⟩ = some (.int .i64 (l.getD k 0))
def WideI (l : List Int) : Prop := ∀ k, k < l.length → -9223372036854775808 ≤ l.getD k 0 ∧ l.getD k 0 ≤ 9223372036854775807
theorem IntR.keep {w w' : World} {A : Option Addr} {l : List Int} {S : Nat → Prop} (h : IntR w A l) (hk : Keep S w w') (hS : ∀ a, A = some a → ¬ S a.block) : IntR w' A l := fun hl => by
  obtain ⟨b, o, rfl, hlt, hc⟩ := h hl
  have hn := hS _ rfl
  refine ⟨b, o, rfl, Nat.lt_of_lt_of_le hlt hk.size, fun k hk2 => ?_⟩
  rw [hk.cell (p := ⟨b, o + k, none⟩) hlt hn]
  exact hc k hk2
theorem IntR.below {w w' : World} {A : Option Addr} {l : List Int} (h : IntR w A l) (hb : Below w.heap.size w w') : IntR w' A l := h.keep (Keep.ofBelow (S := fun _ => False) hb) (fun _ _ e => e)
theorem IntR.nil (w : World) (A : Option Addr) : IntR w A [] := fun h => absurd h (Nat.lt_irrefl _)
/-- A network in a block of its own. -/
structure BoxR (w : World) (b : Nat) (n : Int) (A : Option Addr) (m c : Nat) : Prop where
  c0 : w.cell? ⟨b, 0, none⟩ = some (.int .i64 n)
  c1 : w.cell? ⟨b, 1, none⟩ = some (.slice A m c)
theorem BoxR.lt {w : World} {b : Nat} {n : Int} {A : Option Addr} {m c : Nat} (h : BoxR w b n A m c) : b < w.heap.size := World.block_lt_of_cell? _ _ h.c0
theorem BoxR.keep {w w' : World} {b : Nat} {n : Int} {A : Option Addr} {m c : Nat} {S : Nat → Prop} (h : BoxR w b n A m c) (hk : Keep S w w') (hS : ¬ S b) : BoxR w' b n A m c := by
  have hlt := h.lt
  refine ⟨?_, ?_⟩
  · rw [hk.cell (p := ⟨b, 0, none⟩) hlt hS]; exact h.c0
  · rw [hk.cell (p := ⟨b, 1, none⟩) hlt hS]; exact h.c1
theorem BoxR.below {w w' : World} {b : Nat} {n : Int} {A : Option Addr} {m c : Nat} (h : BoxR w b n A m c) (hb : Below w.heap.size w w') : BoxR w' b n A m c := h.keep (Keep.ofBelow (S := fun _ => False) hb) (fun e => e)
theorem BoxR.made (w : World) (n : Int) (A : Option Addr) (m c : Nat) (t : TypeId) : BoxR (w.alloc (.cells #[.int .i64 n, .slice A m c] t)) w.heap.size n A m c :=
  ⟨by rw [World.cell?_alloc_new]; rfl, by rw [World.cell?_alloc_new]; rfl⟩
theorem below_alloc (w : World) (o : Obj) : Below w.heap.size w (w.alloc o) := (Below.refl _ _).alloc (Nat.le_refl _) _
/-- A triple in a block of its own. -/
structure TriR (w : World) (b : Nat) (x : Ed) : Prop where
  c0 : w.cell? ⟨b, 0, none⟩ = some (.int .i64 x.f)
  c1 : w.cell? ⟨b, 1, none⟩ = some (.int .i64 x.t)
  c2 : w.cell? ⟨b, 2, none⟩ = some (.int .i64 x.s)
theorem TriR.keep {w w' : World} {b : Nat} {x : Ed} {S : Nat → Prop} (h : TriR w b x) (hk : Keep S w w') (hS : ¬ S b) : TriR w' b x := by
  have hlt : b < w.heap.size := World.block_lt_of_cell? _ _ h.c0
  refine ⟨?_, ?_, ?_⟩
  · rw [hk.cell (p := ⟨b, 0, none⟩) hlt hS]; exact h.c0
  · rw [hk.cell (p := ⟨b, 1, none⟩) hlt hS]; exact h.c1
  · rw [hk.cell (p := ⟨b, 2, none⟩) hlt hS]; exact h.c2
theorem TriR.below {w w' : World} {b : Nat} {x : Ed} (h : TriR w b x) (hb : Below w.heap.size w w') : TriR w' b x := h.keep (Keep.ofBelow (S := fun _ => False) hb) (fun e => e)
theorem TriR.made (w : World) (x y z : Int) (t : TypeId) : TriR (w.alloc (.cells #[.int .i64 x, .int .i64 y, .int .i64 z] t)) w.heap.size ⟨x, y, z⟩ :=
  ⟨by rw [World.cell?_alloc_new]; rfl, by rw [World.cell?_alloc_new]; rfl, by rw [World.cell?_alloc_new]; rfl⟩

/-- Is this a node? -/
def nodeB (N v : Int) : Bool := decide (0 ≤ v) && decide (v < N)
theorem nodeB_true {N v : Int} : nodeB N v = true ↔ 0 ≤ v ∧ v < N := by
  unfold nodeB; simp
theorem nodeB_false {N v : Int} (h : nodeB N v = false) : ¬ (0 ≤ v ∧ v < N) := fun e => by
  rw [nodeB_true.2 e] at h; cases h
/-- The error of an edge. -/
def edE (N : Int) (e : Ed) : Int := if nodeB N e.f = false ∨ nodeB N e.t = false then 7 else if e.s < 1 ∨ 1000 < e.s then 1 else 0
/-- The error of the first edge that has one. -/
def ckL (N : Int) : List Ed → Int
  | [] => 0
  | e :: l => if edE N e = 0 then ckL N l else edE N e
/-- What Check answers. -/
def ck (N : Int) (l : List Ed) : Int := if N < 1 ∨ 64 < N then 1 else if 512 < l.length then 8 else ckL N l
theorem ckL_ok {N : Int} {l : List Ed} (h : ckL N l = 0) : ∀ e ∈ l, edE N e = 0 := by
  induction l with
  | nil => intro e he; cases he
  | cons x l ih =>
    unfold ckL at h
    split at h
    · rename_i h0
      intro e he
      rcases List.mem_cons.1 he with rfl | he
      · exact h0
      · exact ih h e he
    · rename_i h0; exact absurd h h0
theorem edE_ok {N : Int} {e : Ed} (h : edE N e = 0) : 0 ≤ e.f ∧ e.f < N ∧ 0 ≤ e.t ∧ e.t < N ∧ 1 ≤ e.s ∧ e.s ≤ 1000 := by
  unfold edE at h
  split at h
  · omega
  · rename_i h1
    split at h
    · omega
    · rename_i h2
      have hf : nodeB N e.f = true := by
        cases hh : nodeB N e.f with
        | true => rfl
        | false => exact absurd (Or.inl hh) h1
      have ht : nodeB N e.t = true := by
        cases hh : nodeB N e.t with
        | true => rfl
        | false => exact absurd (Or.inr hh) h1
      have := nodeB_true.1 hf
      have := nodeB_true.1 ht
      omega
theorem edE_bd (N : Int) (e : Ed) : edE N e = 0 ∨ edE N e = 1 ∨ edE N e = 7 := by
  unfold edE
  split
  · exact Or.inr (Or.inr rfl)
  · split
    · exact Or.inr (Or.inl rfl)
    · exact Or.inl rfl
/-- A network that is right: its nodes and edges. -/
theorem ck_ok {N : Int} {l : List Ed} (h : ck N l = 0) : ∃ M : Nat, N = (M : Int) ∧ 1 ≤ M ∧ M ≤ 64 ∧ l.length ≤ 512 ∧ OkL M l := by
  unfold ck at h
  split at h
  · omega
  · split at h
    · omega
    · rename_i h1 h2
      refine ⟨N.toNat, by omega, by omega, by omega, by omega, fun i hi => ?_⟩
      have := edE_ok (ckL_ok h (l.getD i ed0) (by simp [hi]))
      rw [show ((N.toNat : Nat) : Int) = N by omega]
      exact this
theorem drop_at {l : List Ed} {k : Nat} (h : k < l.length) : l.drop k = l.getD k ed0 :: l.drop (k + 1) := by
  rw [List.drop_eq_getElem_cons h]; simp [h]

theorem isNode_any (n v : Int) (A : Option Addr) (m c : Nat) (w : World) :
    Calls Try.prog 24 #[.agg #[.int .i64 n, .slice A m c], .int .i64 v] w fun e w' => e = .returned (.bool (nodeB n v)) ∧ Below w.heap.size w w' := by
  by_cases h0 : 0 ≤ v
  · by_cases h1 : v < n
    · rw [nodeB_true.2 ⟨h0, h1⟩]
      go_enter Try.func24, Try.ntmps24
      go_wp2_with fail
      go_ret
      exact ⟨rfl, below_alloc _ _⟩
    · rw [show nodeB n v = false by unfold nodeB; simp [h1]]
      go_enter Try.func24, Try.ntmps24
      go_wp2_with fail
      go_ret
      exact ⟨rfl, below_alloc _ _⟩
  · rw [show nodeB n v = false by unfold nodeB; simp [h0]]
    go_enter Try.func24, Try.ntmps24
    go_wp2_with fail
    go_ret
    exact ⟨rfl, below_alloc _ _⟩
theorem refNode_any (n v : Int) (A : Option Addr) (m c : Nat) (w : World) :
    Calls Try.prog 21 #[.agg #[.int .i64 n, .slice A m c], .int .i64 v] w fun e w' => e = .returned (.bool (nodeB n v)) ∧ Below w.heap.size w w' := by
  by_cases h0 : 0 ≤ v
  · by_cases h1 : v < n
    · rw [nodeB_true.2 ⟨h0, h1⟩]
      go_enter Try.func21, Try.ntmps21
      go_wp2_with fail
      go_ret
      exact ⟨rfl, below_alloc _ _⟩
    · rw [show nodeB n v = false by unfold nodeB; simp [h1]]
      go_enter Try.func21, Try.ntmps21
      go_wp2_with fail
      go_ret
      exact ⟨rfl, below_alloc _ _⟩
  · rw [show nodeB n v = false by unfold nodeB; simp [h0]]
    go_enter Try.func21, Try.ntmps21
    go_wp2_with fail
    go_ret
    exact ⟨rfl, below_alloc _ _⟩

set_option maxRecDepth 100000 in
set_option maxHeartbeats 2000000 in
theorem check_any (n : Int) (A : Option Addr) (m c : Nat) (l : List Ed) (w : World) (hm : l.length = m) (hA : EdR w A l) :
    Calls Try.prog 13 #[.agg #[.int .i64 n, .slice A m c]] w fun e w' => e = .returned (.int .i64 (ck n l)) ∧ Below w.heap.size w w' := by
  have HM := Lib.hid hm
  have HA := Lib.hid (hA.below (below_alloc w (.cells #[.int .i64 n, .slice A m c] 24)))
  have HB := Lib.hid (BoxR.made w n A m c 24)
  have HN := Lib.hid (fun v W => isNode_any n v A m c W)
  obtain ⟨X, hX⟩ : ∃ X, ck n l = X := ⟨_, rfl⟩
  rw [hX]
  unfold ck at hX
  clear hA hm
  by_cases h1 : n < 1
  · rw [if_pos (Or.inl h1)] at hX
    subst hX
    go_enter Try.func13, Try.ntmps13
    go_wp2_with fail
    go_ret
    exact ⟨rfl, below_alloc _ _⟩
  by_cases h2 : 64 < n
  · rw [if_pos (Or.inr h2)] at hX
    subst hX
    go_enter Try.func13, Try.ntmps13
    go_wp2_with fail
    go_ret
    exact ⟨rfl, below_alloc _ _⟩
  rw [if_neg (by omega)] at hX
  by_cases h3 : 512 < m
  · rw [if_pos (by rw [HM.out]; exact h3)] at hX
    subst hX
    have h3z : (512 : Int) < (m : Int) := by omega
    go_enter Try.func13, Try.ntmps13
    go_wp2_with fail
    go_ret
    exact ⟨rfl, below_alloc _ _⟩
  rw [if_neg (by rw [HM.out]; exact h3)] at hX
  have h3z : ¬ (512 : Int) < (m : Int) := by omega
  have HX := Lib.hid hX
  clear hX
  go_enter Try.func13, Try.ntmps13
  go_wp2_with fail
  obtain ⟨w1, hw1⟩ : ∃ w1, w.alloc (.cells #[.int .i64 n, .slice A m c] 24) = w1 := ⟨_, rfl⟩
  have HW1 : Hid (Below w.heap.size w w1) := Lib.hid (hw1 ▸ below_alloc _ _)
  rw [hw1] at HA HB ⊢
  clear hw1
  go_loopw [20] (fun i wr => ∃ k : Nat, k ≤ m ∧ i = .int .i64 (k : Int) ∧ Hid (ckL n (l.drop k) = X) ∧ Hid (Below w1.heap.size w1 wr)) (fun i _ => m - (intOf i).toNat)
  case atStart => exact ⟨0, by omega, rfl, HX, Lib.hid (Below.refl _ _)⟩
  case round =>
    obtain ⟨k, hk, rfl, HC, HBW⟩ := hrel
    obtain ⟨b0, b1⟩ := HB.out.below HBW.out
    have hbr : w.heap.size < wr.heap.size := World.block_lt_of_cell? _ _ b0
    by_cases hlt : k < m
    · have hkz : (k : Int) < (m : Int) := by omega
      have hkl : k < l.length := by rw [HM.out]; exact hlt
      obtain ⟨b, o, rfl, hbl, hc⟩ := HA.out.below HBW.out (by omega)
      obtain ⟨c0, c1, c2⟩ := hc k hkl
      have hC := HC.out
      rw [drop_at hkl] at hC
      obtain ⟨⟨f, t, s⟩, hy⟩ : ∃ y, l.getD k ed0 = y := ⟨_, rfl⟩
      rw [hy] at c0 c1 c2 hC
      simp only at c0 c1 c2
      have HE := Lib.hid hC
      have HBR : Hid (BoxR (wr.alloc (.cells #[.int .i64 f, .int .i64 t, .int .i64 s] 43)) w.heap.size n (some ⟨b, o, none⟩) m c) := Lib.hid ((HB.out.below HBW.out).below (below_alloc _ _))
      have HTR := Lib.hid (TriR.made wr f t s 43)
      have HWW := Lib.hid (Below.step HW1.out (Below.step HBW.out (below_alloc wr (.cells #[.int .i64 f, .int .i64 t, .int .i64 s] 43))))
      have HWR := Lib.hid (Below.step HBW.out (below_alloc wr (.cells #[.int .i64 f, .int .i64 t, .int .i64 s] 43)))
      clear hc hC hy HC
      cases hf : nodeB n f with
      | false =>
        have hX2 : X = 7 := by
          have h := HE.out
          have e7 : edE n ⟨f, t, s⟩ = 7 := if_pos (Or.inl hf)
          unfold ckL at h
          rw [e7] at h
          exact h.symm
        subst hX2
        have HN1 := Lib.hid (fun W => HN.out f W)
        rw [hf] at HN1
        clear HE
        go_wp2_with fail
        refine (HN1.out _).mono ?_
        rintro e w2 ⟨rfl, hB2⟩
        go_wp2_with fail
        go_ret
        exact ⟨rfl, Below.step HWW.out hB2⟩
      | true =>
        have HN1 := Lib.hid (fun W => HN.out f W)
        rw [hf] at HN1
        cases ht : nodeB n t with
        | false =>
          have hX2 : X = 7 := by
            have h := HE.out
            have e7 : edE n ⟨f, t, s⟩ = 7 := if_pos (Or.inr ht)
            unfold ckL at h
            rw [e7] at h
            exact h.symm
          subst hX2
          have HN2 := Lib.hid (fun W => HN.out t W)
          rw [ht] at HN2
          clear HE
          go_wp2_with fail
          refine (HN1.out _).mono ?_
          rintro e w2 ⟨rfl, hB2⟩
          obtain ⟨d0, d1⟩ := HBR.out.below hB2
          obtain ⟨t0, t1, t2⟩ := HTR.out.below hB2
          go_wp2_with fail
          refine (HN2.out _).mono ?_
          rintro e w3 ⟨rfl, hB3⟩
          go_wp2_with fail
          go_ret
          exact ⟨rfl, Below.step HWW.out (Below.step hB2 hB3)⟩
        | true =>
          have HN2 := Lib.hid (fun W => HN.out t W)
          rw [ht] at HN2
          go_wp2_with fail
          refine (HN1.out _).mono ?_
          rintro e w2 ⟨rfl, hB2⟩
          obtain ⟨d0, d1⟩ := HBR.out.below hB2
          obtain ⟨t0, t1, t2⟩ := HTR.out.below hB2
          go_wp2_with fail
          refine (HN2.out _).mono ?_
          rintro e w3 ⟨rfl, hB3⟩
          have hB4 := Below.step hB2 hB3
          obtain ⟨t0, t1, t2⟩ := HTR.out.below hB4
          have hnn : ¬ (nodeB n f = false ∨ nodeB n t = false) := by rw [hf, ht]; simp
          by_cases hs1 : s < 1
          · have hX2 : X = 1 := by
              have h := HE.out
              have e7 : edE n ⟨f, t, s⟩ = 1 := (if_neg hnn).trans (if_pos (Or.inl hs1))
              unfold ckL at h
              rw [e7] at h
              exact h.symm
            subst hX2
            clear HE
            go_wp2_with fail
            go_ret
            exact ⟨rfl, Below.step HWW.out hB4⟩
          by_cases hs2 : 1000 < s
          · have hX2 : X = 1 := by
              have h := HE.out
              have e7 : edE n ⟨f, t, s⟩ = 1 := (if_neg hnn).trans (if_pos (Or.inr hs2))
              unfold ckL at h
              rw [e7] at h
              exact h.symm
            subst hX2
            clear HE
            go_wp2_with fail
            go_ret
            exact ⟨rfl, Below.step HWW.out hB4⟩
          have HE2 : Hid (ckL n (l.drop (k + 1)) = X) := Lib.hid (by
            have h := HE.out
            have e7 : edE n ⟨f, t, s⟩ = 0 := (if_neg hnn).trans (if_neg (by show ¬ (s < 1 ∨ 1000 < s); omega))
            unfold ckL at h
            rw [if_pos e7] at h
            exact h)
          have HB5 : Hid (Below w1.heap.size w1 w3) := Lib.hid (Below.step HWR.out hB4)
          clear HE
          go_wp2_with fail
          go_roundw
          case rel => exact ⟨k + 1, by omega, by go_num, HE2, HB5⟩
          case measure => simp only [intOf]; omega
    · obtain rfl : k = m := by omega
      have hnlt : ¬ (k : Int) < (k : Int) := by omega
      have hX2 : X = 0 := by
        have h := HC.out
        rw [List.drop_of_length_le (by rw [HM.out]; omega)] at h
        exact h.symm
      subst hX2
      go_wp2_with fail
      go_ret
      exact ⟨rfl, Below.step HW1.out HBW.out⟩
set_option maxRecDepth 100000 in
set_option maxHeartbeats 2000000 in
theorem refCheck_any (n : Int) (A : Option Addr) (m c : Nat) (l : List Ed) (w : World) (hm : l.length = m) (hA : EdR w A l) :
    Calls Try.prog 14 #[.agg #[.int .i64 n, .slice A m c]] w fun e w' => e = .returned (.int .i64 (ck n l)) ∧ Below w.heap.size w w' := by
  have HM := Lib.hid hm
  have HA := Lib.hid (hA.below (below_alloc w (.cells #[.int .i64 n, .slice A m c] 24)))
  have HB := Lib.hid (BoxR.made w n A m c 24)
  have HN := Lib.hid (fun v W => refNode_any n v A m c W)
  obtain ⟨X, hX⟩ : ∃ X, ck n l = X := ⟨_, rfl⟩
  rw [hX]
  unfold ck at hX
  clear hA hm
  by_cases h1 : n < 1
  · rw [if_pos (Or.inl h1)] at hX
    subst hX
    go_enter Try.func14, Try.ntmps14
    go_wp2_with fail
    go_ret
    exact ⟨rfl, below_alloc _ _⟩
  by_cases h2 : 64 < n
  · rw [if_pos (Or.inr h2)] at hX
    subst hX
    go_enter Try.func14, Try.ntmps14
    go_wp2_with fail
    go_ret
    exact ⟨rfl, below_alloc _ _⟩
  rw [if_neg (by omega)] at hX
  by_cases h3 : 512 < m
  · rw [if_pos (by rw [HM.out]; exact h3)] at hX
    subst hX
    have h3z : (512 : Int) < (m : Int) := by omega
    go_enter Try.func14, Try.ntmps14
    go_wp2_with fail
    go_ret
    exact ⟨rfl, below_alloc _ _⟩
  rw [if_neg (by rw [HM.out]; exact h3)] at hX
  have h3z : ¬ (512 : Int) < (m : Int) := by omega
  have HX := Lib.hid hX
  clear hX
  go_enter Try.func14, Try.ntmps14
  go_wp2_with fail
  obtain ⟨w1, hw1⟩ : ∃ w1, w.alloc (.cells #[.int .i64 n, .slice A m c] 24) = w1 := ⟨_, rfl⟩
  have HW1 : Hid (Below w.heap.size w w1) := Lib.hid (hw1 ▸ below_alloc _ _)
  rw [hw1] at HA HB ⊢
  clear hw1
  go_loopw [3] (fun i wr => ∃ k : Nat, k ≤ m ∧ i = .int .i64 (k : Int) ∧ Hid (ckL n (l.drop k) = X) ∧ Hid (Below w1.heap.size w1 wr)) (fun i _ => m - (intOf i).toNat)
  case atStart => exact ⟨0, by omega, rfl, HX, Lib.hid (Below.refl _ _)⟩
  case round =>
    obtain ⟨k, hk, rfl, HC, HBW⟩ := hrel
    obtain ⟨b0, b1⟩ := HB.out.below HBW.out
    have hbr : w.heap.size < wr.heap.size := World.block_lt_of_cell? _ _ b0
    by_cases hlt : k < m
    · have hkz : (k : Int) < (m : Int) := by omega
      have hkl : k < l.length := by rw [HM.out]; exact hlt
      obtain ⟨b, o, rfl, hbl, hc⟩ := HA.out.below HBW.out (by omega)
      obtain ⟨c0, c1, c2⟩ := hc k hkl
      have hC := HC.out
      rw [drop_at hkl] at hC
      obtain ⟨⟨f, t, s⟩, hy⟩ : ∃ y, l.getD k ed0 = y := ⟨_, rfl⟩
      rw [hy] at c0 c1 c2 hC
      simp only at c0 c1 c2
      have HE := Lib.hid hC
      have HBR : Hid (BoxR (wr.alloc (.cells #[.int .i64 f, .int .i64 t, .int .i64 s] 43)) w.heap.size n (some ⟨b, o, none⟩) m c) := Lib.hid ((HB.out.below HBW.out).below (below_alloc _ _))
      have HTR := Lib.hid (TriR.made wr f t s 43)
      have HWW := Lib.hid (Below.step HW1.out (Below.step HBW.out (below_alloc wr (.cells #[.int .i64 f, .int .i64 t, .int .i64 s] 43))))
      have HWR := Lib.hid (Below.step HBW.out (below_alloc wr (.cells #[.int .i64 f, .int .i64 t, .int .i64 s] 43)))
      clear hc hC hy HC
      cases hf : nodeB n f with
      | false =>
        have hX2 : X = 7 := by
          have h := HE.out
          have e7 : edE n ⟨f, t, s⟩ = 7 := if_pos (Or.inl hf)
          unfold ckL at h
          rw [e7] at h
          exact h.symm
        subst hX2
        have HN1 := Lib.hid (fun W => HN.out f W)
        rw [hf] at HN1
        clear HE
        go_wp2_with fail
        refine (HN1.out _).mono ?_
        rintro e w2 ⟨rfl, hB2⟩
        go_wp2_with fail
        go_ret
        exact ⟨rfl, Below.step HWW.out hB2⟩
      | true =>
        have HN1 := Lib.hid (fun W => HN.out f W)
        rw [hf] at HN1
        cases ht : nodeB n t with
        | false =>
          have hX2 : X = 7 := by
            have h := HE.out
            have e7 : edE n ⟨f, t, s⟩ = 7 := if_pos (Or.inr ht)
            unfold ckL at h
            rw [e7] at h
            exact h.symm
          subst hX2
          have HN2 := Lib.hid (fun W => HN.out t W)
          rw [ht] at HN2
          clear HE
          go_wp2_with fail
          refine (HN1.out _).mono ?_
          rintro e w2 ⟨rfl, hB2⟩
          obtain ⟨d0, d1⟩ := HBR.out.below hB2
          obtain ⟨t0, t1, t2⟩ := HTR.out.below hB2
          go_wp2_with fail
          refine (HN2.out _).mono ?_
          rintro e w3 ⟨rfl, hB3⟩
          go_wp2_with fail
          go_ret
          exact ⟨rfl, Below.step HWW.out (Below.step hB2 hB3)⟩
        | true =>
          have HN2 := Lib.hid (fun W => HN.out t W)
          rw [ht] at HN2
          go_wp2_with fail
          refine (HN1.out _).mono ?_
          rintro e w2 ⟨rfl, hB2⟩
          obtain ⟨d0, d1⟩ := HBR.out.below hB2
          obtain ⟨t0, t1, t2⟩ := HTR.out.below hB2
          go_wp2_with fail
          refine (HN2.out _).mono ?_
          rintro e w3 ⟨rfl, hB3⟩
          have hB4 := Below.step hB2 hB3
          obtain ⟨t0, t1, t2⟩ := HTR.out.below hB4
          have hnn : ¬ (nodeB n f = false ∨ nodeB n t = false) := by rw [hf, ht]; simp
          by_cases hs1 : s < 1
          · have hX2 : X = 1 := by
              have h := HE.out
              have e7 : edE n ⟨f, t, s⟩ = 1 := (if_neg hnn).trans (if_pos (Or.inl hs1))
              unfold ckL at h
              rw [e7] at h
              exact h.symm
            subst hX2
            clear HE
            go_wp2_with fail
            go_ret
            exact ⟨rfl, Below.step HWW.out hB4⟩
          by_cases hs2 : 1000 < s
          · have hX2 : X = 1 := by
              have h := HE.out
              have e7 : edE n ⟨f, t, s⟩ = 1 := (if_neg hnn).trans (if_pos (Or.inr hs2))
              unfold ckL at h
              rw [e7] at h
              exact h.symm
            subst hX2
            clear HE
            go_wp2_with fail
            go_ret
            exact ⟨rfl, Below.step HWW.out hB4⟩
          have HE2 : Hid (ckL n (l.drop (k + 1)) = X) := Lib.hid (by
            have h := HE.out
            have e7 : edE n ⟨f, t, s⟩ = 0 := (if_neg hnn).trans (if_neg (by show ¬ (s < 1 ∨ 1000 < s); omega))
            unfold ckL at h
            rw [if_pos e7] at h
            exact h)
          have HB5 : Hid (Below w1.heap.size w1 w3) := Lib.hid (Below.step HWR.out hB4)
          clear HE
          go_wp2_with fail
          go_roundw
          case rel => exact ⟨k + 1, by omega, by go_num, HE2, HB5⟩
          case measure => simp only [intOf]; omega
    · obtain rfl : k = m := by omega
      have hnlt : ¬ (k : Int) < (k : Int) := by omega
      have hX2 : X = 0 := by
        have h := HC.out
        rw [List.drop_of_length_le (by rw [HM.out]; omega)] at h
        exact h.symm
      subst hX2
      go_wp2_with fail
      go_ret
      exact ⟨rfl, Below.step HW1.out HBW.out⟩
end Go.Proofs.Ythomklpaafnjhaa
