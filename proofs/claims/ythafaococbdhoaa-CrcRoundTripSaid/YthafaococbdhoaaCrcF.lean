/-
  Rows of slices of bytes, append onto them; the contracts of Recover and of the specification's Recover. Condition: at most 60000 bytes.
-/
import Derived.Test.YthafaococbdhoaaCrcE
import Derived.Test.YthafaococbdhoaaCrcR
import Derived.Lib.OwnKind
namespace Go.Proofs.Ythafaococbdhoaa
open Go.RowKit Go.Maps
set_option linter.unusedVariables false

/-- A slice at address A reads as slices that read as the lists L. -/
def RowsR (w : World) (A : Option Addr) (L : List (List UInt8)) : Prop := ∃ vs : List Value, VsR w A vs ∧ vs.length = L.length ∧ ∀ k, k < L.length → ∃ B d, vs[k]? = some (.slice B (L.getD k []).length d) ∧ (L.getD k []).length ≤ d ∧ BytR w B (L.getD k [])
theorem RowsR.below {w w' : World} {A : Option Addr} {L : List (List UInt8)} (h : RowsR w A L) (hb : Below w.heap.size w w') : RowsR w' A L := by
  obtain ⟨vs, h1, h2, h3⟩ := h
  refine ⟨vs, h1.below hb, h2, fun k hk => ?_⟩
  obtain ⟨B, d, h4, h5, h6⟩ := h3 k hk
  exact ⟨B, d, h4, h5, h6.below hb⟩
theorem RowsR.nil (w : World) (A : Option Addr) : RowsR w A [] := ⟨[], VsR.nil w A, rfl, fun k hk => absurd hk (Nat.not_lt_zero k)⟩
theorem RowsR.at {w : World} {A : Option Addr} {L : List (List UInt8)} (h : RowsR w A L) (h0 : 0 < L.length) : ∃ b o, A = some ⟨b, o, none⟩ ∧ b < w.heap.size ∧
    ∀ k, k < L.length → ∃ B d, w.cell? ⟨b, o + k, none⟩ = some (.slice B (L.getD k []).length d) ∧ (L.getD k []).length ≤ d ∧ BytR w B (L.getD k []) := by
  obtain ⟨vs, h1, h2, h3⟩ := h
  obtain ⟨b, o, rfl, hlt, hc⟩ := h1 (by omega)
  refine ⟨b, o, rfl, hlt, fun k hk => ?_⟩
  obtain ⟨B, d, h4, h5, h6⟩ := h3 k hk
  exact ⟨B, d, hc k _ h4, h5, h6⟩
theorem RowsR.pre {w : World} {A : Option Addr} {L : List (List UInt8)} (h : RowsR w A L) (n : Nat) : RowsR w A (L.take n) := by
  obtain ⟨vs, h1, h2, h3⟩ := h
  refine ⟨vs.take n, fun hl => ?_, by rw [List.length_take, List.length_take, h2], fun k hk => ?_⟩
  · have hl2 : 0 < vs.length := by
      simp at hl
      omega
    obtain ⟨b, o, rfl, hlt, hc⟩ := h1 hl2
    refine ⟨b, o, rfl, hlt, fun k v hk => ?_⟩
    have hk2 := (List.getElem?_eq_some_iff.1 hk).1
    rw [List.length_take] at hk2
    refine hc k v ?_
    rw [← hk, List.getElem?_take_of_lt (by omega)]
  · rw [List.length_take] at hk
    obtain ⟨B, d, h4, h5, h6⟩ := h3 k (by omega)
    have e : (L.take n).getD k [] = L.getD k [] := by simp [List.getD, List.getElem?_take_of_lt (show k < n by omega)]
    rw [e]
    exact ⟨B, d, by rw [List.getElem?_take_of_lt (by omega)]; exact h4, h5, h6⟩

/-- A row of slices of bytes that the call owns, with what they hold. -/
def OwnS (w : World) (base : Nat) (v : Value) (L : List (List UInt8)) : Prop := ∃ vs : List Value, w.ownsRow base 22 1 v L.length vs ∧ vs.length = L.length ∧ ∀ k, k < L.length → ∃ u, vs[k]? = some u ∧ OwnB w base u (L.getD k [])
theorem OwnS.nil (w : World) (base : Nat) : OwnS w base (.slice none 0 0) [] := ⟨[], World.ownsRow_nil _ _ _ _, rfl, fun k hk => absurd hk (Nat.not_lt_zero k)⟩
theorem OwnS.below {w w' : World} {base : Nat} {v : Value} {L : List (List UInt8)} (h : OwnS w base v L) (hb : Below w.heap.size w w') : OwnS w' base v L := by
  obtain ⟨vs, h1, h2, h3⟩ := h
  refine ⟨vs, ownsRow_below h1 hb (fun g hg => (World.ownsRow.lt h1 g hg).2), h2, fun k hk => ?_⟩
  obtain ⟨u, h4, h5⟩ := h3 k hk
  exact ⟨u, h4, h5.below hb⟩
theorem OwnS.mono {w : World} {base base' : Nat} {v : Value} {L : List (List UInt8)} (h : OwnS w base v L) (hb : base' ≤ base) : OwnS w base' v L := by
  obtain ⟨vs, h1, h2, h3⟩ := h
  refine ⟨vs, World.ownsRow.mono h1 hb, h2, fun k hk => ?_⟩
  obtain ⟨u, h4, h5⟩ := h3 k hk
  exact ⟨u, h4, h5.mono hb⟩
theorem OwnS.form {w : World} {base : Nat} {v : Value} {L : List (List UInt8)} (h : OwnS w base v L) : ∃ A cap, v = .slice A L.length cap ∧ L.length ≤ cap ∧ RowsR w A L := by
  obtain ⟨vs, h1, h2, h3⟩ := h
  obtain ⟨A, cap, rfl, hc, hr⟩ := ownsRow_vs h1
  refine ⟨A, cap, rfl, hc, vs, hr, h2, fun k hk => ?_⟩
  obtain ⟨u, h4, h5⟩ := h3 k hk
  obtain ⟨B, d, rfl, hd, hb⟩ := h5.form
  exact ⟨B, d, h4, hd, hb⟩

theorem info_sl : (Try.prog.info? 22).map (fun i => (i.zero, i.size, i.bytes)) = some (some (.slice none 0 0), 1, 24) := by kernel_rfl
/-- append of one slice of bytes onto an own row of them. -/
theorem wpList_append_row {w : World} {ops : Array Oper} {rest : List Oper} {o : Oper} {a : Act} {Q : Exit → Act → World → Prop} (hgd : o.guard = none) (s x : Operand)
    (ho : o.op = .call { callee := .builtin .append, args := #[s, x], argTypes := #[33, 33] })
    (base : Nat) (v : Value) (L : List (List UInt8)) (hs : a.eval s = v) (hown : OwnS w base v L) (blk c : Nat) (u : Value) (C : List UInt8) (hx : a.eval x = .slice (some ⟨blk, 0, none⟩) 1 c) (h0 : w.cell? ⟨blk, 0, none⟩ = some u) (hu : OwnB w base u C)
    (hlen : L.length ≤ 100000) (hbase : base ≤ w.heap.size)
    (h : ∀ v' w', Hid (OwnS w' base v' (L ++ [C])) → Below base w w' → wpList Try.prog ops Q rest (a.put o.dst v') w') : wpList Try.prog ops Q (o :: rest) a w := by
  obtain ⟨ii, hii, hz0, hz1, hz2⟩ := info_parts info_sl
  obtain ⟨vs, h1, h2, h3⟩ := hown
  refine wpList_plain hgd fun K hK => ?_
  have hone : ∀ z ∈ [u], z.oneCell' = true := fun z hz => by
    simp at hz
    subst hz
    obtain ⟨B, d, rfl, _⟩ := hu.form
    rfl
  obtain ⟨v', w', hrun, hown', hg, _, _⟩ := run_append_own_at (P := Try.prog) w base 33 o.type 22 ii (.slice none 0 0) 1 24 Try.underlying33 hii hz0 hz1 hz2 rfl (by decide) v L.length vs h1 ⟨blk, 0, none⟩ 1 c [u] rfl
    (fun j z hj => by
      rw [Addr.add_lit, Nat.zero_add]
      match j, hj with
      | 0, hj => simp at hj; subst hj; exact h0) hone (by unfold maxLen; omega) (by omega) hbase
  have hne : ∀ {u : Value} {D : List UInt8}, OwnB w base u D → u.ownBlock = none ∨ u.ownBlock ≠ v.ownBlock := fun {u D} hu => by
    rcases hub : u.ownBlock with _ | g
    · exact Or.inl rfl
    · refine Or.inr fun e => ?_
      obtain ⟨c1, f1, k1⟩ := Lib.ownsRow_kind hu g hub
      obtain ⟨c2, f2, k2⟩ := Lib.ownsRow_kind h1 g e.symm
      rw [k1] at k2
      injection k2 with k2
      injection k2 with _ k2
      exact absurd k2 (by decide)
  unfold Oper.wp execOp
  simp only [ho, resolve, invoke, builtin, Sem.run_bind, Sem.run_pure, Result.andThen_ok, List.map_toArray, List.map_cons, List.map_nil, hs, hx, hrun]
  refine hK _ _ (h v' w' ⟨vs ++ [u], ?_, by rw [List.length_append, List.length_append, h2]; rfl, fun k hk => ?_⟩ ((Below.refl base w).grown hg hbase (fun k hk => (World.ownsRow.lt h1 k hk).1)))
  · rw [List.length_append]
    exact hown'
  · rw [List.length_append, List.length_singleton] at hk
    by_cases hkl : k < L.length
    · obtain ⟨z, h4, h5⟩ := h3 k hkl
      refine ⟨z, by rw [List.getElem?_append_left (by omega)]; exact h4, ?_⟩
      have e : (L ++ [C]).getD k [] = L.getD k [] := by simp [List.getD, List.getElem?_append_left hkl]
      rw [e]
      exact World.ownsRow.kept h5 hg (hne h5)
    · obtain rfl : k = L.length := by omega
      refine ⟨u, by rw [← h2]; simp, ?_⟩
      have e : (L ++ [C]).getD L.length [] = C := by simp
      rw [e]
      exact World.ownsRow.kept hu hg (hne hu)

/-- What Recover returns. -/
def RecP (w : World) (L : List (List UInt8)) (X : Nat) (e : Ending) (w' : World) : Prop :=
  ∃ v, e = .returned (.tuple #[v, .int .i64 (X : Int)]) ∧ OwnS w' w.heap.size v L ∧ Below w.heap.size w w'

set_option maxRecDepth 100000 in
set_option maxHeartbeats 1000000 in
theorem recover_any (A : Option Addr) (l : List UInt8) (m c f : Nat) (w : World) (L : List (List UInt8)) (X : Nat) (hf : m < f) (hR : Rc l f 0 [] = (L, X)) (hm : l.length = m) (hl : m ≤ 60000) (hc : m ≤ c) (h : BytR w A l) :
    Calls Try.prog 19 #[.slice A m c] w fun e w' => RecP w L X e w' := by
  have HR := Lib.hid h
  have HM := Lib.hid hm
  have HRC := Lib.hid hR
  clear h hm hR
  go_enter Try.func19, Try.ntmps19
  go_wp2_with fail
  refine (newTable_any _).mono ?_
  rintro e w1 ⟨b, rfl, hT, hB⟩
  have HT := Lib.hid hT
  have HR1 := Lib.hid (HR.out.below hB)
  have HB1 := Lib.hid hB
  clear hT HR hB
  go_wp2_with fail
  go_loopw [5, 6] (fun v i wr => ∃ (k f' : Nat) (acc : List (List UInt8)), k ≤ m ∧ m < f' + k ∧ i = .int .i64 (k : Int) ∧ Hid (acc.length ≤ k) ∧ Hid (Rc l f' k acc = (L, X)) ∧ Hid (OwnS wr w1.heap.size v acc) ∧ Below w1.heap.size w1 wr) (fun _ i _ => m - (intOf i).toNat)
  case atStart => exact ⟨0, f, [], by omega, by omega, rfl, Lib.hid (Nat.le_refl _), HRC, Lib.hid (OwnS.nil w1 _), Below.refl _ _⟩
  case round =>
    obtain ⟨k, f', acc, hk, hf', rfl, hacc, hrc, hO, hB⟩ := hrel
    have HI := Lib.hid (fun C X E hI => topen_any b A l m c (k : Int) wr C X E hI HM.out hl hc (HR1.out.below hB) (HT.out.below hB HT.out.lt) (by omega) (by omega))
    have hrc' := hrc.out
    rcases Op_cases l (k : Int) with ⟨E', h5, h6, _⟩ | ⟨k', x, n, hk', g1, g2, g3, _, _, g6⟩
    · rw [Rc_err h5 h6] at hrc'
      simp only [Prod.mk.injEq] at hrc'
      obtain ⟨rfl, rfl⟩ := hrc'
      have HI2 := Lib.hid (HI.out _ _ _ h5)
      have hz : ¬ (E' : Int) = 0 := by omega
      clear HI h5 hrc hacc
      go_wp2_with fail
      refine HI2.out.mono ?_
      rintro e w2 ⟨v2, rfl, _, hB2⟩
      have HO2 := Lib.hid ((hO.out.below hB2).mono HB1.out.size)
      have hB3 := Below.step HB1.out (Below.step hB hB2)
      clear hO hB hB2 HI2
      go_wp2_with fail
      go_ret2
      exact ⟨_, rfl, HO2.out, hB3⟩
    · obtain ⟨f2, rfl⟩ : ∃ f2, f' = f2 + 1 := ⟨f' - 1, by omega⟩
      rw [Rc_ok g6] at hrc'
      have HI2 := Lib.hid (HI.out _ _ _ g6)
      rw [HM.out] at g3
      have HRC2 := Lib.hid hrc'
      obtain ⟨C, hC⟩ : ∃ C, (l.drop x).take n = C := ⟨_, rfl⟩
      rw [hC] at HRC2 HI2
      have HACC2 : Hid ((acc ++ [C]).length ≤ x + n + 4) := Lib.hid (by
        have := hacc.out
        rw [List.length_append, List.length_singleton]
        omega)
      have HLEN := Lib.hid (show acc.length ≤ 100000 by have := hacc.out; omega)
      have hkx : k < x + n + 4 := by omega
      obtain ⟨y, hy⟩ : ∃ y, x + n + 4 = y := ⟨_, rfl⟩
      rw [hy] at HI2 HRC2 HACC2 hkx g3
      clear HI g6 hrc hrc' hacc hk' hC hy g1
      go_wp2_with fail
      refine HI2.out.mono ?_
      rintro e w2 ⟨v2, rfl, hO2, hB2⟩
      have HC2 := Lib.hid (hO2.mono hB.size)
      obtain ⟨B2, d2, hv2, _, _⟩ := hO2.form
      obtain ⟨q2, hq2⟩ : ∃ q, C.length = q := ⟨_, rfl⟩
      rw [hq2] at hv2
      subst hv2
      have HO2 := Lib.hid (hO.out.below hB2)
      have hB3 := Below.step hB hB2
      have hsz := hB3.size
      clear hO hO2 hB hB2 HI2 hq2
      go_wp2_with (at_builtin; refine wpList_append_row rfl _ _ rfl w1.heap.size _ acc rfl (HO2.out.below ((Below.refl _ _).alloc (Nat.le_refl _) _)) _ _ (.slice B2 q2 d2) C rfl ?y0 (HC2.out.alloc _) HLEN.out ?y2 ?_)
      case y0 => rw [World.cell?_alloc_new]; rfl
      case y2 => first | omega | (simp; omega)
      intro v3 w3 hO3 hB4
      have hB5 : Below w1.heap.size w1 w3 := (hB3.alloc hsz _).trans hB4
      clear hB3 hB4 HO2 HC2
      go_wp2_with fail
      go_roundw
      case rel => exact ⟨y, f2, _, by omega, by omega, rfl, HACC2, HRC2, hO3, hB5⟩
      case measure => simp only [intOf]; omega
end Go.Proofs.Ythafaococbdhoaa
