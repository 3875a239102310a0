/-
  The contract of Add. Condition: a string of at most 2^63 - 1 bytes.
-/
import Derived.Test.YtagpkijgednmnaaIdtC
import Derived.Test.YtagpkijgednmnaaIdtV
import Derived.Deep.AppendLies
namespace Go.Proofs.Ytagpkijgednmnaa
open Go.RowKit Go.Maps
set_option linter.unusedVariables false

theorem map_nil_eq (w : World) : (binOp .eql 45 (.map none) (.map none)).run Try.prog w = .ok (.bool true) w := by kernel_rfl
theorem map_some_eq (m : Nat) (w : World) : (binOp .eql 45 (.map (some m)) (.map none)).run Try.prog w = .ok (.bool false) w := by kernel_rfl
theorem info_str : (Try.prog.info? 9).map (fun i => (i.zero, i.size, i.bytes)) = some (some (.string ⟨#[]⟩), 1, 16) := by kernel_rfl
theorem one_str (l : List ByteArray) : ∀ u ∈ l.map Value.string, u.oneCell' = true := fun u hu => by
  obtain ⟨s, _, rfl⟩ := List.mem_map.1 hu
  rfl
theorem wpList_append_str {w : World} {ops : Array Oper} {rest : List Oper} {o : Oper} {a : Act} {Q : Exit → Act → World → Prop} (hgd : o.guard = none) (s x : Operand)
    (ho : o.op = .call { callee := .builtin .append, args := #[s, x], argTypes := #[24, 24] })
    (base : Nat) (v : Value) (N : List ByteArray) (hs : a.eval s = v) (hown : OwnS w base v N) (blk c : Nat) (t : ByteArray) (hx : a.eval x = .slice (some ⟨blk, 0, none⟩) 1 c)
    (h0 : w.cell? ⟨blk, 0, none⟩ = some (.string t)) (hlen : N.length ≤ 100000) (hbase : base ≤ w.heap.size)
    (h : ∀ v' w', Hid (OwnS w' base v' (N ++ [t])) → Hid (w.grownBy w' v.ownBlock) → (v'.ownBlock = v.ownBlock ∨ v'.ownBlock = some w.heap.size) → wpList Try.prog ops Q rest (a.put o.dst v') w') : wpList Try.prog ops Q (o :: rest) a w := by
  obtain ⟨ii, hii, hz0, hz1, hz2⟩ := info_parts info_str
  refine wpList_append_own_at w hgd s x 24 ho base 9 ii (.string ⟨#[]⟩) 1 16 Try.underlying24 hii hz0 hz1 hz2 rfl (by decide) v N.length (N.map Value.string) hs hown ⟨blk, 0, none⟩ 1 c [.string t] hx rfl
    (fun j u hj => ?_) (fun u hu => ?_) (by unfold maxLen; omega) (by omega) hbase (fun v' w' ho' hg _ hat => h v' w' ?_ hg hat)
  · match j, hj with
    | 0, hj => simp at hj; subst hj; exact h0
  · simp at hu
    subst hu
    rfl
  · show w'.ownsRow base 9 1 v' (N ++ [t]).length ((N ++ [t]).map Value.string)
    rw [List.map_append, List.length_append]
    exact ho'

theorem len_cell (b : Nat) (A : Option Addr) (n cap : Nat) (w : World) (c0 : w.cell? ⟨b, 0, none⟩ = some (.slice A n cap)) :
    Calls Try.prog 19 #[.pointer (some ⟨b, 0, none⟩)] w fun e w' => e = .returned (.int .i64 (n : Int)) ∧ w = w' := by
  go_enter Try.func19, Try.ntmps19
  go_wp2_with fail
  go_ret
  exact ⟨rfl, rfl⟩

theorem add_err (b : Nat) (S : Nat → Prop) (N : List ByteArray) (s : ByteArray) (w : World) (h : Tab w b S N) (hs : s.size ≤ 9223372036854775807) (he : addE N s ≠ 0) :
    Calls Try.prog 17 #[.pointer (some ⟨b, 0, none⟩), .string s] w fun e w' => e = .returned (.tuple #[.int .i64 0, .int .i64 (addE N s : Int)]) ∧ w = w' := by
  have HV := Lib.hid (fun w => valid_any s w hs)
  by_cases hV : Vd s = true
  · rw [hV] at HV
    by_cases hi : s ∈ N
    · rw [addE_twice hV hi]
      have HF := Lib.hid (find_in b S N s w h hs hi)
      clear h hs he hi hV
      go_enter Try.func17, Try.ntmps17
      go_wp2_with fail
      refine (HV.out _).mono ?_
      rintro e w' ⟨rfl, rfl⟩
      go_wp2_with fail
      refine HF.out.mono ?_
      rintro e w' ⟨rfl, rfl⟩
      go_wp2_with fail
      go_ret2
      exact ⟨rfl, rfl⟩
    · by_cases hn : N.length = 512
      · rw [addE_full hV hi hn]
        have HF := Lib.hid (find_out b S N s w h hs hi)
        have HL := Lib.hid (len_any b S N w h)
        rw [hn] at HL
        clear h hs he hi hV hn
        go_enter Try.func17, Try.ntmps17
        go_wp2_with fail
        refine (HV.out _).mono ?_
        rintro e w' ⟨rfl, rfl⟩
        go_wp2_with fail
        refine HF.out.mono ?_
        rintro e w' ⟨rfl, rfl⟩
        go_wp2_with fail
        refine HL.out.mono ?_
        rintro e w' ⟨rfl, rfl⟩
        go_wp2_with fail
        go_ret2
        exact ⟨rfl, rfl⟩
      · exact absurd (addE_ok hV hi hn) he
  · have hV : Vd s = false := by simpa using hV
    rw [hV] at HV
    rw [addE_name hV]
    clear h hs he hV
    go_enter Try.func17, Try.ntmps17
    go_wp2_with fail
    refine (HV.out _).mono ?_
    rintro e w' ⟨rfl, rfl⟩
    go_wp2_with fail
    go_ret2
    exact ⟨rfl, rfl⟩
theorem add_nil (s : ByteArray) (w : World) : Calls Try.prog 17 #[.pointer none, .string s] w fun e w' => e = .returned (.tuple #[.int .i64 0, .int .i64 11]) ∧ w = w' := by
  go_enter Try.func17, Try.ntmps17
  go_wp2_with fail
  go_ret2
  exact ⟨rfl, rfl⟩

/-- What is known ahead of the append: w is the world when the call began, w2 the world now. -/
structure Ready (w w2 : World) (b m : Nat) (S : Nat → Prop) (N : List ByteArray) (v : Value) (D : DataW Unit) : Prop where
  nice : Nice N
  sb : S b
  lt : ∀ k, S k → k < w.heap.size
  kept : Keep S w w2
  f0 : w2.frozen? ⟨b, 0, none⟩ = false
  f1 : w2.frozen? ⟨b, 1, none⟩ = false
  c0 : w2.cell? ⟨b, 0, none⟩ = some v
  c1 : w2.cell? ⟨b, 1, none⟩ = some (.map (some m))
  own : OwnS w2 0 v N
  vs : ∀ g, v.ownBlock = some g → S g ∧ g ≠ b
  ms : S m ∨ w.heap.size ≤ m
  mb : m ≠ b
  vm : v.ownBlock ≠ some m
  map : w2.ownsMap (H := Unit) Try.prog 9 (plainElem Try.prog 3) m N.length D
  named : Named D N
theorem Ready.next {w w2 : World} {b m : Nat} {S : Nat → Prop} {N : List ByteArray} {v : Value} {D : DataW Unit} (h : Ready w w2 b m S N v D) {o : Obj} {w4 : World} {v' : Value} (hg : (w2.alloc o).grownBy w4 v.ownBlock) :
    w4.cell? ⟨b, 0, none⟩ = some v ∧ w4.cell? ⟨b, 1, none⟩ = some (.map (some m)) ∧ w4.frozen? ⟨b, 0, none⟩ = false ∧
    (w4.setCell ⟨b, 0, none⟩ v').ownsMap (H := Unit) Try.prog 9 (plainElem Try.prog 3) m N.length D := by
  have hb2 : b < w2.heap.size := Nat.lt_of_lt_of_le (h.lt b h.sb) h.kept.size
  have hk : Keep (fun k => v.ownBlock = some k) w2 w4 := (Keep.refl _ _).alloc o |>.grown hg (fun k e => Or.inl e)
  have hnb : ¬ v.ownBlock = some b := fun e => (h.vs b e).2 rfl
  refine ⟨?_, ?_, ?_, ?_⟩
  · rw [hk.cell (p := ⟨b, 0, none⟩) hb2 hnb]; exact h.c0
  · rw [hk.cell (p := ⟨b, 1, none⟩) hb2 hnb]; exact h.c1
  · rw [hk.frozen (p := ⟨b, 0, none⟩) hb2 hnb]; exact h.f0
  · exact ((h.map.alloc o).kept hg (fun e => h.vm e.symm)).setCell h.mb _
theorem Ready.done {w w2 : World} {b m : Nat} {S : Nat → Prop} {N : List ByteArray} {v : Value} {D : DataW Unit} {s : ByteArray} (h : Ready w w2 b m S N v D) (he : addE N s = 0) {o : Obj} {w4 w6 : World} {v' : Value} (hg : (w2.alloc o).grownBy w4 v.ownBlock)
    (hO : OwnS w4 0 v' (N ++ [s])) (hat : v'.ownBlock = v.ownBlock ∨ v'.ownBlock = some (w2.heap.size + 1)) (hM : w6.ownsMap (H := Unit) Try.prog 9 (plainElem Try.prog 3) m (N.length + 1) (D.put (keyL s) (.lit (.int .i64 (N.length : Int)))))
    (hg6 : (w4.setCell ⟨b, 0, none⟩ v').grownBy w6 (some m)) : ∃ S', Tab w6 b S' (N ++ [s]) ∧ Keep S w w6 ∧ ∀ k, S' k → S k ∨ w.heap.size ≤ k := by
  have hb : b < w.heap.size := h.lt b h.sb
  have hb2 : b < w2.heap.size := Nat.lt_of_lt_of_le hb h.kept.size
  have hk24 : Keep (fun k => v.ownBlock = some k) w2 w4 := (Keep.refl _ _).alloc o |>.grown hg (fun k e => Or.inl e)
  have hb4 : b < w4.heap.size := Nat.lt_of_lt_of_le hb2 hk24.size
  have hnb : ¬ v.ownBlock = some b := fun e => (h.vs b e).2 rfl
  have hk46 : Keep (fun k => k = b ∨ k = m) w4 w6 := ((Keep.refl (fun k => k = b ∨ k = m) w4).set ⟨b, 0, none⟩ v' (Or.inl rfl)).grown hg6 (fun k e => Or.inl (Or.inr (by injection e with e; exact e.symm)))
  have hsz : w.heap.size ≤ w6.heap.size := Nat.le_trans h.kept.size (Nat.le_trans hk24.size hk46.size)
  have hvb : ∀ g, v'.ownBlock = some g → g ≠ b ∧ g ≠ m ∧ (S g ∨ w.heap.size ≤ g) ∧ g < w6.heap.size := fun g e => by
    have hlt := (World.ownsRow.lt hO g e).2
    have hlt6 : g < w6.heap.size := Nat.lt_of_lt_of_le hlt hk46.size
    have hml := h.map.lt
    have hs2 := h.kept.size
    rcases hat with h1 | h1
    · rw [e] at h1
      have h2 := h.vs g h1.symm
      exact ⟨h2.2, fun e2 => h.vm (by rw [← h1, e2]), Or.inl h2.1, hlt6⟩
    · rw [e] at h1
      injection h1 with h1
      exact ⟨by omega, by omega, Or.inr (by omega), hlt6⟩
  refine ⟨fun k => (S k ∨ w.heap.size ≤ k) ∧ k < w6.heap.size, ⟨h.nice.snoc he, ⟨Or.inl h.sb, by omega⟩, fun k hk => hk.2, ?_, ?_, v', some m, ?_, ?_, ?_, fun g e => ⟨⟨(hvb g e).2.2.1, (hvb g e).2.2.2⟩, (hvb g e).1⟩,
    Or.inr ⟨m, _, rfl, ⟨h.ms, hM.lt⟩, h.mb, fun e => (hvb m e).2.1 rfl, by rw [List.length_append]; exact hM, h.named.snoc (addE_zero he).2.1⟩⟩, ?_, fun k hk => hk.1⟩
  · have e1 : w6.frozen? ⟨b, 0, none⟩ = (w4.setCell ⟨b, 0, none⟩ v').frozen? ⟨b, 0, none⟩ := hg6.frozen_far ⟨b, 0, none⟩ (by simpa using hb4) (fun e => h.mb (by injection e with e; exact e.symm))
    rw [e1, World.frozen?_setCell, hk24.frozen (p := ⟨b, 0, none⟩) hb2 hnb]; exact h.f0
  · have e1 : w6.frozen? ⟨b, 1, none⟩ = (w4.setCell ⟨b, 0, none⟩ v').frozen? ⟨b, 1, none⟩ := hg6.frozen_far ⟨b, 1, none⟩ (by simpa using hb4) (fun e => h.mb (by injection e with e; exact e.symm))
    rw [e1, World.frozen?_setCell, hk24.frozen (p := ⟨b, 1, none⟩) hb2 hnb]; exact h.f1
  · have e1 : w6.cell? ⟨b, 0, none⟩ = (w4.setCell ⟨b, 0, none⟩ v').cell? ⟨b, 0, none⟩ := hg6.cell_far ⟨b, 0, none⟩ (by simpa using hb4) (fun e => h.mb (by injection e with e; exact e.symm))
    have e2 : w4.cell? ⟨b, 0, none⟩ = some v := by rw [hk24.cell (p := ⟨b, 0, none⟩) hb2 hnb]; exact h.c0
    rw [e1, World.cell?_setCell_same _ _ _ e2]
  · have e1 : w6.cell? ⟨b, 1, none⟩ = (w4.setCell ⟨b, 0, none⟩ v').cell? ⟨b, 1, none⟩ := hg6.cell_far ⟨b, 1, none⟩ (by simpa using hb4) (fun e => h.mb (by injection e with e; exact e.symm))
    have e2 : w4.cell? ⟨b, 1, none⟩ = some (.map (some m)) := by rw [hk24.cell (p := ⟨b, 1, none⟩) hb2 hnb]; exact h.c1
    rw [e1, World.cell?_setCell_other _ _ _ _ (by simp), e2]
  · exact hO.keep hk46 (fun g e => by have := hvb g e; rintro (h1 | h1); exact this.1 h1; exact this.2.1 h1)
  · refine (h.kept.trans hk24 (fun k e => Or.inl (h.vs k e).1)).trans hk46 (fun k e => ?_)
    rcases e with rfl | rfl
    · exact Or.inl h.sb
    · exact h.ms


set_option maxRecDepth 100000 in
set_option maxHeartbeats 2000000 in
/-- Add of a new identifier to a table that has a map. -/
theorem add_more (b m : Nat) (S : Nat → Prop) (N : List ByteArray) (s : ByteArray) (w : World) (A : Option Addr) (cap : Nat) (D : DataW Unit) (h : Tab w b S N) (hr : Ready w w b m S N (.slice A N.length cap) D) (hs : s.size ≤ 9223372036854775807) (he : addE N s = 0) :
    Calls Try.prog 17 #[.pointer (some ⟨b, 0, none⟩), .string s] w fun e w' => e = .returned (.tuple #[.int .i64 (N.length : Int), .int .i64 0]) ∧ ∃ S', Tab w' b S' (N ++ [s]) ∧ Keep S w w' ∧ ∀ k, S' k → S k ∨ w.heap.size ≤ k := by
  obtain ⟨hV, hi, hn5⟩ := addE_zero he
  have HV := Lib.hid (fun w => valid_any s w hs)
  rw [hV] at HV
  have HF := Lib.hid (find_out b S N s w h hs hi)
  have HK := Lib.hid (key_of s hs)
  have HE := Lib.hid he
  have hle := h.1.2.1
  have d0 := hr.c0
  have d1 := hr.c1
  have HO := Lib.hid hr.own
  have HR := Lib.hid hr
  have HW : Hid ((Lit.int .i64 (N.length : Int)).wf = true) := Lib.hid (WalkArith.wf_i64 (by omega))
  have hbw : b < w.heap.size := hr.lt b hr.sb
  obtain ⟨n, hn⟩ : ∃ n, N.length = n := ⟨_, rfl⟩
  rw [hn] at d0 hn5 HR HO hle HW ⊢
  have HN := Lib.hid hn
  have HL := Lib.hid (len_cell b A n cap w d0)
  have heq := map_some_eq
  have z5 : ¬ (n : Int) = 512 := by omega
  have z5b : ((n : Int) == 512) = false := beq_eq_false_iff_ne.2 z5
  clear h hs he hi hn5 hn hr hV
  go_enter Try.func17, Try.ntmps17
  go_wp2_with fail
  refine (HV.out _).mono ?_
  rintro e w' ⟨rfl, rfl⟩
  go_wp2_with fail
  refine HF.out.mono ?_
  rintro e w' ⟨rfl, rfl⟩
  go_wp2_with fail
  refine HL.out.mono ?_
  rintro e w' ⟨rfl, rfl⟩
  go_wp2_with fail
  refine (len_cell b A n cap _ d0).mono ?_
  rintro e w' ⟨rfl, rfl⟩
  go_wp2_with (at_builtin; refine wpList_append_str rfl _ _ rfl 0 (.slice A n cap) N rfl (HO.out.keep ((Keep.refl (fun _ => False) _).alloc _) (fun g _ e => e)) w.heap.size _ s rfl ?x0 ?x1 ?x2 ?_)
  case x0 => rw [World.cell?_alloc_new]; rfl
  case x1 => rw [HN.out]; omega
  case x2 => exact Nat.zero_le _
  intro v4 w4 hO4 hg4 hat4
  obtain ⟨A4, cap4, hv4, _, _⟩ := hO4.out.form
  rw [show (N ++ [s]).length = n + 1 by simp [HN.out]] at hv4
  subst hv4
  obtain ⟨e0, e1, e2, hM4⟩ := HR.out.next (v' := .slice A4 (n + 1) cap4) hg4.out
  have HM4 := Lib.hid hM4
  clear hM4
  go_wp2_with (at_mapUpdate; go_loud (refine wpList_mapUpdate_own _ rfl _ _ _ 45 rfl 9 3 keyK Try.underlying45 _ m N.length D rfl HM4.out ?y0 _ _ _ rfl rfl HK.out _ [] (plainElem_int Try.underlying3 HW.out) ?_))
  case y0 => unfold maxLen; rw [HN.out]; omega
  intro w6 hM6 hg6
  go_wp2_with fail
  go_ret2
  refine ⟨rfl, HR.out.done HE.out hg4.out hO4.out hat4 (by rw [← HN.out] at hM6; exact hM6) hg6⟩

set_option maxRecDepth 100000 in
set_option maxHeartbeats 2000000 in
/-- Add of the first identifier. -/
theorem add_first (b : Nat) (S : Nat → Prop) (s : ByteArray) (w : World) (A : Option Addr) (cap : Nat) (h : Tab w b S []) (c0 : w.cell? ⟨b, 0, none⟩ = some (.slice A 0 cap)) (c1 : w.cell? ⟨b, 1, none⟩ = some (.map none)) (hown : OwnS w 0 (.slice A 0 cap) [])
    (hvs : ∀ g, (Value.slice A 0 cap).ownBlock = some g → S g ∧ g ≠ b) (hs : s.size ≤ 9223372036854775807) (he : addE [] s = 0) :
    Calls Try.prog 17 #[.pointer (some ⟨b, 0, none⟩), .string s] w fun e w' => e = .returned (.tuple #[.int .i64 0, .int .i64 0]) ∧ ∃ S', Tab w' b S' ([] ++ [s]) ∧ Keep S w w' ∧ ∀ k, S' k → S k ∨ w.heap.size ≤ k := by
  obtain ⟨hV, hi, hn5⟩ := addE_zero he
  have HV := Lib.hid (fun w => valid_any s w hs)
  rw [hV] at HV
  have HF := Lib.hid (find_out b S [] s w h hs hi)
  have HK := Lib.hid (key_of s hs)
  have HE := Lib.hid he
  have HT := Lib.hid h
  have f1 := h.2.2.2.2.1
  have HOWN := Lib.hid hown
  have HVS := Lib.hid hvs
  have HW : Hid ((Lit.int .i64 (0 : Int)).wf = true) := Lib.hid (by decide)
  have hbw : b < w.heap.size := h.lt b h.2.1
  have hmm := @run_makeMap Try.prog
  have heq := map_nil_eq
  have HL := Lib.hid (len_cell b A 0 cap w c0)
  obtain ⟨N, hN0⟩ : ∃ N : List ByteArray, N = [] := ⟨_, rfl⟩
  clear h hs he hi hn5 hV hown hvs
  go_enter Try.func17, Try.ntmps17
  go_wp2_with fail
  refine (HV.out _).mono ?_
  rintro e w' ⟨rfl, rfl⟩
  go_wp2_with fail
  refine HF.out.mono ?_
  rintro e w' ⟨rfl, rfl⟩
  go_wp2_with fail
  refine HL.out.mono ?_
  rintro e w' ⟨rfl, rfl⟩
  go_wp2_with fail
  have hr : Ready w ((w.setCell ⟨b, 1, none⟩ (.map (some w.heap.size))).alloc (.map #[] 0)) b w.heap.size S [] (.slice A 0 cap) (.map []) := by
    have hT := HT.out
    have hbs : b < (w.setCell ⟨b, 1, none⟩ (.map (some w.heap.size))).heap.size := by rw [World.size_setCell]; exact hbw
    refine ⟨hT.1, hT.2.1, hT.lt, ((Keep.refl S w).set ⟨b, 1, none⟩ _ hT.2.1).alloc _, ?_, ?_, ?_, ?_, ?_, HVS.out, Or.inr (Nat.le_refl _), by omega, fun e => ?_, ?_, Named.nil⟩
    · rw [World.frozen?_alloc_past _ _ _ hbs, World.frozen?_setCell]; exact hT.2.2.2.1
    · rw [World.frozen?_alloc_past _ _ _ hbs, World.frozen?_setCell]; exact hT.2.2.2.2.1
    · rw [World.cell?_alloc_past _ _ _ hbs, World.cell?_setCell_other _ _ _ _ (by simp)]; exact c0
    · rw [World.cell?_alloc_past _ _ _ hbs]; exact World.cell?_setCell_same _ _ _ c1
    · exact HOWN.out.keep (((Keep.refl (fun k => k = b) w).set ⟨b, 1, none⟩ _ rfl).alloc _) (fun g e e2 => (HVS.out g e).2 e2)
    · have := HT.out.lt _ (HVS.out _ e).1
      omega
    · have := World.ownsMap_made (H := Unit) (w.setCell ⟨b, 1, none⟩ (.map (some w.heap.size))) Try.prog 9 (plainElem Try.prog 3)
      rw [World.size_setCell] at this
      exact this
  have d0 := hr.c0
  have d1 := hr.c1
  have HO := Lib.hid hr.own
  have HR := Lib.hid hr
  have hbw2 : b < ((w.setCell ⟨b, 1, none⟩ (.map (some w.heap.size))).alloc (.map #[] 0)).heap.size := by simp; omega
  generalize (w.setCell ⟨b, 1, none⟩ (.map (some w.heap.size))).alloc (.map #[] 0) = w2 at d0 d1 HO HR hbw2 ⊢
  clear hr c0 c1 f1 HT HOWN HVS
  refine (len_cell b A 0 cap _ d0).mono ?_
  rintro e w' ⟨rfl, rfl⟩
  go_wp2_with (at_builtin; refine wpList_append_str rfl _ _ rfl 0 (.slice A 0 cap) [] rfl (HO.out.keep ((Keep.refl (fun _ => False) _).alloc _) (fun g _ e => e)) w2.heap.size _ s rfl ?x0 ?x1 ?x2 ?_)
  case x0 => rw [World.cell?_alloc_new]; rfl
  case x1 => simp
  case x2 => exact Nat.zero_le _
  intro v4 w4 hO4 hg4 hat4
  obtain ⟨A4, cap4, hv4, _, _⟩ := hO4.out.form
  rw [show [s].length = 0 + 1 from rfl] at hv4
  subst hv4
  obtain ⟨e0, e1, e2, hM4⟩ := HR.out.next (v' := .slice A4 (0 + 1) cap4) hg4.out
  have HM4 := Lib.hid hM4
  clear hM4
  go_wp2_with (at_mapUpdate; go_loud (refine wpList_mapUpdate_own _ rfl _ _ _ 45 rfl 9 3 keyK Try.underlying45 _ w.heap.size 0 (.map []) rfl HM4.out ?y0 _ _ _ rfl rfl HK.out _ [] (plainElem_int Try.underlying3 HW.out) ?_))
  case y0 => decide
  intro w6 hM6 hg6
  go_wp2_with fail
  go_ret2
  refine ⟨rfl, HR.out.done HE.out hg4.out hO4.out hat4 hM6 hg6⟩

theorem add_ok (b : Nat) (S : Nat → Prop) (N : List ByteArray) (s : ByteArray) (w : World) (h : Tab w b S N) (hs : s.size ≤ 9223372036854775807) (he : addE N s = 0) :
    Calls Try.prog 17 #[.pointer (some ⟨b, 0, none⟩), .string s] w fun e w' => e = .returned (.tuple #[.int .i64 (N.length : Int), .int .i64 0]) ∧ ∃ S', Tab w' b S' (N ++ [s]) ∧ Keep S w w' ∧ ∀ k, S' k → S k ∨ w.heap.size ≤ k := by
  have hT := h
  obtain ⟨h1, h2, h3, f0, f1, v, o, c0, c1, hv, hg, hm⟩ := h
  obtain ⟨A, cap, rfl, _, _⟩ := hv.form
  rcases hm with ⟨rfl, rfl⟩ | ⟨m, D, rfl, e2, e3, e4, hown, hN⟩
  · exact add_first b S s w A cap hT c0 c1 hv hg hs he
  · exact add_more b m S N s w A cap D hT ⟨h1, h2, h3, Keep.refl _ _, f0, f1, c0, c1, hv, hg, Or.inl e2, e3, e4, hown, hN⟩ hs he
theorem add_any (b : Nat) (S : Nat → Prop) (N : List ByteArray) (s : ByteArray) (w : World) (h : Tab w b S N) (hs : s.size ≤ 9223372036854775807) :
    Calls Try.prog 17 #[.pointer (some ⟨b, 0, none⟩), .string s] w fun e w' => e = .returned (.tuple #[.int .i64 (addN N s : Int), .int .i64 (addE N s : Int)]) ∧ ∃ S', Tab w' b S' (addL N s) ∧ Keep S w w' ∧ ∀ k, S' k → S k ∨ w.heap.size ≤ k := by
  by_cases he : addE N s = 0
  · rw [addN_ok he, addL_ok he, he]
    exact add_ok b S N s w h hs he
  · rw [addN_err he, addL_err he]
    refine (add_err b S N s w h hs he).mono ?_
    rintro e w' ⟨rfl, rfl⟩
    exact ⟨rfl, S, h, Keep.refl _ _, fun k hk => Or.inl hk⟩
end Go.Proofs.Ytagpkijgednmnaa
