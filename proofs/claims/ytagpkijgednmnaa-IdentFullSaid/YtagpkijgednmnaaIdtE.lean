/-
  The contracts of the specification's Add and New, and of New. Condition: lists of at most 512 strings.
-/
import Derived.Test.YtagpkijgednmnaaIdtD
import Derived.Deep.AppendSrc
import Derived.Laws.OwnMore
namespace Go.Proofs.Ytagpkijgednmnaa
open Go.RowKit Go.Maps
set_option linter.unusedVariables false

theorem OwnS.empty (w : World) (base : Nat) (hb : base ≤ w.heap.size) : OwnS (w.alloc (.cells #[] 9)) base (.slice (some ⟨w.heap.size, 0, none⟩) 0 0) [] :=
  ⟨rfl, Or.inr ⟨w.heap.size, 0, #[], rfl, hb, heap_alloc_new w _, Nat.le_refl _, Nat.zero_le _, rfl, rfl⟩⟩
theorem wpList_append_strs {w : World} {ops : Array Oper} {rest : List Oper} {o : Oper} {a : Act} {Q : Exit → Act → World → Prop} (hgd : o.guard = none) (s x : Operand)
    (ho : o.op = .call { callee := .builtin .append, args := #[s, x], argTypes := #[24, 24] })
    (base g n c0 : Nat) (O : List ByteArray) (hs : a.eval s = .slice (some ⟨g, 0, none⟩) n c0) (hO : O.length = n) (hown : OwnS w base (.slice (some ⟨g, 0, none⟩) n c0) O) (A : Option Addr) (m c : Nat) (L : List ByteArray) (hm : L.length = m) (hx : a.eval x = .slice A m c)
    (hr : StR w A L) (hlen : O.length + L.length ≤ 100000) (hbase : base ≤ w.heap.size)
    (h : ∀ v' w', Hid (OwnS w' base v' (O ++ L)) → Hid (w.grownBy w' (some g)) → (v'.ownBlock = some g ∨ v'.ownBlock = some w.heap.size) → wpList Try.prog ops Q rest (a.put o.dst v') w') : wpList Try.prog ops Q (o :: rest) a w := by
  obtain ⟨ii, hii, hz0, hz1, hz2⟩ := info_parts info_str
  subst hO hm
  have key : ∀ ad, A = some ad → (∀ j u, (L.map Value.string)[j]? = some u → w.cell? (ad.add j) = some u) → wpList Try.prog ops Q (o :: rest) a w := fun ad hA hn => by
    subst hA
    refine wpList_append_own_at w hgd s x 24 ho base 9 ii (.string ⟨#[]⟩) 1 16 Try.underlying24 hii hz0 hz1 hz2 rfl (by decide) _ O.length (O.map Value.string) hs hown ad L.length c (L.map Value.string) hx (by simp)
      hn (one_str L) (by unfold maxLen; omega) (by omega) hbase (fun v' w' ho' hg _ hat => h v' w' ?_ hg hat)
    show w'.ownsRow base 9 1 v' (O ++ L).length ((O ++ L).map Value.string)
    rw [List.map_append, List.length_append]
    exact ho'
  by_cases hL : 0 < L.length
  · obtain ⟨b, off, hA, hlt, hc⟩ := hr hL
    refine key _ hA fun j u hj => ?_
    have hj2 : j < L.length := by
      have := (List.getElem?_eq_some_iff.1 hj).1
      simpa using this
    have e : u = .string (L.getD j ByteArray.empty) := by
      rw [List.getElem?_map, List.getElem?_eq_getElem hj2] at hj
      simp at hj
      simp [hj2, hj]
    rw [e]
    rw [Addr.add_lit]
    exact hc j hj2
  · have hL0 : L = [] := List.eq_nil_of_length_eq_zero (by omega)
    subst hL0
    cases A with
    | some ad => exact key ad rfl fun j u hj => by simp at hj
    | none =>
      refine wpList_plain hgd fun K hK => ?_
      have hrun := run_append_room_src (P := Try.prog) w 24 24 o.type 9 ii Try.underlying24 hii g 0 O.length c0 (.slice none 0 c) 0 [] (Src.ofNil w Try.underlying24 c)
        (by rcases hown.2 with ⟨hh, _⟩ | ⟨g', cap, cur, hh, _, _, hn, _⟩
            · cases hh
            · injection hh with _ _ hh; omega) (fun j hj => by cases hj) (fun j hj => by cases hj)
      unfold Oper.wp execOp
      simp only [ho, resolve, invoke, builtin, Sem.run_bind, Sem.run_pure, Result.andThen_ok, List.map_toArray, List.map_cons, List.map_nil, hs, hx]
      rw [show (Value.slice none ([] : List ByteArray).length c) = .slice none 0 c from rfl, hrun]
      refine hK _ _ (h _ _ ?_ ?_ ?_)
      · show Hid (OwnS w base (.slice (some ⟨g, 0, none⟩) O.length c0) (O ++ []))
        rw [List.append_nil]
        exact hown
      · exact World.grownBy.refl _ _
      · exact Or.inl rfl

theorem refFind_in (l : List ByteArray) (s : ByteArray) (A : Option Addr) (cap : Nat) (w : World) (hl : l.length ≤ 1000) (h : StR w A l) (hi : s ∈ l) :
    Calls Try.prog 25 #[.slice A l.length cap, .string s] w fun e w' => e = .returned (.int .i64 (plc l s : Int)) ∧ w = w' := by
  have := refFind_any l s A cap w hl h
  rwa [show fndI l s = (plc l s : Int) by unfold fndI plc; rw [if_pos hi, if_pos hi]] at this
theorem refFind_out (l : List ByteArray) (s : ByteArray) (A : Option Addr) (cap : Nat) (w : World) (hl : l.length ≤ 1000) (h : StR w A l) (hi : s ∉ l) :
    Calls Try.prog 25 #[.slice A l.length cap, .string s] w fun e w' => e = .returned (.int .i64 (-1)) ∧ w = w' := by
  have := refFind_any l s A cap w hl h
  rwa [show fndI l s = -1 by unfold fndI; rw [if_neg hi]] at this

theorem refAdd_err (N : List ByteArray) (s : ByteArray) (A : Option Addr) (cap : Nat) (w : World) (hN : N.length ≤ 512) (h : StR w A N) (hs : s.size ≤ 9223372036854775807) (he : addE N s ≠ 0) :
    Calls Try.prog 18 #[.slice A N.length cap, .string s] w fun e w' => e = .returned (.tuple #[.slice A N.length cap, .int .i64 (addE N s : Int)]) ∧ Below w.heap.size w w' := by
  have HV := Lib.hid (fun w => refValid_any s w hs)
  have HS := Lib.hid h
  by_cases hV : Vd s = true
  · rw [hV] at HV
    by_cases hi : s ∈ N
    · rw [addE_twice hV hi]
      have HF := Lib.hid (fun w h => refFind_in N s A cap w (by omega) h hi)
      obtain ⟨n, hn⟩ : ∃ n, N.length = n := ⟨_, rfl⟩
      obtain ⟨p, hp⟩ : ∃ n, plc N s = n := ⟨_, rfl⟩
      rw [hp] at HF
      rw [hn] at HF ⊢
      have z : (0 : Int) ≤ (p : Int) := by omega
      clear h hs he hi hV hn hp hN
      go_enter Try.func18, Try.ntmps18
      go_wp2_with fail
      refine (HV.out _).mono ?_
      rintro e w1 ⟨rfl, hb1⟩
      go_wp2_with fail
      refine (HF.out _ (HS.out.below hb1)).mono ?_
      rintro e w2 ⟨rfl, rfl⟩
      go_wp2_with fail
      go_ret2
      exact ⟨rfl, hb1⟩
    · by_cases hn5 : N.length = 512
      · rw [addE_full hV hi hn5]
        have HF := Lib.hid (fun w h => refFind_out N s A cap w (by omega) h hi)
        rw [hn5] at HF ⊢
        clear h hs he hi hV hn5 hN
        go_enter Try.func18, Try.ntmps18
        go_wp2_with fail
        refine (HV.out _).mono ?_
        rintro e w1 ⟨rfl, hb1⟩
        go_wp2_with fail
        refine (HF.out _ (HS.out.below hb1)).mono ?_
        rintro e w2 ⟨rfl, rfl⟩
        go_wp2_with fail
        go_ret2
        exact ⟨rfl, hb1⟩
      · exact absurd (addE_ok hV hi hn5) he
  · have hV : Vd s = false := by simpa using hV
    rw [hV] at HV
    rw [addE_name hV]
    obtain ⟨n, hn⟩ : ∃ n, N.length = n := ⟨_, rfl⟩
    rw [hn]
    clear h hs he hV hn hN
    go_enter Try.func18, Try.ntmps18
    go_wp2_with fail
    refine (HV.out _).mono ?_
    rintro e w1 ⟨rfl, hb1⟩
    go_wp2_with fail
    go_ret2
    exact ⟨rfl, hb1⟩

set_option maxRecDepth 100000 in
set_option maxHeartbeats 1000000 in
theorem refAdd_ok (N : List ByteArray) (s : ByteArray) (A : Option Addr) (cap : Nat) (w : World) (hN : N.length ≤ 512) (h : StR w A N) (hs : s.size ≤ 9223372036854775807) (he : addE N s = 0) :
    Calls Try.prog 18 #[.slice A N.length cap, .string s] w fun e w' => ∃ v, e = .returned (.tuple #[v, .int .i64 0]) ∧ OwnS w' w.heap.size v (N ++ [s]) ∧ Below w.heap.size w w' := by
  obtain ⟨hV, hi, hn5⟩ := addE_zero he
  have HV := Lib.hid (fun w => refValid_any s w hs)
  rw [hV] at HV
  have HS := Lib.hid h
  have HF := Lib.hid (fun w h => refFind_out N s A cap w (by omega) h hi)
  obtain ⟨n, hn⟩ : ∃ n, N.length = n := ⟨_, rfl⟩
  rw [hn] at HF hn5 hN ⊢
  have HN := Lib.hid hn
  have z : ¬ (512 : Int) ≤ (n : Int) := by omega
  clear h hs he hi hV hn
  go_enter Try.func18, Try.ntmps18
  go_wp2_with fail
  refine (HV.out _).mono ?_
  rintro e w1 ⟨rfl, hb1⟩
  go_wp2_with fail
  refine (HF.out _ (HS.out.below hb1)).mono ?_
  rintro e w2 ⟨rfl, rfl⟩
  have HS1 := Lib.hid (HS.out.below hb1)
  have hsz := hb1.size
  go_wp2_with (at_builtin; refine wpList_append_strs rfl _ _ rfl w.heap.size w1.heap.size 0 0 [] rfl rfl (OwnS.empty w1 _ hsz) A n cap N HN.out rfl (HS1.out.below ((Below.refl _ _).alloc (Nat.le_refl _) _)) ?x1 ?x2 ?_)
  case x1 => simp [HN.out]; omega
  case x2 => simp; omega
  intro v3 w3 hO3 hg3 hat3
  have hb3 : Below w.heap.size w w3 := (hb1.alloc hsz _).grown hg3.out (by simp; omega) (fun j e => by injection e with e; omega)
  have hO3' : Hid (OwnS w3 w.heap.size v3 N) := hO3
  clear hO3 hg3 hat3 HS HS1
  have hsz3 := hb3.size
  go_wp2_with (at_builtin; refine wpList_append_str rfl _ _ rfl w.heap.size v3 N rfl (hO3'.out.keep ((Keep.refl (fun _ => False) _).alloc _) (fun g _ e => e)) w3.heap.size _ s rfl ?y0 ?y1 ?y2 ?_)
  case y0 => rw [World.cell?_alloc_new]; rfl
  case y1 => rw [HN.out]; omega
  case y2 => simp; omega
  intro v4 w4 hO4 hg4 hat4
  have hb4 : Below w.heap.size w w4 := (hb3.alloc hsz3 _).grown hg4.out (by simp; omega) (fun j e => (World.ownsRow.lt hO3'.out j e).1)
  go_wp2_with fail
  go_ret2
  exact ⟨_, rfl, hO4.out, hb4⟩
end Go.Proofs.Ytagpkijgednmnaa
