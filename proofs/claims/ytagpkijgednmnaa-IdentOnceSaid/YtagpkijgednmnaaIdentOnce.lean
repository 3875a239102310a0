/-
  P3.2, P3.3: IdentOnce: for every list of at most 60 strings of at most 100 bytes (else the chapter's examples alone), adding a list again adds nothing, and New accepts exactly the lists of different identifiers; and the chapter's examples hold. Conditions: none but the row's own.
-/
import Derived.Test.YtagpkijgednmnaaIdtP
import Derived.Lib.QuietBelow
namespace Go.Proofs.Ytagpkijgednmnaa.identOnce
open Go.ChangeShapes Go.WideShapes Go.ChangeAt Go.RowKit Go.Maps
set_option linter.unusedVariables false

theorem takeS_mem {l : List ByteArray} {k : Nat} (hk : k ≤ l.length) {s : ByteArray} : s ∈ l.take k ↔ ∃ m, m < k ∧ l.getD m ByteArray.empty = s := by
  constructor
  · intro h
    obtain ⟨m, hm, e⟩ := List.getElem_of_mem h
    rw [List.length_take] at hm
    refine ⟨m, by omega, ?_⟩
    rw [List.getElem_take] at e
    have : m < l.length := by omega
    simp [this, e]
  · rintro ⟨m, hm, rfl⟩
    have h : m < l.length := by omega
    have e : l.getD m ByteArray.empty = (l.take k)[m]'(by rw [List.length_take]; omega) := by simp [h]
    rw [e]
    exact List.getElem_mem _
/-- All of the first i are identifiers, and different. -/
def gd (l : List ByteArray) (i : Nat) : Bool := (List.range i).all fun j => Vd (l.getD j ByteArray.empty) && (List.range j).all fun m => decide (l.getD j ByteArray.empty ≠ l.getD m ByteArray.empty)
def gi (l : List ByteArray) (i k : Nat) : Bool := gd l i && Vd (l.getD i ByteArray.empty) && (List.range k).all fun m => decide (l.getD i ByteArray.empty ≠ l.getD m ByteArray.empty)
theorem gd_zero (l : List ByteArray) : gd l 0 = true := rfl
theorem gi_zero (l : List ByteArray) (i : Nat) : gi l i 0 = (gd l i && Vd (l.getD i ByteArray.empty)) := by unfold gi; simp
theorem gi_succ (l : List ByteArray) (i k : Nat) : gi l i (k + 1) = (gi l i k && decide (l.getD i ByteArray.empty ≠ l.getD k ByteArray.empty)) := by
  unfold gi
  rw [List.range_succ, List.all_append]
  simp [Bool.and_assoc]
theorem gd_succ (l : List ByteArray) (i : Nat) : gd l (i + 1) = gi l i i := by
  unfold gi
  conv => lhs; unfold gd
  rw [List.range_succ, List.all_append]
  simp [gd, Bool.and_assoc]
theorem gd_add {l : List ByteArray} {k : Nat} (hk : k < l.length) (h60 : l.length ≤ 60) (h : gd l (k + 1) = true) : addE (l.take k) (l.getD k ByteArray.empty) = 0 := by
  rw [gd_succ] at h
  unfold gi at h
  simp only [Bool.and_eq_true, List.all_eq_true, List.mem_range, decide_eq_true_eq] at h
  refine addE_ok h.1.2 (fun hm => ?_) (by rw [List.length_take]; omega)
  obtain ⟨m, hm, e⟩ := (takeS_mem (by omega)).1 hm
  exact h.2 m hm e.symm
theorem gd_mono {l : List ByteArray} {k : Nat} (h : gd l (k + 1) = true) : gd l k = true := by
  rw [gd_succ] at h
  unfold gi at h
  simp only [Bool.and_eq_true] at h
  exact h.1.1
theorem gd_le {l : List ByteArray} {n : Nat} (h : gd l n = true) : ∀ d k, k + d = n → gd l k = true
  | 0, k, e => by rw [← e] at h; exact h
  | d + 1, k, e => gd_mono (gd_le h d (k + 1) (by omega))
theorem gd_new {l : List ByteArray} (h60 : l.length ≤ 60) (h : gd l l.length = true) : newE [] l = 0 := by
  have : ∀ k, k ≤ l.length → newE [] l = newE (l.take k) (l.drop k) := fun k => by
    induction k with
    | zero => intro _; rfl
    | succ k ih => exact fun hk => newE_step (by omega) (ih (by omega)) (gd_add (by omega) h60 (gd_le h (l.length - (k + 1)) (k + 1) (by omega)))
  exact newE_end (Nat.le_refl _) (this _ (Nat.le_refl _))
theorem new_gd {l : List ByteArray} (h : newE [] l = 0) : gd l l.length = true := by
  have : ∀ k, k ≤ l.length → newE [] l = newE (l.take k) (l.drop k) ∧ gd l k = true := fun k => by
    induction k with
    | zero => exact fun _ => ⟨rfl, rfl⟩
    | succ k ih =>
      intro hk
      obtain ⟨h1, h2⟩ := ih (by omega)
      by_cases he : addE (l.take k) (l.getD k ByteArray.empty) = 0
      · refine ⟨newE_step (by omega) h1 he, ?_⟩
        obtain ⟨a1, a2, _⟩ := addE_zero he
        rw [gd_succ]
        unfold gi
        rw [h2, a1, Bool.true_and, Bool.true_and, List.all_eq_true]
        intro m hm
        refine decide_eq_true fun e => a2 ((takeS_mem (by omega)).2 ⟨m, List.mem_range.1 hm, e.symm⟩)
      · have := newE_stop (by omega) h1 he
        omega
  exact (this _ (Nat.le_refl _)).2
theorem gd_twice {l : List ByteArray} (h : gd l l.length = true) {k : Nat} (hk : k < l.length) : addE l (l.getD k ByteArray.empty) = 6 := by
  have h1 := gd_le h (l.length - (k + 1)) (k + 1) (by omega)
  rw [gd_succ] at h1
  unfold gi at h1
  simp only [Bool.and_eq_true] at h1
  exact addE_twice h1.1.2 (by simp [hk])

attribute [local irreducible] wpQuiet

set_option maxRecDepth 100000 in
set_option maxHeartbeats 4000000 in
theorem walk (w : World) (A0 : Option Addr) (l0 : List ByteArray) (c0 : Nat) (hi0 : StR w A0 l0) (hw0 : WideS l0) (hl0 : l0.length ≤ 9223372036854775807) :
    Calls Try.prog 7 #[.slice A0 l0.length c0] w fun e w' => e = .returned (.bool true) ∧ Below w.heap.size w w' := by
  have HF := Lib.hid (few_any l0 A0 c0 w hl0 hw0 hi0)
  by_cases hf : fewB l0 = true
  rotate_left
  · have hf : fewB l0 = false := by simpa using hf
    rw [hf] at HF
    obtain ⟨n, hn⟩ : ∃ n, l0.length = n := ⟨_, rfl⟩
    rw [hn] at HF ⊢
    clear hn hi0 hw0 hl0
    go_enter Try.func7, Try.ntmps7
    go_wp2_with fail
    refine HF.out.mono ?_
    rintro e w1 ⟨rfl, rfl⟩
    go_wp2_with fail
    refine (awake_any _).mono ?_
    rintro e w9 ⟨rfl, hb9⟩
    go_wp2_with fail
    go_ret
    exact ⟨rfl, hb9⟩
  have hlen := (of_decide_eq_true hf : _ ∧ l0.length ≤ 60).2
  rw [hf] at HF
  have HNEW := Lib.hid (fun w1 (hb1 : Below w.heap.size w w1) => new_any l0 A0 c0 w1 (by omega) hw0 (hi0.below hb1))
  have HH := Lib.hid hi0
  have HW := Lib.hid hw0
  have HG1 := Lib.hid (gd_new hlen)
  have HG2 := Lib.hid (new_gd (l := l0))
  have HTW := Lib.hid (fun h k hk => gd_twice (l := l0) h (k := k) hk)
  obtain ⟨n, hn⟩ : ∃ n, l0.length = n := ⟨_, rfl⟩
  rw [hn] at HF hlen HNEW HG1 HG2 HTW ⊢
  have HL := Lib.hid hn
  clear hn hi0 hw0 hl0 hf
  go_enter Try.func7, Try.ntmps7
  go_wp2_with fail
  refine HF.out.mono ?_
  rintro e w1 ⟨rfl, rfl⟩
  clear HF
  go_wp2_with fail
  go_loopw [3, 4] (fun v i wr => ∃ (k : Nat), k ≤ n ∧ i = .int .i64 (k : Int) ∧ v = .bool (gd l0 k) ∧ Below w.heap.size w wr) (fun _ i _ => n - (intOf i).toNat)
  case atStart => exact ⟨0, Nat.zero_le _, rfl, rfl, Below.refl _ _⟩
  case round =>
    obtain ⟨i0, hi0, rfl, rfl, hB⟩ := hrel
    by_cases hlt : i0 < n
    · have hkl : i0 < l0.length := by rw [HL.out]; exact hlt
      obtain ⟨bb, oo, rfl, hbl, hc⟩ := (HH.out) (by omega)
      have c0 := hc i0 hkl
      have HCC := Lib.hid hc
      have hx := HW.out i0 hkl
      have c0r : wr.cell? ⟨bb, oo + i0, none⟩ = some (.string (l0.getD i0 ByteArray.empty)) := by rw [hB.cell (p := ⟨bb, oo + i0, none⟩) hbl]; exact c0
      obtain ⟨s, hs⟩ : ∃ s, l0.getD i0 ByteArray.empty = s := ⟨_, rfl⟩
      have HSI := Lib.hid hs
      rw [hs] at hx c0 c0r
      have CI := Lib.hid c0
      have HV := Lib.hid (fun w => valid_any s w hx)
      clear hs hkl hc hx c0
      have hltz : (i0 : Int) < (n : Int) := by omega
      cases hg : gd l0 i0
      · have HGI : Hid ((gd l0 i0 && Vd (l0.getD i0 ByteArray.empty)) = false) := Lib.hid (by rw [hg]; rfl)
        clear hg
        go_wp2_with fail
        go_loopw [3, 5] (fun v i ws => ∃ k : Nat, k ≤ i0 ∧ i = .int .i64 (k : Int) ∧ v = .bool (gi l0 i0 k) ∧ Below w.heap.size w ws) (fun _ i _ => i0 - (intOf i).toNat)
        case atStart => exact ⟨0, Nat.zero_le _, rfl, by rw [gi_zero, HGI.out], hB⟩
        case round =>
          clear hB
          obtain ⟨k, hk, rfl, rfl, hB⟩ := hrel
          by_cases hlk : k < i0
          · have hlkz : (k : Int) < (i0 : Int) := by omega
            have hlkn : (k : Int) < (n : Int) := by omega
            have hB2 : ∀ nq, Below w.heap.size w (wr.drewN nq) := fun nq => hB.trans ((below_drewN' wr nq).mono hB.size)
            have HB2 := Lib.hid hB2
            have HGS := Lib.hid (gi_succ l0 i0 k)
            have ci : wr.cell? ⟨bb, oo + i0, none⟩ = some (.string s) := by rw [hB.cell (p := ⟨bb, oo + i0, none⟩) hbl]; exact CI.out
            have ck : wr.cell? ⟨bb, oo + k, none⟩ = some (.string (l0.getD k ByteArray.empty)) := by rw [hB.cell (p := ⟨bb, oo + k, none⟩) hbl]; exact HCC.out k (by rw [HL.out]; omega)
            obtain ⟨t, ht⟩ : ∃ t, l0.getD k ByteArray.empty = t := ⟨_, rfl⟩
            rw [ht, HSI.out] at HGS
            rw [ht] at ck
            clear ht hB2
            cases hg : gi l0 i0 k
            · rw [hg] at HGS
              clear hg
              go_wp2_with fail
              go_quiet (fail)
              go_wp2_with fail
              go_roundw
              case rel => exact ⟨k + 1, by omega, by go_num, by rw [HGS.out]; rfl, HB2.out _⟩
              case measure => simp only [intOf]; omega
            · rw [hg] at HGS
              clear hg
              by_cases heq : s = t
              · have HX : Hid (gi l0 i0 (k + 1) = false) := Lib.hid (by rw [HGS.out, heq]; simp)
                subst heq
                have hb1 : (s.toList == s.toList) = true := beq_self_eq_true _
                clear HGS
                go_wp2_with fail
                go_quiet (fail)
                go_wp2_with fail
                go_roundw
                case rel => exact ⟨k + 1, by omega, by go_num, by rw [HX.out], HB2.out _⟩
                case measure => simp only [intOf]; omega
              · have HX : Hid (gi l0 i0 (k + 1) = true) := Lib.hid (by rw [HGS.out]; simp [heq])
                have hb1 := str_ne heq
                clear HGS
                go_wp2_with fail
                go_quiet (fail)
                go_wp2_with fail
                go_roundw
                case rel => exact ⟨k + 1, by omega, by go_num, by rw [HX.out], HB2.out _⟩
                case measure => simp only [intOf]; omega
          · have hnlk : ¬ (k : Int) < (i0 : Int) := by omega
            obtain rfl : k = i0 := by omega
            have HG := Lib.hid (gd_succ l0 k)
            go_wp2_with fail
            go_roundw
            case rel => exact ⟨k + 1, by omega, by go_num, by rw [HG.out], hB⟩
            case measure => simp only [intOf]; omega
      · have HGI := Lib.hid (show (gd l0 i0 && Vd (l0.getD i0 ByteArray.empty)) = Vd s by rw [hg, HSI.out, Bool.true_and])
        cases hv : Vd s
        all_goals
          rw [hv] at HV HGI
          clear hv
        all_goals clear hg
        all_goals
          go_wp2_with fail
          refine (HV.out _).mono ?_
          rintro e w2 ⟨rfl, rfl⟩
          go_wp2_with fail
          go_loopw [3, 5] (fun v i ws => ∃ k : Nat, k ≤ i0 ∧ i = .int .i64 (k : Int) ∧ v = .bool (gi l0 i0 k) ∧ Below w.heap.size w ws) (fun _ i _ => i0 - (intOf i).toNat)
          case atStart => exact ⟨0, Nat.zero_le _, rfl, by rw [gi_zero, HGI.out], hB⟩
          case round =>
            clear hB
            obtain ⟨k, hk, rfl, rfl, hB⟩ := hrel
            by_cases hlk : k < i0
            · have hlkz : (k : Int) < (i0 : Int) := by omega
              have hlkn : (k : Int) < (n : Int) := by omega
              have hB2 : ∀ nq, Below w.heap.size w (wr.drewN nq) := fun nq => hB.trans ((below_drewN' wr nq).mono hB.size)
              have HB2 := Lib.hid hB2
              have HGS := Lib.hid (gi_succ l0 i0 k)
              have ci : wr.cell? ⟨bb, oo + i0, none⟩ = some (.string s) := by rw [hB.cell (p := ⟨bb, oo + i0, none⟩) hbl]; exact CI.out
              have ck : wr.cell? ⟨bb, oo + k, none⟩ = some (.string (l0.getD k ByteArray.empty)) := by rw [hB.cell (p := ⟨bb, oo + k, none⟩) hbl]; exact HCC.out k (by rw [HL.out]; omega)
              obtain ⟨t, ht⟩ : ∃ t, l0.getD k ByteArray.empty = t := ⟨_, rfl⟩
              rw [ht, HSI.out] at HGS
              rw [ht] at ck
              clear ht hB2
              cases hg : gi l0 i0 k
              · rw [hg] at HGS
                clear hg
                go_wp2_with fail
                go_quiet (fail)
                go_wp2_with fail
                go_roundw
                case rel => exact ⟨k + 1, by omega, by go_num, by rw [HGS.out]; rfl, HB2.out _⟩
                case measure => simp only [intOf]; omega
              · rw [hg] at HGS
                clear hg
                by_cases heq : s = t
                · have HX : Hid (gi l0 i0 (k + 1) = false) := Lib.hid (by rw [HGS.out, heq]; simp)
                  subst heq
                  have hb1 : (s.toList == s.toList) = true := beq_self_eq_true _
                  clear HGS
                  go_wp2_with fail
                  go_quiet (fail)
                  go_wp2_with fail
                  go_roundw
                  case rel => exact ⟨k + 1, by omega, by go_num, by rw [HX.out], HB2.out _⟩
                  case measure => simp only [intOf]; omega
                · have HX : Hid (gi l0 i0 (k + 1) = true) := Lib.hid (by rw [HGS.out]; simp [heq])
                  have hb1 := str_ne heq
                  clear HGS
                  go_wp2_with fail
                  go_quiet (fail)
                  go_wp2_with fail
                  go_roundw
                  case rel => exact ⟨k + 1, by omega, by go_num, by rw [HX.out], HB2.out _⟩
                  case measure => simp only [intOf]; omega
            · have hnlk : ¬ (k : Int) < (i0 : Int) := by omega
              obtain rfl : k = i0 := by omega
              have HG := Lib.hid (gd_succ l0 k)
              go_wp2_with fail
              go_roundw
              case rel => exact ⟨k + 1, by omega, by go_num, by rw [HG.out], hB⟩
              case measure => simp only [intOf]; omega
    · have hnlt : ¬ (i0 : Int) < (n : Int) := by omega
      obtain rfl : i0 = n := by omega
      by_cases he : newE [] l0 = 0
      · have hg := HG2.out he
        have HE := Lib.hid he
        have HTW2 := Lib.hid (HTW.out hg)
        rw [hg]
        clear hg he HG1 HG2 HTW
        go_wp2_with fail
        refine (HNEW.out _ hB).mono ?_
        rintro e w2 ⟨hB2, ⟨_, b, S, rfl, hT, hS⟩ | ⟨hne, _⟩⟩
        rotate_left
        · exact absurd HE.out hne
        have HT := Lib.hid hT
        have hB3 : Below w.heap.size w w2 := hB.trans (hB2.mono hB.size)
        have HLN := Lib.hid (len_any b S l0 w2 hT)
        rw [HL.out] at HLN
        clear hT hS hB2 hB HNEW
        go_wp2_with fail
        go_loop [8] (fun i => ∃ j : Nat, j ≤ i0 ∧ i = .int .i64 (j : Int)) (fun i => i0 - (intOf i).toNat)
        case atStart => exact ⟨0, Nat.zero_le _, rfl⟩
        case round =>
          obtain ⟨j, hj, rfl⟩ := hrel
          by_cases hjm : j < i0
          · have hjz : (j : Int) < (i0 : Int) := by omega
            have hjl : j < l0.length := by rw [HL.out]; exact hjm
            obtain ⟨bb, oo, rfl, hbl, hc⟩ := (HH.out) (by omega)
            have c0 := hc j hjl
            have c0r : w2.cell? ⟨bb, oo + j, none⟩ = some (.string (l0.getD j ByteArray.empty)) := by rw [hB3.cell (p := ⟨bb, oo + j, none⟩) hbl]; exact c0
            have h6 := HTW2.out j hjm
            have HA := Lib.hid (add_err b S l0 _ w2 HT.out (HW.out j hjl) (by rw [h6]; decide))
            rw [h6] at HA
            obtain ⟨s, hs⟩ : ∃ s, l0.getD j ByteArray.empty = s := ⟨_, rfl⟩
            rw [hs] at HA c0r
            clear hs hjl hc c0 h6
            go_wp2_with fail
            refine HA.out.mono ?_
            rintro e w3 ⟨rfl, rfl⟩
            go_wp2_with fail
            go_round
            case rel => exact ⟨j + 1, by omega, by go_num⟩
            case measure => simp only [intOf]; omega
          · have hjz : ¬ (j : Int) < (i0 : Int) := by omega
            go_wp2_with fail
            refine HLN.out.mono ?_
            rintro e w3 ⟨rfl, rfl⟩
            go_wp2_with fail
            refine (awake_any _).mono ?_
            rintro e w9 ⟨rfl, hb9⟩
            go_wp2_with fail
            go_ret
            exact ⟨rfl, hB3.trans (hb9.mono hB3.size)⟩
      · have hg : gd l0 i0 = false := by
          cases hgg : gd l0 i0
          · rfl
          · exact absurd (HG1.out hgg) he
        have hn0 : i0 ≠ 0 := fun e => by rw [e, gd_zero] at hg; cases hg
        have HE := Lib.hid he
        obtain ⟨E, hE⟩ : ∃ E, newE [] l0 = E := ⟨_, rfl⟩
        rw [hE] at he
        have HEE := Lib.hid hE
        have hz : ¬ (E : Int) = 0 := by omega
        have hn0z : (0 : Int) < (i0 : Int) := by omega
        rw [hg]
        clear hg he hE HG1 HG2 HTW
        go_wp2_with fail
        refine (HNEW.out _ hB).mono ?_
        rintro e w2 ⟨hB2, ⟨hne, _⟩ | ⟨_, hret⟩⟩
        · exact absurd hne HE.out
        rw [HEE.out] at hret
        subst hret
        have hB3 : Below w.heap.size w w2 := hB.trans (hB2.mono hB.size)
        clear hB2 hB HNEW
        go_wp2_with fail
        go_loop [8] (fun i => i = .int .i64 0) (fun i => 0)
        case atStart => rfl
        case round =>
          obtain rfl := hrel
          go_wp2_with fail
          refine (awake_any _).mono ?_
          rintro e w9 ⟨rfl, hb9⟩
          go_wp2_with fail
          go_ret
          exact ⟨rfl, hB3.trans (hb9.mono hB3.size)⟩

set_option maxRecDepth 100000 in
theorem lifted (os : Os) (started : os.Started) (H : Type) (enc : TypeId × Value → H) (F : Stop.Interp) :
    ReturnsInHanded {} Try.checked os 7 .any ((OpenSpec.ofChange Rows.identOnceSpec).preRow enc Try.prog Try.f7 Rows.identOnceRow.domain false Rows.identOnceRow.laid) (((OpenSpec.ofChange Rows.identOnceSpec).at F).post enc Try.prog Try.f7 false true false false) := by
  refine returnsInHanded_of_row (C := Try.checked) (s := OpenSpec.ofChange Rows.identOnceSpec) own started (by kernel_rfl) Try.func7
    (ChangeSpec.witness_shaped (enc := enc) (C := Try.checked) (os := os) (X := fun w _ => laidMetH Try.prog Rows.identOnceRow.laid w) false (World.laidAll Try.prog os Rows.identOnceRow.laid) #[.slice none 0 0] 8 (World.laidAll_os _ _ _)
      (World.shaped_of_ZipB (by kernel_rfl) (by kernel_rfl)) (by kernel_rfl) (by kernel_rfl) (by kernel_rfl)
      (by rw [MakeChecks.laidMetH_plain _ _ _ (by kernel_rfl)]; exact laidMet_laidAll _ (by kernel_rfl) (by kernel_rfl))) ?_
  intro W base args ds gs before hval0 hW _ _ _ hL hsh _
  have hval : ∀ (j : Nat) t v, Try.f7.params[j]? = some t → args[j]? = some v → Value.okWide Try.prog W .any base t v := hval0
  have hW' := hW
  obtain ⟨p, q, hA0, hV, rfl, hfz, hnd⟩ := hW
  have hA : DataW.TrodAll enc Try.prog W 0 (fun _ => true) true Try.f7.params.toList args.toList ds p := hA0
  rw [Try.params7] at hA hval
  obtain ⟨v0, vs0, d0, ds0, p0, q0, hargs, rfl, rfl, h0, r0⟩ := trodAll_cons hA
  obtain ⟨rfl, rfl, rfl⟩ := trodAll_nil r0
  obtain rfl : args = #[v0] := by cases args; simp_all
  obtain ⟨rfl, rfl⟩ := trodVars_none hV
  obtain ⟨A0, l0, c0, rfl, hi0, hw0, hl0⟩ := strs_open (hval 0 24 v0 rfl rfl) h0
  clear hA0 hval0
  simp only [List.append_nil] at hW'
  have hlt0 : ∀ x ∈ p0, x.block < W.heap.size := fun x hx => by simpa using hW'.lt x (by simp [hx])
  have hargs0 : ∀ (W' : World), Below W.heap.size W W' → DataW.Trod enc Try.prog W' 0 (fun b => decide (b < W.heap.size)) true 24 (.slice A0 l0.length c0) d0 p0 := fun W' hn => Below.trod laidOut (by kernel_rfl) (of_decide_eq_true (by kernel_rfl)) h0 hn hlt0
  refine (walk W A0 l0 c0 hi0 hw0 hl0).mono fun e W' ⟨he, hb⟩ => ?_
  subst he
  exact ⟨_, rfl, _, _, _, [], p0 ++ ([]), [], hW', trodAll_mk1 (shut_bool Try.underlying4 _), (trodAll_cons_mk (hargs0 W' hb) trodAll_mk0), rfl, hb.frame _, fun h => by cases h⟩

theorem said : Rows.IdentOnceSaid :=
  OpenClaim.holds_of_cond 7 Try.f7 rfl rfl rfl rfl rfl rfl rfl ⟨rfl, rfl, rfl, rfl, rfl⟩ rfl rfl rfl rfl rfl (by kernel_rfl) Try.func7 (by kernel_rfl)
    (of_decide_eq_true (by kernel_rfl)) (by unfold Func.isWrapper; first | (rw [if_pos (by decide +kernel)]; kernel_rfl) | (rw [if_neg (by decide +kernel)]; exact ⟨rfl, rfl⟩))
    (fun os started H enc _ F => by rw [OpenClaim.pre_eq_preRow]; exact lifted os started H enc F)
#print axioms said
end Go.Proofs.Ytagpkijgednmnaa.identOnce
