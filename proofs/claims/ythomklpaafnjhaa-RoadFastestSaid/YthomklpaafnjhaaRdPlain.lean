/-
  Plain facts of networks: ways, least lengths, relaxing, the work of a queue, what Check answers. No program is named here. No condition.
-/
import Derived.Test.YthomklpaafnjhaaReA
namespace Go.Proofs.Ythomklpaafnjhaa
open Go.RowKit
set_option linter.unusedVariables false

/-- Three numbers: an edge (from, to, seconds), or an exit (edge, to, seconds). -/
structure Ed where
  f : Int
  t : Int
  s : Int
def ed0 : Ed := ⟨0, 0, 0⟩
abbrev Arc := Nat × Nat × Nat
def arc (e : Ed) : Arc := (e.f.toNat, e.t.toNat, e.s.toNat)
def arcs (l : List Ed) : List Arc := l.map arc
def rev (G : List Arc) : List Arc := G.map fun e => (e.2.1, e.1, e.2.2)
theorem mem_rev {G : List Arc} {u v w : Nat} : (u, v, w) ∈ rev G ↔ (v, u, w) ∈ G := by
  unfold rev
  rw [List.mem_map]
  constructor
  · rintro ⟨⟨a, b, c⟩, h, e⟩
    simp only [Prod.mk.injEq] at e
    obtain ⟨rfl, rfl, rfl⟩ := e
    exact h
  · exact fun h => ⟨(v, u, w), h, rfl⟩

/-- There is a way from a of so many seconds and edges. -/
inductive Wk (G : List Arc) (a : Nat) : Nat → Nat → Nat → Prop
  | nil : Wk G a a 0 0
  | snoc {u v w s k : Nat} : Wk G a u s k → (u, v, w) ∈ G → Wk G a v (s + w) (k + 1)
theorem Wk.cast {G : List Arc} {a v s k s' k' : Nat} (h : Wk G a v s k) (e : s = s') (e2 : k = k') : Wk G a v s' k' := by
  subst e; subst e2; exact h
theorem Wk.cons {G : List Arc} {a b w v s k : Nat} (he : (a, b, w) ∈ G) (h : Wk G b v s k) : Wk G a v (w + s) (k + 1) := by
  induction h with
  | nil => exact (Wk.snoc Wk.nil he).cast (by omega) rfl
  | snoc h e ih => exact (Wk.snoc ih e).cast (by omega) rfl
theorem Wk.rev {G : List Arc} {a v s k : Nat} (h : Wk G a v s k) : Wk (rev G) v a s k := by
  induction h with
  | nil => exact Wk.nil
  | snoc h e ih => exact (Wk.cons (mem_rev.2 e) ih).cast (by omega) rfl
theorem Wk.unrev {G : List Arc} {a v s k : Nat} (h : Wk (Go.Proofs.Ythomklpaafnjhaa.rev G) a v s k) : Wk G v a s k := by
  induction h with
  | nil => exact Wk.nil
  | snoc h e ih => exact (Wk.cons (mem_rev.1 e) ih).cast (by omega) rfl
theorem Wk.app {G : List Arc} {a b c s k s' k' : Nat} (h : Wk G a b s k) (h' : Wk G b c s' k') : Wk G a c (s + s') (k + k') := by
  induction h' with
  | nil => exact h.cast (by omega) (by omega)
  | snoc h2 e ih => exact (Wk.snoc ih e).cast (by omega) (by omega)
theorem Wk.sub {G G' : List Arc} {a v s k : Nat} (h : Wk G a v s k) (hs : ∀ e ∈ G, e ∈ G') : Wk G' a v s k := by
  induction h with
  | nil => exact Wk.nil
  | snoc h e ih => exact Wk.snoc ih (hs _ e)

/-- .. by way of nodes of A only. -/
inductive WkIn (G : List Arc) (A : List Nat) (a : Nat) : Nat → Nat → Nat → Prop
  | nil : a ∈ A → WkIn G A a a 0 0
  | snoc {u v w s k : Nat} : WkIn G A a u s k → (u, v, w) ∈ G → v ∈ A → WkIn G A a v (s + w) (k + 1)
theorem WkIn.mem {G : List Arc} {A : List Nat} {a v s k : Nat} (h : WkIn G A a v s k) : v ∈ A := by
  cases h with
  | nil h => exact h
  | snoc _ _ h => exact h
theorem WkIn.first {G : List Arc} {A : List Nat} {a v : Nat} (hav : a ≠ v) {z s k : Nat} (h : WkIn G A a z s k) :
    WkIn G (A.filter (fun x => x != v)) a z s k ∨ ∃ u w s1 k1, WkIn G (A.filter (fun x => x != v)) a u s1 k1 ∧ (u, v, w) ∈ G ∧ s1 + w ≤ s ∧ k1 + 1 ≤ k := by
  induction h with
  | nil h => exact Or.inl (.nil (List.mem_filter.2 ⟨h, by simp [hav]⟩))
  | @snoc u z w s k h e hz ih =>
    rcases ih with ih | ⟨u', w', s1, k1, h1, h2, h3, h4⟩
    · by_cases hzv : z = v
      · subst hzv
        exact Or.inr ⟨u, w, s, k, ih, e, Nat.le_refl _, Nat.le_refl _⟩
      · exact Or.inl (.snoc ih e (List.mem_filter.2 ⟨hz, by simp [hzv]⟩))
    · exact Or.inr ⟨u', w', s1, k1, h1, h2, by omega, by omega⟩
theorem WkIn.short {G : List Arc} {a : Nat} : ∀ (n : Nat) (A : List Nat), A.length ≤ n → ∀ v s k, WkIn G A a v s k → ∃ s' k', Wk G a v s' k' ∧ s' ≤ s ∧ k' ≤ k ∧ k' + 1 ≤ A.length := by
  intro n
  induction n with
  | zero =>
    intro A hA v s k h
    have := List.length_pos_of_mem h.mem
    omega
  | succ n ih =>
    intro A hA v s k h
    have hp := List.length_pos_of_mem h.mem
    by_cases hav : a = v
    · subst hav
      exact ⟨0, 0, Wk.nil, Nat.zero_le _, Nat.zero_le _, by omega⟩
    · have hlt : (A.filter (fun x => x != v)).length < A.length := List.length_filter_lt_length_iff_exists.2 ⟨v, h.mem, by simp⟩
      rcases h.first hav with h1 | ⟨u, w, s1, k1, h1, h2, h3, h4⟩
      · have := (List.mem_filter.1 h1.mem).2
        simp at this
      · obtain ⟨s', k', g1, g2, g3, g4⟩ := ih _ (by omega) u s1 k1 h1
        exact ⟨s' + w, k' + 1, .snoc g1 h2, by omega, by omega, by omega⟩

/-- A network of N nodes. -/
def Net (N : Nat) (G : List Arc) : Prop := ∀ u v w, (u, v, w) ∈ G → u < N ∧ v < N ∧ 1 ≤ w ∧ w ≤ 1000
theorem Net.rev {N : Nat} {G : List Arc} (h : Net N G) : Net N (rev G) := fun u v w e => by
  obtain ⟨h1, h2, h3⟩ := h v u w (mem_rev.1 e)
  exact ⟨h2, h1, h3⟩
theorem Wk.node {N : Nat} {G : List Arc} {a v s k : Nat} (hn : Net N G) (ha : a < N) (h : Wk G a v s k) : v < N := by
  cases h with
  | nil => exact ha
  | snoc _ e => exact (hn _ _ _ e).2.1
theorem Wk.secs {N : Nat} {G : List Arc} {a v s k : Nat} (hn : Net N G) (h : Wk G a v s k) : k ≤ s ∧ s ≤ 1000 * k := by
  induction h with
  | nil => exact ⟨Nat.le_refl _, Nat.le_refl _⟩
  | snoc h e ih =>
    have := hn _ _ _ e
    omega
theorem Wk.inRange {N : Nat} {G : List Arc} {a v s k : Nat} (hn : Net N G) (ha : a < N) (h : Wk G a v s k) : WkIn G (List.range N) a v s k := by
  induction h with
  | nil => exact .nil (List.mem_range.2 ha)
  | snoc h e ih => exact .snoc ih e (List.mem_range.2 (hn _ _ _ e).2.1)
theorem Wk.short {N : Nat} {G : List Arc} {a v s k : Nat} (hn : Net N G) (ha : a < N) (h : Wk G a v s k) : ∃ s' k', Wk G a v s' k' ∧ s' ≤ s ∧ k' ≤ k ∧ k' + 1 ≤ N := by
  have := WkIn.short N (List.range N) (by simp) v s k (h.inRange hn ha)
  simpa using this

/-- The length of a way as one number. -/
def ln (s k : Nat) : Nat := 1048576 * s + k
/-- The least length of a way from a to v; none: there is no way. -/
def IsD (G : List Arc) (a v : Nat) : Option Nat → Prop
  | none => ∀ s k, ¬ Wk G a v s k
  | some n => (∃ s k, Wk G a v s k ∧ n = ln s k) ∧ ∀ s k, Wk G a v s k → n ≤ ln s k
theorem IsD.unique {G : List Arc} {a v : Nat} {o o' : Option Nat} (h : IsD G a v o) (h' : IsD G a v o') : o = o' := by
  cases o with
  | none =>
    cases o' with
    | none => rfl
    | some m => obtain ⟨⟨s, k, h1, _⟩, _⟩ := h'; exact absurd h1 (h s k)
  | some n =>
    cases o' with
    | none => obtain ⟨⟨s, k, h1, _⟩, _⟩ := h; exact absurd h1 (h' s k)
    | some m =>
      obtain ⟨⟨s, k, h1, e1⟩, h2⟩ := h
      obtain ⟨⟨s', k', h1', e1'⟩, h2'⟩ := h'
      have := h2 _ _ h1'
      have := h2' _ _ h1
      congr 1
      omega
theorem IsD.exist (G : List Arc) (a v : Nat) : ∃ o, IsD G a v o := by
  by_cases h : ∃ s k, Wk G a v s k
  · have : ∀ n, (∃ s k, Wk G a v s k ∧ ln s k = n) → ∃ o, IsD G a v o := by
      intro n
      induction n using Nat.strongRecOn with
      | ind n ih =>
        rintro ⟨s, k, h1, h2⟩
        by_cases hm : ∃ s' k', Wk G a v s' k' ∧ ln s' k' < n
        · obtain ⟨s', k', h3, h4⟩ := hm
          exact ih _ h4 ⟨s', k', h3, rfl⟩
        · exact ⟨some n, ⟨s, k, h1, h2.symm⟩, fun s' k' h3 => Nat.le_of_not_lt fun h4 => hm ⟨s', k', h3, h4⟩⟩
    obtain ⟨s, k, h1⟩ := h
    exact this _ ⟨s, k, h1, rfl⟩
  · exact ⟨none, fun s k h1 => h ⟨s, k, h1⟩⟩
/-- The least lengths of the ways from a. -/
def Ds (G : List Arc) (a : Nat) (D : Nat → Option Nat) : Prop := ∀ v, IsD G a v (D v)
theorem Ds.exist (G : List Arc) (a : Nat) : ∃ D, Ds G a D := Classical.axiomOfChoice (fun v => IsD.exist G a v)
theorem ln_parts {s k : Nat} (h : k < 1048576) : ln s k / 1048576 = s ∧ ln s k % 1048576 = k := by
  unfold ln
  rw [Nat.mul_add_div (by decide), Nat.mul_add_mod, Nat.div_eq_of_lt h, Nat.mod_eq_of_lt h]
  exact ⟨rfl, rfl⟩
theorem ln_S {s k : Nat} (h : k < 1048576) : xS (ln s k) = (s : Int) := by
  unfold xS; rw [(ln_parts h).1]
theorem ln_E {s k : Nat} (h : k < 1048576) : xE (ln s k) = (k : Int) := by
  unfold xE; rw [(ln_parts h).2]
theorem IsD.form {N : Nat} {G : List Arc} {a v n : Nat} (hn : Net N G) (ha : a < N) (h : IsD G a v (some n)) : ∃ s k, Wk G a v s k ∧ n = ln s k ∧ k + 1 ≤ N ∧ s ≤ 1000 * k := by
  obtain ⟨⟨s, k, h1, e⟩, h2⟩ := h
  obtain ⟨s', k', h3, h4, h5, h6⟩ := h1.short hn ha
  have := h2 _ _ h3
  refine ⟨s', k', h3, ?_, h6, (h3.secs hn).2⟩
  unfold ln at *
  omega
theorem IsD.self (G : List Arc) (a : Nat) : IsD G a a (some 0) := ⟨⟨0, 0, Wk.nil, rfl⟩, fun _ _ _ => Nat.zero_le _⟩
/-- Along one more edge. -/
def up1 (n w : Nat) : Nat := n + (1048576 * w + 1)
theorem up1_ln (s k w : Nat) : up1 (ln s k) w = ln (s + w) (k + 1) := by
  unfold up1 ln; omega
theorem Ds.step {G : List Arc} {a : Nat} {D : Nat → Option Nat} (h : Ds G a D) {u v w n : Nat} (hu : D u = some n) (he : (u, v, w) ∈ G) : ∃ m, D v = some m ∧ m ≤ up1 n w := by
  have h1 := h u
  rw [hu] at h1
  obtain ⟨⟨s, k, g1, rfl⟩, _⟩ := h1
  have h2 := h v
  have g2 := Wk.snoc g1 he
  cases hv : D v with
  | none => rw [hv] at h2; exact absurd g2 (h2 _ _)
  | some m =>
    rw [hv] at h2
    exact ⟨m, rfl, by rw [up1_ln]; exact h2.2 _ _ g2⟩

/-- D after one edge has been looked at. -/
def upd (d : Nat → Option Nat) (v : Nat) (o : Option Nat) : Nat → Option Nat := fun x => if x = v then o else d x
def cand (d : Nat → Option Nat) (e : Arc) : Option Nat :=
  match d e.1 with
  | none => none
  | some n =>
    match d e.2.1 with
    | none => some (up1 n e.2.2)
    | some m => if up1 n e.2.2 < m then some (up1 n e.2.2) else none
def rlx (d : Nat → Option Nat) (e : Arc) : Nat → Option Nat :=
  match cand d e with
  | none => d
  | some n => upd d e.2.1 (some n)
/-- One is at least as good as another. -/
def Le (d d' : Nat → Option Nat) : Prop := ∀ v n, d' v = some n → ∃ m, d v = some m ∧ m ≤ n
theorem Le.refl (d : Nat → Option Nat) : Le d d := fun v n h => ⟨n, h, Nat.le_refl _⟩
theorem Le.trans {a b c : Nat → Option Nat} (h : Le a b) (h' : Le b c) : Le a c := fun v n hn => by
  obtain ⟨m, h1, h2⟩ := h' v n hn
  obtain ⟨m', h3, h4⟩ := h v m h1
  exact ⟨m', h3, by omega⟩
theorem rlx_le (d : Nat → Option Nat) (e : Arc) : Le (rlx d e) d := fun v n hn => by
  unfold rlx cand
  obtain ⟨u, x, w⟩ := e
  cases hu : d u with
  | none => exact ⟨n, hn, Nat.le_refl _⟩
  | some p =>
    cases hx : d x with
    | none =>
      simp only
      unfold upd
      split
      · rename_i e; subst e; rw [hx] at hn; cases hn
      · exact ⟨n, hn, Nat.le_refl _⟩
    | some m =>
      simp only
      by_cases hc : up1 p w < m
      · simp only [hc, if_true]
        unfold upd
        split
        · rename_i e; subst e; rw [hx] at hn; cases hn; exact ⟨_, rfl, by omega⟩
        · exact ⟨n, hn, Nat.le_refl _⟩
      · simp only [hc, if_false]
        exact ⟨n, hn, Nat.le_refl _⟩
theorem rlx_end (d : Nat → Option Nat) (u v w n : Nat) (h : d u = some n) : ∃ m, rlx d (u, v, w) v = some m ∧ m ≤ up1 n w := by
  unfold rlx cand
  cases hx : d v with
  | none => simp only [h]; exact ⟨_, by simp [upd], Nat.le_refl _⟩
  | some m =>
    simp only [h]
    by_cases hc : up1 n w < m
    · simp only [hc, if_true]; exact ⟨_, by simp [upd], Nat.le_refl _⟩
    · simp only [hc, if_false]; exact ⟨m, hx, by omega⟩
/-- Every length is that of a way of at most J edges. -/
def Snd (G : List Arc) (a J : Nat) (d : Nat → Option Nat) : Prop := ∀ v n, d v = some n → ∃ s k, Wk G a v s k ∧ n = ln s k ∧ k ≤ J
theorem Snd.mono {G : List Arc} {a J J' : Nat} {d : Nat → Option Nat} (h : Snd G a J d) (hj : J ≤ J') : Snd G a J' d := fun v n hn => by
  obtain ⟨s, k, h1, h2, h3⟩ := h v n hn
  exact ⟨s, k, h1, h2, by omega⟩
theorem rlx_snd {G : List Arc} {a J : Nat} {d : Nat → Option Nat} (h : Snd G a J d) {e : Arc} (he : e ∈ G) : Snd G a (J + 1) (rlx d e) := by
  unfold rlx cand
  obtain ⟨u, x, w⟩ := e
  cases hu : d u with
  | none => exact h.mono (Nat.le_succ _)
  | some p =>
    obtain ⟨s, k, h1, h2, h3⟩ := h u p hu
    have hnew : Snd G a (J + 1) (upd d x (some (up1 p w))) := fun v n hn => by
      unfold upd at hn
      split at hn
      · rename_i e; subst e
        cases hn
        exact ⟨s + w, k + 1, .snoc h1 he, by rw [h2, up1_ln], by omega⟩
      · exact (h.mono (Nat.le_succ J)) v n hn
    cases hx : d x with
    | none => exact hnew
    | some m =>
      simp only
      by_cases hc : up1 p w < m
      · simp only [hc, if_true]; exact hnew
      · simp only [hc, if_false]; exact h.mono (Nat.le_succ _)
/-- All edges looked at, one by one. -/
def rnd (G : List Arc) (d : Nat → Option Nat) : Nat → Option Nat := G.foldl rlx d
theorem rnd_snoc (G : List Arc) (e : Arc) (d : Nat → Option Nat) : rnd (G ++ [e]) d = rlx (rnd G d) e := by
  unfold rnd; rw [List.foldl_append]; rfl
theorem rnd_le (G : List Arc) : ∀ d, Le (rnd G d) d := by
  unfold rnd
  induction G with
  | nil => exact Le.refl
  | cons e G ih => intro d; exact (ih _).trans (rlx_le d e)
theorem rnd_snd {G : List Arc} {a J : Nat} : ∀ (H : List Arc), (∀ e ∈ H, e ∈ G) → ∀ d, Snd G a J d → Snd G a (J + H.length) (rnd H d) := by
  intro H
  induction H generalizing J with
  | nil => intro _ d h; exact h
  | cons e H ih =>
    intro hs d h
    have := ih (J := J + 1) (fun x hx => hs x (List.mem_cons_of_mem _ hx)) (rlx d e) (rlx_snd h (hs e List.mem_cons_self))
    rw [List.length_cons, show J + (H.length + 1) = J + 1 + H.length by omega]
    exact this
theorem rnd_end (G : List Arc) (u v w n : Nat) (he : (u, v, w) ∈ G) (d : Nat → Option Nat) (h : d u = some n) : ∃ m, rnd G d v = some m ∧ m ≤ up1 n w := by
  obtain ⟨G1, G2, rfl⟩ := List.append_of_mem he
  unfold rnd
  rw [List.foldl_append, List.foldl_cons]
  obtain ⟨n', h1, h2⟩ := rnd_le G1 d u n h
  obtain ⟨m, h3, h4⟩ := rlx_end _ u v w n' h1
  obtain ⟨m', h5, h6⟩ := rnd_le G2 _ v m h3
  refine ⟨m', h5, ?_⟩
  unfold up1 at *
  omega
/-- So many rounds. -/
def rnds (G : List Arc) (a : Nat) : Nat → Nat → Option Nat
  | 0 => upd (fun _ => none) a (some 0)
  | r + 1 => rnd G (rnds G a r)
theorem rnds_snd (G : List Arc) (a r : Nat) : Snd G a (r * G.length) (rnds G a r) := by
  induction r with
  | zero =>
    intro v n hn
    unfold rnds upd at hn
    split at hn
    · rename_i e; subst e; cases hn; exact ⟨0, 0, Wk.nil, rfl, by omega⟩
    · cases hn
  | succ r ih =>
    rw [Nat.succ_mul]
    exact rnd_snd G (fun _ h => h) _ ih
theorem rnds_all (G : List Arc) (a : Nat) : ∀ r v s k, Wk G a v s k → k ≤ r → ∃ n, rnds G a r v = some n ∧ n ≤ ln s k := by
  intro r
  induction r with
  | zero =>
    intro v s k h hk
    cases h with
    | nil => exact ⟨0, by simp [rnds, upd], Nat.zero_le _⟩
    | snoc _ _ => omega
  | succ r ih =>
    intro v s k h hk
    cases h with
    | nil =>
      obtain ⟨n, h1, h2⟩ := ih a 0 0 Wk.nil (Nat.zero_le _)
      obtain ⟨m, h3, h4⟩ := rnd_le G _ _ _ h1
      exact ⟨m, h3, by omega⟩
    | @snoc u _ w s k h e =>
      obtain ⟨n, h1, h2⟩ := ih u s k h (by omega)
      obtain ⟨m, h3, h4⟩ := rnd_end G u v w n e _ h1
      refine ⟨m, h3, ?_⟩
      unfold up1 at h4
      unfold ln at *
      omega
theorem rnds_Ds {N : Nat} {G : List Arc} {a : Nat} (hn : Net N G) (ha : a < N) : Ds G a (rnds G a N) := fun v => by
  cases h : rnds G a N v with
  | none =>
    intro s k hw
    obtain ⟨s', k', h1, _, _, h4⟩ := hw.short hn ha
    obtain ⟨n, h5, _⟩ := rnds_all G a N v s' k' h1 (by omega)
    rw [h] at h5; cases h5
  | some n =>
    obtain ⟨s, k, h1, h2, _⟩ := rnds_snd G a N v n h
    refine ⟨⟨s, k, h1, h2⟩, fun s2 k2 hw => ?_⟩
    obtain ⟨s', k', g1, g2, g3, g4⟩ := hw.short hn ha
    obtain ⟨m, h5, h6⟩ := rnds_all G a N v s' k' g1 (by omega)
    rw [h] at h5; cases h5
    unfold ln at *
    omega
end Go.Proofs.Ythomklpaafnjhaa
