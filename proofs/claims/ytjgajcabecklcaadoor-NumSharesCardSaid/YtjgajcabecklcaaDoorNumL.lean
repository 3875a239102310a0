/-
  Plain facts on shares: the parts and the remainders of a total among weights, of no program. No condition.
-/
namespace Go.Proofs.YtjgajcabecklcaaDoor
set_option linter.unusedVariables false

def castL (l : List Nat) : List Int := l.map fun x : Nat => (x : Int)
theorem castL_length (l : List Nat) : (castL l).length = l.length := by simp [castL]
theorem castL_getD (l : List Nat) (k : Nat) : (castL l).getD k 0 = ((l.getD k 0 : Nat) : Int) := by
  unfold castL
  by_cases h : k < l.length
  · simp [h]
  · simp [h]
theorem castL_sum : ∀ l : List Nat, (castL l).sum = ((l.sum : Nat) : Int)
  | [] => rfl
  | x :: l => by
    have := castL_sum l
    unfold castL at *
    rw [List.map_cons, List.sum_cons, List.sum_cons, this]
    omega
theorem castL_set (l : List Nat) (k x : Nat) : (castL l).set k (x : Int) = castL (l.set k x) := by
  unfold castL
  rw [List.map_set]
theorem of_nat_list : ∀ l : List Int, (∀ x ∈ l, 0 ≤ x) → ∃ ln : List Nat, l = castL ln
  | [], _ => ⟨[], rfl⟩
  | x :: l, h => by
    obtain ⟨ln, rfl⟩ := of_nat_list l fun y hy => h y (List.mem_cons_of_mem _ hy)
    have := h x List.mem_cons_self
    exact ⟨x.toNat :: ln, by unfold castL; rw [List.map_cons, show ((x.toNat : Nat) : Int) = x by omega]⟩

def partL (T W : Nat) (l : List Nat) : List Nat := l.map fun x => T * x / W
def restL (T W : Nat) (l : List Nat) : List Nat := l.map fun x => T * x % W
theorem parts_rests (T W : Nat) : ∀ l : List Nat, T * l.sum = W * (partL T W l).sum + (restL T W l).sum
  | [] => by simp [partL, restL]
  | x :: l => by
    have ih := parts_rests T W l
    have e := Nat.div_add_mod (T * x) W
    unfold partL restL at *
    rw [List.map_cons, List.map_cons, List.sum_cons, List.sum_cons, List.sum_cons, Nat.mul_add, Nat.mul_add]
    omega
theorem rest_lt (T W : Nat) (hW : 0 < W) (l : List Nat) : ∀ r ∈ restL T W l, r < W := fun r hr => by
  obtain ⟨x, _, rfl⟩ := List.mem_map.1 hr
  exact Nat.mod_lt _ hW
theorem sum_lt (W : Nat) : ∀ l : List Nat, (∀ r ∈ l, r < W) → l.sum ≤ W * l.length
  | [], _ => by simp
  | x :: l, h => by
    have ih := sum_lt W l fun r hr => h r (List.mem_cons_of_mem _ hr)
    have := h x List.mem_cons_self
    rw [List.sum_cons, List.length_cons, Nat.mul_succ]
    omega
/-- What is left is as many units as the remainders make up. -/
theorem left_rests (T : Nat) (l : List Nat) (hW : 0 < l.sum) : (partL T l.sum l).sum ≤ T ∧ l.sum * (T - (partL T l.sum l).sum) = (restL T l.sum l).sum ∧ T - (partL T l.sum l).sum ≤ l.length := by
  have e := parts_rests T l.sum l
  have hb := sum_lt l.sum (restL T l.sum l) (rest_lt T l.sum hW l)
  rw [show (restL T l.sum l).length = l.length by simp [restL]] at hb
  generalize (partL T l.sum l).sum = p at *
  generalize (restL T l.sum l).sum = r at *
  generalize l.sum = W at *
  generalize l.length = n at *
  rw [Nat.mul_comm T W] at e
  have h1 : W * p ≤ W * T := by omega
  have h2 : p ≤ T := Nat.le_of_mul_le_mul_left h1 hW
  have h3 : W * (T - p) = r := by rw [Nat.mul_sub]; omega
  exact ⟨h2, h3, Nat.le_of_mul_le_mul_left (by omega : W * (T - p) ≤ W * n) hW⟩
theorem le_sum_of_mem {x : Nat} : ∀ {l : List Nat}, x ∈ l → x ≤ l.sum
  | y :: l, h => by
    rw [List.sum_cons]
    rcases List.mem_cons.1 h with rfl | h
    · omega
    · have := le_sum_of_mem h
      omega
theorem part_le (T : Nat) (l : List Nat) (k : Nat) (hk : k < l.length) : T * l.getD k 0 / l.sum ≤ T := by
  have hm : l.getD k 0 ≤ l.sum := by
    have : l.getD k 0 ∈ l := by simp [hk]
    exact le_sum_of_mem this
  exact Nat.div_le_of_le_mul (by rw [Nat.mul_comm]; exact Nat.mul_le_mul_right _ hm)

/-- One unit more for part i. -/
def bump (p : List Nat) (i : Nat) : List Nat := p.set i (p.getD i 0 + 1)
theorem bump_length (p : List Nat) (i : Nat) : (bump p i).length = p.length := by simp [bump]
theorem bumps_length : ∀ (o p : List Nat), (o.foldl bump p).length = p.length
  | [], _ => rfl
  | i :: o, p => by rw [List.foldl_cons, bumps_length o, bump_length]
/-- What Share returns, the order being o. -/
def shareN (T : Nat) (l o : List Nat) : List Nat := (o.take (T - (partL T l.sum l).sum)).foldl bump (partL T l.sum l)

/-- A list of which the first k places are written, the rest being 0. -/
def upTo (l : List Nat) (k : Nat) : List Nat := l.take k ++ List.replicate (l.length - k) 0
theorem upTo_length (l : List Nat) (k : Nat) (hk : k ≤ l.length) : (upTo l k).length = l.length := by
  simp only [upTo, List.length_append, List.length_take, List.length_replicate]
  omega
theorem upTo_zero (l : List Nat) : upTo l 0 = List.replicate l.length 0 := by simp [upTo]
theorem upTo_all (l : List Nat) : upTo l l.length = l := by simp [upTo]
theorem upTo_next (l : List Nat) (k : Nat) (hk : k < l.length) : (upTo l k).set k (l.getD k 0) = upTo l (k + 1) := by
  unfold upTo
  rw [List.set_append_right _ _ (by rw [List.length_take]; omega), List.length_take, show k - min k l.length = 0 by omega, show l.length - k = (l.length - (k + 1)) + 1 by omega, List.replicate_succ, List.set_cons_zero,
    List.take_succ_eq_append_getElem hk, List.append_assoc]
  simp [hk]
theorem sum_take_succ (l : List Nat) (k : Nat) (hk : k < l.length) : (l.take (k + 1)).sum = (l.take k).sum + l.getD k 0 := by
  rw [List.take_succ_eq_append_getElem hk, List.sum_append]
  simp [hk]
theorem sum_take_le (l : List Nat) (B : Nat) (h : ∀ x ∈ l, x ≤ B) (k : Nat) : (l.take k).sum ≤ B * k := by
  induction k with
  | zero => simp
  | succ k ih =>
    by_cases hk : k < l.length
    · rw [sum_take_succ l k hk, Nat.mul_succ]
      have := h (l.getD k 0) (by simp [hk])
      omega
    · rw [List.take_of_length_le (by omega)] at ih ⊢
      rw [Nat.mul_succ]
      omega
theorem bump_getD (p : List Nat) (i j : Nat) : (bump p i).getD j 0 ≤ p.getD j 0 + 1 := by
  unfold bump
  by_cases h : i = j
  · subst h
    by_cases hi : i < p.length
    · simp [hi]
    · simp [hi]
  · simp [h]
theorem bumps_getD (j : Nat) : ∀ (o p : List Nat), (o.foldl bump p).getD j 0 ≤ p.getD j 0 + o.length
  | [], _ => by simp
  | i :: o, p => by
    have h1 := bumps_getD j o (bump p i)
    have h2 := bump_getD p i j
    rw [List.foldl_cons, List.length_cons]
    omega
theorem bumps_next (o p : List Nat) (k : Nat) (hk : k < o.length) : (o.take (k + 1)).foldl bump p = bump ((o.take k).foldl bump p) (o.getD k 0) := by
  rw [List.take_succ_eq_append_getElem hk, List.foldl_append]
  simp [hk]
end Go.Proofs.YtjgajcabecklcaaDoor
