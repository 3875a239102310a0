/-
  Plain facts of the checksum: the register, moved bit by bit and byte by byte; it is linear, and one changed byte changes it. No program is named here. No condition.
-/
import Derived.Test.YthafaococbdhoaaWirPlain
namespace Go.Proofs.Ythafaococbdhoaa
open Go.RowKit
set_option linter.unusedVariables false

/-- The register, moved by one bit. -/
def mv (u : Nat) : Nat := if u % 2 = 1 then u / 2 ^^^ 3988292384 else u / 2
def it : Nat → Nat → Nat
  | 0, u => u
  | k + 1, u => mv (it k u)
theorem mv_odd {u : Nat} (h : u % 2 = 1) : mv u = u / 2 ^^^ 3988292384 := by unfold mv; rw [if_pos h]
theorem mv_even {u : Nat} (h : u % 2 = 0) : mv u = u / 2 := by unfold mv; rw [if_neg (by omega)]
theorem xor_zero_eq {x y : Nat} (h : x ^^^ y = 0) : x = y := by
  have e : x ^^^ y ^^^ y = 0 ^^^ y := by rw [h]
  rwa [Nat.xor_assoc, Nat.xor_self, Nat.xor_zero, Nat.zero_xor] at e
theorem xor_lt32 {a b : Nat} (ha : a < 4294967296) (hb : b < 4294967296) : a ^^^ b < 4294967296 := Nat.xor_lt_two_pow (n := 32) ha hb
theorem xor_lt8 {a b : Nat} (ha : a < 256) (hb : b < 256) : a ^^^ b < 256 := Nat.xor_lt_two_pow (n := 8) ha hb
theorem xor_swap (a b c d : Nat) : (a ^^^ b) ^^^ (c ^^^ d) = (a ^^^ c) ^^^ (b ^^^ d) := by
  rw [Nat.xor_assoc, ← Nat.xor_assoc b, Nat.xor_comm b c, Nat.xor_assoc c, ← Nat.xor_assoc a]
theorem mod_xor (a b : Nat) : (a ^^^ b) % 2 = (a % 2 + b % 2) % 2 := by
  have h := @Nat.xor_mod_two_eq_one a b
  omega
theorem mv_xor (a b : Nat) : mv (a ^^^ b) = mv a ^^^ mv b := by
  have hm := mod_xor a b
  have hd := @Nat.xor_div_two a b
  rcases Nat.mod_two_eq_zero_or_one a with ha | ha <;> rcases Nat.mod_two_eq_zero_or_one b with hb | hb
  · rw [mv_even (by omega), mv_even ha, mv_even hb, hd]
  · rw [mv_odd (by omega), mv_even ha, mv_odd hb, hd, Nat.xor_assoc]
  · rw [mv_odd (by omega), mv_odd ha, mv_even hb, hd, Nat.xor_assoc, Nat.xor_comm (b / 2), ← Nat.xor_assoc]
  · rw [mv_even (by omega), mv_odd ha, mv_odd hb, hd, xor_swap, Nat.xor_self, Nat.xor_zero]
theorem it_xor : ∀ (k a b : Nat), it k (a ^^^ b) = it k a ^^^ it k b
  | 0, _, _ => rfl
  | k + 1, a, b => by rw [it, it_xor k a b, mv_xor, it, it]
theorem mv_lt {u : Nat} (h : u < 4294967296) : mv u < 4294967296 := by
  unfold mv
  split
  · exact xor_lt32 (by omega) (by decide)
  · omega
theorem it_lt : ∀ (k : Nat) {u : Nat}, u < 4294967296 → it k u < 4294967296
  | 0, _, h => h
  | k + 1, _, h => mv_lt (it_lt k h)
theorem mv_zero {u : Nat} (h : u < 4294967296) (h0 : mv u = 0) : u = 0 := by
  rcases Nat.mod_two_eq_zero_or_one u with hu | hu
  · rw [mv_even hu] at h0
    omega
  · rw [mv_odd hu] at h0
    have := xor_zero_eq h0
    omega
theorem it_zero : ∀ (k : Nat) {u : Nat}, u < 4294967296 → it k u = 0 → u = 0
  | 0, _, _, h0 => h0
  | k + 1, _, h, h0 => it_zero k h (mv_zero (it_lt k h) h0)
theorem it_inj {k x y : Nat} (hx : x < 4294967296) (hy : y < 4294967296) (h : it k x = it k y) : x = y := by
  refine xor_zero_eq (it_zero k (xor_lt32 hx hy) ?_)
  rw [it_xor, h, Nat.xor_self]
theorem it_pow : ∀ (k m : Nat), it k (2 ^ k * m) = m
  | 0, m => by rw [it, Nat.pow_zero, Nat.one_mul]
  | k + 1, m => by
    rw [it, Nat.pow_succ, Nat.mul_assoc, it_pow k (2 * m), mv_even (by omega)]
    omega
theorem split8 (a b : Nat) (hb : b < 256) : 256 * a ^^^ b = 256 * a + b := by
  have h1 : (256 * a ^^^ b) / 2 ^ 8 = (256 * a) / 2 ^ 8 ^^^ b / 2 ^ 8 := Nat.xor_div_two_pow
  have h2 : (256 * a ^^^ b) % 2 ^ 8 = (256 * a) % 2 ^ 8 ^^^ b % 2 ^ 8 := Nat.xor_mod_two_pow
  rw [show (2 : Nat) ^ 8 = 256 from rfl] at h1 h2
  rw [show 256 * a / 256 = a by omega, show b / 256 = 0 by omega, Nat.xor_zero] at h1
  rw [show 256 * a % 256 = 0 by omega, show b % 256 = b by omega, Nat.zero_xor] at h2
  omega

/-- The register after one byte. -/
def st (r c : Nat) : Nat := it 8 (r ^^^ c)
theorem st_tab {r c : Nat} (hc : c < 256) : r / 256 ^^^ it 8 (r % 256 ^^^ c) = st r c := by
  have e : r = 256 * (r / 256) ^^^ r % 256 := by
    rw [split8 _ _ (by omega)]
    omega
  have e2 : st r c = it 8 ((256 * (r / 256) ^^^ r % 256) ^^^ c) := by rw [← e]; rfl
  have e3 := it_pow 8 (r / 256)
  rw [show (2 : Nat) ^ 8 = 256 from rfl] at e3
  rw [e2, Nat.xor_assoc, it_xor 8 (256 * (r / 256)), e3]
theorem st_lt {r c : Nat} (hr : r < 4294967296) (hc : c < 256) : st r c < 4294967296 := it_lt 8 (xor_lt32 hr (by omega))
theorem xor_right_can {a b c : Nat} (h : a ^^^ c = b ^^^ c) : a = b := by
  have e : a ^^^ c ^^^ c = b ^^^ c ^^^ c := by rw [h]
  rwa [Nat.xor_assoc, Nat.xor_assoc, Nat.xor_self, Nat.xor_zero, Nat.xor_zero] at e
theorem xor_left_can {a b c : Nat} (h : c ^^^ a = c ^^^ b) : a = b := by
  rw [Nat.xor_comm c a, Nat.xor_comm c b] at h
  exact xor_right_can h
theorem st_inj {r s c : Nat} (hr : r < 4294967296) (hs : s < 4294967296) (hc : c < 256) (h : st r c = st s c) : r = s :=
  xor_right_can (it_inj (xor_lt32 hr (by omega)) (xor_lt32 hs (by omega)) h)
theorem st_byte {r c d : Nat} (hr : r < 4294967296) (hc : c < 256) (hd : d < 256) (h : st r c = st r d) : c = d :=
  xor_left_can (it_inj (xor_lt32 hr (by omega)) (xor_lt32 hr (by omega)) h)

/-- The register after a list of bytes. -/
def rg (r : Nat) (l : List UInt8) : Nat := l.foldl (fun r c => st r c.toNat) r
theorem rg_nil (r : Nat) : rg r [] = r := by unfold rg; rw [List.foldl_nil]
theorem rg_cons (r : Nat) (c : UInt8) (l : List UInt8) : rg r (c :: l) = rg (st r c.toNat) l := by unfold rg; rw [List.foldl_cons]
theorem rg_append : ∀ (r : Nat) (l m : List UInt8), rg r (l ++ m) = rg (rg r l) m
  | r, [], m => by rw [List.nil_append, rg_nil]
  | r, c :: l, m => by rw [List.cons_append, rg_cons, rg_append, rg_cons]
theorem rg_take {r : Nat} {l : List UInt8} {k : Nat} (h : k < l.length) : rg r (l.take (k + 1)) = st (rg r (l.take k)) (l.getD k 0).toNat := by
  rw [take_snocB l k h, rg_append, rg_cons, rg_nil]
theorem rg_lt {r : Nat} (l : List UInt8) (h : r < 4294967296) : rg r l < 4294967296 := by
  induction l generalizing r with
  | nil => rwa [rg_nil]
  | cons c l ih =>
    rw [rg_cons]
    exact ih (st_lt h c.toNat_lt)
theorem rg_inj {r s : Nat} (l : List UInt8) (hr : r < 4294967296) (hs : s < 4294967296) (h : rg r l = rg s l) : r = s := by
  induction l generalizing r s with
  | nil => rwa [rg_nil, rg_nil] at h
  | cons c l ih =>
    rw [rg_cons, rg_cons] at h
    exact st_inj hr hs c.toNat_lt (ih (st_lt hr c.toNat_lt) (st_lt hs c.toNat_lt) h)
theorem rg_byte {r : Nat} (hr : r < 4294967296) (p q : List UInt8) {c d : UInt8} (h : rg r (p ++ c :: q) = rg r (p ++ d :: q)) : c = d := by
  rw [rg_append, rg_append, rg_cons, rg_cons] at h
  have hp := rg_lt p hr
  have h2 : st (rg r p) c.toNat = st (rg r p) d.toNat := rg_inj q (st_lt hp c.toNat_lt) (st_lt hp d.toNat_lt) h
  exact UInt8.toNat_inj.1 (st_byte hp c.toNat_lt d.toNat_lt h2)

/-- The checksum. -/
def cs (l : List UInt8) : Nat := 4294967295 - rg 4294967295 l
theorem cs_lt (l : List UInt8) : cs l < 4294967296 := by unfold cs; omega
theorem not32 {r : Nat} (h : r < 4294967296) : 4294967295 ^^^ r = 4294967295 - r := by
  have e := congrArg BitVec.toNat (BitVec.allOnes_xor (x := BitVec.ofNat 32 r))
  rw [BitVec.toNat_xor, BitVec.toNat_not, BitVec.toNat_allOnes, BitVec.toNat_ofNat, Nat.mod_eq_of_lt (by exact h)] at e
  exact e
theorem cs_byte (p q : List UInt8) {c d : UInt8} (h : cs (p ++ c :: q) = cs (p ++ d :: q)) : c = d := by
  have h1 := rg_lt (r := 4294967295) (p ++ c :: q) (by decide)
  have h2 := rg_lt (r := 4294967295) (p ++ d :: q) (by decide)
  unfold cs at h
  exact rg_byte (r := 4294967295) (by decide) p q (by omega)

/-- Three lists of bytes, byte by byte. -/
def x3 : List UInt8 → List UInt8 → List UInt8 → List UInt8
  | a :: l, b :: m, c :: n => (a ^^^ b ^^^ c) :: x3 l m n
  | _, _, _ => []
theorem it3 (k a b c : Nat) : it k (a ^^^ b ^^^ c) = it k a ^^^ it k b ^^^ it k c := by rw [it_xor, it_xor]
theorem st3 (r s t a b c : Nat) : st (r ^^^ s ^^^ t) (a ^^^ b ^^^ c) = st r a ^^^ st s b ^^^ st t c := by
  unfold st
  rw [xor_swap, xor_swap r, it_xor, it_xor]
theorem rg3 : ∀ (l m n : List UInt8) (r s t : Nat), m.length = l.length → n.length = l.length → rg (r ^^^ s ^^^ t) (x3 l m n) = rg r l ^^^ rg s m ^^^ rg t n
  | [], m, n, r, s, t, h1, h2 => by
    rw [List.length_nil] at h1 h2
    rw [List.eq_nil_of_length_eq_zero h1, List.eq_nil_of_length_eq_zero h2, x3, rg_nil, rg_nil, rg_nil, rg_nil]
    all_goals simp
  | a :: l, [], n, r, s, t, h1, h2 => by simp at h1
  | a :: l, b :: m, [], r, s, t, h1, h2 => by simp at h2
  | a :: l, b :: m, c :: n, r, s, t, h1, h2 => by
    rw [x3, rg_cons, UInt8.toNat_xor, UInt8.toNat_xor, st3, rg3 l m n _ _ _ (by simpa using h1) (by simpa using h2), rg_cons, rg_cons, rg_cons]
theorem x3_len : ∀ (l m n : List UInt8), m.length = l.length → n.length = l.length → (x3 l m n).length = l.length
  | [], m, n, h1, h2 => by cases m <;> cases n <;> rfl
  | a :: l, [], n, h1, h2 => by simp at h1
  | a :: l, b :: m, [], h1, h2 => by simp at h2
  | a :: l, b :: m, c :: n, h1, h2 => by rw [x3, List.length_cons, List.length_cons, x3_len l m n (by simpa using h1) (by simpa using h2)]
theorem x3_at : ∀ (l m n : List UInt8) (k : Nat), m.length = l.length → n.length = l.length → k < l.length → (x3 l m n).getD k 0 = l.getD k 0 ^^^ m.getD k 0 ^^^ n.getD k 0
  | [], m, n, k, h1, h2, h => absurd h (Nat.not_lt_zero k)
  | a :: l, [], n, k, h1, h2, h => by simp at h1
  | a :: l, b :: m, [], k, h1, h2, h => by simp at h2
  | a :: l, b :: m, c :: n, 0, h1, h2, h => by rw [x3]; simp
  | a :: l, b :: m, c :: n, k + 1, h1, h2, h => by
    rw [x3]
    have := x3_at l m n k (by simpa using h1) (by simpa using h2) (by simpa using h)
    simpa using this
theorem cs3 (l m n : List UInt8) (h1 : m.length = l.length) (h2 : n.length = l.length) : cs (x3 l m n) = cs l ^^^ cs m ^^^ cs n := by
  have e := rg3 l m n 4294967295 4294967295 4294967295 h1 h2
  rw [Nat.xor_self, Nat.zero_xor] at e
  have b1 := rg_lt (r := 4294967295) l (by decide)
  have b2 := rg_lt (r := 4294967295) m (by decide)
  have b3 := rg_lt (r := 4294967295) n (by decide)
  have b4 := rg_lt (r := 4294967295) (x3 l m n) (by decide)
  unfold cs
  rw [← not32 b1, ← not32 b2, ← not32 b3, ← not32 b4, e, xor_swap 4294967295, Nat.xor_self, Nat.zero_xor]
  generalize rg 4294967295 l ^^^ rg 4294967295 m = a
  rw [Nat.xor_comm 4294967295 (a ^^^ _), Nat.xor_assoc, Nat.xor_comm 4294967295 (rg 4294967295 n)]

/-- The four bytes of a checksum. -/
def tail (s : Nat) : List UInt8 := [UInt8.ofNat s, UInt8.ofNat (s / 256), UInt8.ofNat (s / 65536), UInt8.ofNat (s / 16777216)]
theorem tail_len (s : Nat) : (tail s).length = 4 := rfl
theorem u8_mod (u : Nat) : (UInt8.ofNat u).toNat = u % 256 := UInt8.toNat_ofNat'
theorem u8_ofNat_inj {a b : Nat} (h : UInt8.ofNat a = UInt8.ofNat b) : a % 256 = b % 256 := by
  have := congrArg UInt8.toNat h
  rwa [u8_mod, u8_mod] at this
theorem tail_inj {s t : Nat} (hs : s < 4294967296) (ht : t < 4294967296) (h : tail s = tail t) : s = t := by
  unfold tail at h
  simp only [List.cons.injEq, and_true] at h
  obtain ⟨h1, h2, h3, h4⟩ := h
  have := u8_ofNat_inj h1
  have := u8_ofNat_inj h2
  have := u8_ofNat_inj h3
  have := u8_ofNat_inj h4
  omega

/-- A frame. -/
def fr (C : List UInt8) : List UInt8 := enc C.length ++ (C ++ tail (cs C))
theorem fr_len (C : List UInt8) : (fr C).length = (enc C.length).length + (C.length + 4) := by
  unfold fr
  rw [List.length_append, List.length_append, tail_len]

/-- What Open answers. -/
def Op (l : List UInt8) (i : Int) : List UInt8 × Int × Nat :=
  if (It l i).2.2 ≠ 0 then ([], 0, (It l i).2.2)
  else if (It l i).1 < 0 ∨ 65536 < (It l i).1 then ([], 0, 3)
  else if (l.length : Int) - (It l i).2.1 < (It l i).1 + 4 then ([], 0, 4)
  else if tail (cs ((l.drop (It l i).2.1.toNat).take (It l i).1.toNat)) ≠ (l.drop ((It l i).2.1.toNat + (It l i).1.toNat)).take 4 then ([], 0, 13)
  else ((l.drop (It l i).2.1.toNat).take (It l i).1.toNat, (It l i).2.1 + (It l i).1 + 4, 0)
theorem Op_err {l : List UInt8} {i : Int} {E : Nat} (h : It l i = (0, 0, E)) (hE : 1 ≤ E) : Op l i = ([], 0, E) := by
  unfold Op
  rw [h, if_pos (by simp only; omega)]
theorem Op_form {l : List UInt8} {i n x : Int} (h : It l i = (n, x, 0)) (hn : n < 0 ∨ 65536 < n) : Op l i = ([], 0, 3) := by
  unfold Op
  rw [h, if_neg (by simp), if_pos hn]
theorem Op_short {l : List UInt8} {i : Int} {n x : Nat} (h : It l i = ((n : Int), (x : Int), 0)) (hn : n ≤ 65536) (hx : l.length < x + n + 4) : Op l i = ([], 0, 4) := by
  unfold Op
  rw [h, if_neg (by simp), if_neg (by simp only; omega), if_pos (by simp only; omega)]
theorem Op_sum {l : List UInt8} {i : Int} {n x : Nat} (h : It l i = ((n : Int), (x : Int), 0)) (hn : n ≤ 65536) (hx : x + n + 4 ≤ l.length) (hs : tail (cs ((l.drop x).take n)) ≠ (l.drop (x + n)).take 4) : Op l i = ([], 0, 13) := by
  unfold Op
  rw [h, if_neg (by simp), if_neg (by simp only; omega), if_neg (by simp only; omega), if_pos (by simpa using hs)]
theorem Op_ok {l : List UInt8} {i : Int} {n x : Nat} (h : It l i = ((n : Int), (x : Int), 0)) (hn : n ≤ 65536) (hx : x + n + 4 ≤ l.length) (hs : tail (cs ((l.drop x).take n)) = (l.drop (x + n)).take 4) : Op l i = ((l.drop x).take n, ((x + n + 4 : Nat) : Int), 0) := by
  unfold Op
  rw [h, if_neg (by simp), if_neg (by simp only; omega), if_neg (by simp only; omega), if_neg (by simpa using hs)]
  simp
theorem Op_cases (l : List UInt8) (i : Int) : (∃ E, Op l i = ([], 0, E) ∧ 1 ≤ E ∧ E ≤ 13) ∨
    (∃ (k x n : Nat), i = k ∧ k < x ∧ n ≤ 65536 ∧ x + n + 4 ≤ l.length ∧ It l i = ((n : Int), (x : Int), 0) ∧ tail (cs ((l.drop x).take n)) = (l.drop (x + n)).take 4 ∧ Op l i = ((l.drop x).take n, ((x + n + 4 : Nat) : Int), 0)) := by
  rcases It_cases l i with ⟨E, h, h1, h2⟩ | ⟨k, x, n, rfl, h1, h2, h3, h4, h5, h6⟩
  · exact Or.inl ⟨E, Op_err h h1, h1, by omega⟩
  · by_cases hn : n < 0 ∨ 65536 < n
    · exact Or.inl ⟨3, Op_form h6 hn, by decide, by decide⟩
    obtain ⟨q, rfl⟩ : ∃ q : Nat, n = q := ⟨n.toNat, by omega⟩
    by_cases hx : l.length < x + q + 4
    · exact Or.inl ⟨4, Op_short h6 (by omega) hx, by decide, by decide⟩
    by_cases hs : tail (cs ((l.drop x).take q)) = (l.drop (x + q)).take 4
    · exact Or.inr ⟨k, x, q, rfl, h1, by omega, by omega, h6, hs, Op_ok h6 (by omega) (by omega) hs⟩
    · exact Or.inl ⟨13, Op_sum h6 (by omega) (by omega) hs, by decide, by decide⟩
end Go.Proofs.Ythafaococbdhoaa
