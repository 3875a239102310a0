/-
  A result as a slice of so many bytes. No condition.
-/
import Derived.Test.YtlanbilcekepnaaWirQ
namespace Go.Proofs.Ytlanbilcekepnaa
open Go.RowKit
set_option linter.unusedVariables false

/-- The call returns a slice that reads as the bytes K; nothing that existed has changed. -/
def RetP (w : World) (K : List UInt8) (k : Nat) (e : Ending) (w' : World) : Prop := ∃ B d, e = .returned (.slice B k d) ∧ k ≤ d ∧ BytR w' B K ∧ Below w.heap.size w w'
theorem toRet {f : Nat} {ar : Array Value} {w : World} {K : List UInt8} {k : Nat} (hk : K.length = k) (h : Calls Try.prog f ar w fun e w' => ∃ v', e = .returned v' ∧ Hid (OwnB w' w.heap.size v' K) ∧ Below w.heap.size w w') :
    Calls Try.prog f ar w fun e w' => RetP w K k e w' := h.mono fun e w' hh => by
  obtain ⟨v, rfl, hO, hB⟩ := hh
  obtain ⟨B, d, rfl, hd, hr⟩ := hO.out.form
  exact ⟨B, d, by rw [hk], by omega, hr, hB⟩
theorem BytR.pre {w : World} {A : Option Addr} {l : List UInt8} (h : BytR w A l) (n : Nat) : BytR w A (l.take n) := fun hl => by
  have hl2 : 0 < l.length := by
    simp at hl
    omega
  obtain ⟨b, o, rfl, hlt, hc⟩ := h (by simpa using hl2)
  refine ⟨b, o, rfl, hlt, fun k v hk => ?_⟩
  have hk2 := (List.getElem?_eq_some_iff.1 hk).1
  simp at hk2
  refine hc k v ?_
  rw [← hk, List.getElem?_map, List.getElem?_map, List.getElem?_take_of_lt (by omega)]
/-- What Ints returns, as a slice of so many integers. -/
def RetI (w : World) (L : List Int) (n : Nat) (X : Int) (E : Nat) (e : Ending) (w' : World) : Prop := ∃ B d, e = .returned (.tuple #[.slice B n d, .int .i64 X, .int .i64 (E : Int)]) ∧ IntR w' B L ∧ Below w.heap.size w w'
theorem toRetI {f : Nat} {ar : Array Value} {w : World} {L : List Int} {n : Nat} {X : Int} {E : Nat} (hn : L.length = n) (h : Calls Try.prog f ar w fun e w' => IntsP w L X E e w') : Calls Try.prog f ar w fun e w' => RetI w L n X E e w' := h.mono fun e w' hh => by
  obtain ⟨v, rfl, hO, hB⟩ := hh
  obtain ⟨B, d, rfl, hd, hr⟩ := hO.form
  exact ⟨B, d, by rw [hn], hr, hB⟩
theorem encs_lenW {L : List Int} (hw : WideI L) : (encs L).length ≤ 10 * L.length := encs_len L hw.mem
end Go.Proofs.Ytlanbilcekepnaa
