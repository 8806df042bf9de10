/-
  Tables plainly: names, buses, what may be; where they lie.
-/
import Derived.Test.YtnhpjacodhdpeaaDoorKp
import Derived.Test.YtnhpjacodhdpeaaDoorWordU
import Derived.Test.YtnhpjacodhdpeaaDoorNum
import Derived.Test.YtnhpjacodhdpeaaDoorRrk
namespace Go.Proofs.YtnhpjacodhdpeaaDoor
open Go.RowKit

structure TB where
  name : ByteArray
  width : Int
def tb0 : TB := ⟨ByteArray.empty, 0⟩
def sameS (s t : ByteArray) : Bool := s.toList == t.toList
def spellT (b : Int) : Bool := (decide (97 ≤ b) && decide (b ≤ 122)) || (decide (65 ≤ b) && decide (b ≤ 90)) || (decide (48 ≤ b) && decide (b ≤ 57)) || decide (b = 95) || decide (b = 64) || decide (b = 63)
def spellA (l : List UInt8) : Bool := l.all (fun b => spellT b.toNat)
def nameT (s : ByteArray) : Bool := decide (1 ≤ s.size) && decide (s.size ≤ 33) && spellA s.data.toList
def atT (L : List TB) (s : ByteArray) : Option Nat := L.findIdx? (fun b => sameS b.name s)
def firstT : Option Nat → Int
  | some i => i
  | none => -1
def wideT (W : Int) : Bool := decide (1 ≤ W) && decide (W ≤ 64)
def busT (L : List TB) (i : Nat) : Bool := nameT (L.getD i tb0).name && wideT (L.getD i tb0).width && (atT (L.take i) (L.getD i tb0).name).isNone
def busesT (L : List TB) : Bool := decide (1 ≤ L.length) && decide (L.length ≤ 512) && (List.range L.length).all (busT L)
def topT (W : Int) : Int := cut false false W 18446744073709551615
def tops (L : List TB) : List Int := L.map (fun b => topT b.width)
def fitsL (l m : List Int) : Bool := decide (l.length = m.length) && (List.range l.length).all (fun i => decide (l.getD i 0 ≤ m.getD i 0))
def mayT (L : List TB) (R : List (List Int)) : Bool := busesT L && decide (R.length ≤ 4096) && (List.range R.length).all (fun i => fitsL (R.getD i []) (tops L))

theorem range_all {p : Nat → Bool} {n : Nat} (h : ∀ i, i < n → p i = true) : (List.range n).all p = true := by
  rw [List.all_eq_true]; intro x hx; exact h x (by simpa using hx)
theorem range_not {p : Nat → Bool} {n i : Nat} (hi : i < n) (h : p i = false) : (List.range n).all p = false := by
  rw [List.all_eq_false]; exact ⟨i, by simpa using hi, by simp [h]⟩
theorem range_of {p : Nat → Bool} {n : Nat} (h : (List.range n).all p = true) : ∀ i, i < n → p i = true := by
  rw [List.all_eq_true] at h; intro i hi; exact h i (by simpa using hi)

/-- What a slice of buses holds. -/
def BsR (w : World) (a : Option Addr) (n : Nat) (L : List TB) : Prop :=
  L.length = n ∧ n ≤ 9223372036854775807 ∧ (n = 0 ∨ ∃ b off, a = some ⟨b, off, none⟩ ∧ b < w.heap.size ∧ ∀ i, i < n → w.cell? ⟨b, off + i * 2, none⟩ = some (.string (L.getD i tb0).name) ∧ w.cell? ⟨b, off + i * 2 + 1, none⟩ = some (.int .i64 (L.getD i tb0).width))
section
variable {w w' : World} {a : Option Addr} {n : Nat} {L : List TB}
theorem BsR.len (h : BsR w a n L) : L.length = n := h.1
theorem BsR.le (h : BsR w a n L) : n ≤ 9223372036854775807 := h.2.1
theorem BsR.at (h : BsR w a n L) (hn : 0 < n) : ∃ b off, a = some ⟨b, off, none⟩ ∧ b < w.heap.size ∧ ∀ i, i < n → w.cell? ⟨b, off + i * 2, none⟩ = some (.string (L.getD i tb0).name) ∧ w.cell? ⟨b, off + i * 2 + 1, none⟩ = some (.int .i64 (L.getD i tb0).width) := by
  rcases h.2.2 with h0 | h1
  · omega
  · exact h1
theorem BsR.step (h : BsR w a n L) (hb : Below w.heap.size w w') : BsR w' a n L := by
  refine ⟨h.1, h.2.1, ?_⟩
  rcases h.2.2 with h0 | ⟨b, off, rfl, hlt, hc⟩
  · exact .inl h0
  · exact .inr ⟨b, off, rfl, Nat.lt_of_lt_of_le hlt hb.size, fun i hi => ⟨stepc hb hlt (hc i hi).1, stepc hb hlt (hc i hi).2⟩⟩
theorem BsR.take (h : BsR w a n L) (m : Nat) (hm : m ≤ n) : BsR w a m (L.take m) := by
  refine ⟨by rw [List.length_take, h.1]; omega, by have := h.2.1; omega, ?_⟩
  rcases h.2.2 with h0 | ⟨b, off, rfl, hlt, hc⟩
  · exact .inl (by omega)
  · refine .inr ⟨b, off, rfl, hlt, fun i hi => ?_⟩
    have e : (L.take m).getD i tb0 = L.getD i tb0 := by simp [List.getD, List.getElem?_take, hi]
    rw [e]; exact hc i (by omega)
end

theorem atT_hit {L : List TB} {s : ByteArray} {j : Nat} (hj : j < L.length) (h : sameS (L.getD j tb0).name s = true) (hn : ∀ i, i < j → sameS (L.getD i tb0).name s = false) : atT L s = some j := by
  unfold atT
  rw [List.findIdx?_eq_some_iff_getElem]
  refine ⟨hj, by simpa [List.getD, hj] using h, fun i hi => ?_⟩
  have := hn i hi
  simpa [List.getD, show i < L.length by omega] using this
theorem atT_miss {L : List TB} {s : ByteArray} (hn : ∀ i, i < L.length → sameS (L.getD i tb0).name s = false) : atT L s = none := by
  unfold atT
  rw [List.findIdx?_eq_none_iff]
  intro b hb
  obtain ⟨i, hi, rfl⟩ := List.getElem_of_mem hb
  have := hn i hi
  simpa [List.getD, hi] using this
theorem firstT_none {o : Option Nat} (h : o.isNone = true) : firstT o = -1 := by cases o <;> simp_all [firstT]
theorem firstT_some {o : Option Nat} (h : o.isNone = false) : 0 ≤ firstT o := by cases o <;> simp_all [firstT]
theorem tops_len (L : List TB) : (tops L).length = L.length := by simp [tops]
theorem tops_at (L : List TB) (i : Nat) (h : i < L.length) : (tops L).getD i 0 = topT (L.getD i tb0).width := by simp [tops, List.getD, h]
end Go.Proofs.YtnhpjacodhdpeaaDoor
