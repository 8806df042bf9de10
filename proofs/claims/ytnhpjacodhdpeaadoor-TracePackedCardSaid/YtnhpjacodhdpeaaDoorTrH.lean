/-
  Package trace: what a text is read as, plainly; where a reader lies.
-/
import Derived.Test.YtnhpjacodhdpeaaDoorTrG
namespace Go.Proofs.YtnhpjacodhdpeaaDoor
open Go.RowKit Go.Maps Bits
set_option maxRecDepth 100000

def mustP (b : Bool) : Except Nat Unit := if b then .ok () else .error 5
def digP (c : UInt8) : Nat × Bool := if 48 ≤ c.toNat ∧ c.toNat ≤ 57 then (c.toNat - 48, true) else if 97 ≤ c.toNat ∧ c.toNat ≤ 102 then (c.toNat - 87, true) else (0, false)
def numP (base least most : Nat) : Nat → Nat → List UInt8 → Except Nat ((Nat × UInt8) × List UInt8)
  | _, _, [] => .error 4
  | k, n, c :: l =>
    if (digP c).2 = false ∨ base ≤ (digP c).1 then (if 0 < k then .ok ((n, c), l) else .error 5)
    else if (k = 0 ∨ 0 < n) ∧ ((digP c).1 ≤ most ∧ n ≤ (most - (digP c).1) / base) ∧ least ≤ n * base + (digP c).1 then numP base least most (k + 1) (n * base + (digP c).1) l
    else .error 5
def nameP : List UInt8 → List UInt8 → Except Nat (List UInt8 × List UInt8)
  | _, [] => .error 4
  | acc, c :: l => if spellT c.toNat = true then (if acc.length < 33 then nameP (acc ++ [c]) l else .error 5) else if c = 58 ∧ 0 < acc.length then .ok (acc, l) else .error 5
/-- One bus, and what stands behind it. -/
def busP (acc : List TB) (l : List UInt8) : Except Nat ((TB × UInt8) × List UInt8) :=
  match nameP [] l with
  | .error e => .error e
  | .ok (nm, l1) =>
    if (atT acc ⟨nm.toArray⟩).isNone = false then .error 5
    else match numP 10 1 64 0 0 l1 with
      | .error e => .error e
      | .ok ((w, b), l2) => if b = 32 ∨ b = 10 then .ok ((⟨⟨nm.toArray⟩, (w : Int)⟩, b), l2) else .error 5
def busesP : Nat → List TB → List UInt8 → Except Nat (List TB × List UInt8)
  | 0, _, _ => .error 5
  | k + 1, acc, l =>
    match busP acc l with
    | .error e => .error e
    | .ok ((b, c), l1) => if c = 32 then busesP k (acc ++ [b]) l1 else .ok (acc ++ [b], l1)
def rowP : List Nat → List UInt8 → Except Nat (List Int × List UInt8)
  | [], l => .ok ([], l)
  | top :: rest, l =>
    match numP 16 0 top 0 0 l with
    | .error e => .error e
    | .ok ((n, b), l1) =>
      if (if rest = [] then b = 10 else b = 32) then
        match rowP rest l1 with
        | .error e => .error e
        | .ok (r, l2) => .ok ((n : Int) :: r, l2)
      else .error 5
def rowsP (tops : List Nat) : Nat → List (List Int) → List UInt8 → Except Nat (List (List Int))
  | 0, acc, l => if l = [] then .ok acc else .error 5
  | k + 1, acc, l => if l = [] then .ok acc else
    match rowP tops l with
    | .error e => .error e
    | .ok (r, l1) => rowsP tops k (acc ++ [r]) l1
def tableP (l : List UInt8) : Except Nat (List TB × List (List Int)) :=
  match busesP 512 [] l with
  | .error e => .error e
  | .ok (L, l1) =>
    match rowsP ((tops L).map Int.toNat) 4096 [] l1 with
    | .error e => .error e
    | .ok R => .ok (L, R)
def getP (l : List UInt8) : Except Nat (List TB × List (List Int)) := if 16777216 < l.length then .error 3 else tableP l

/-- Bytes that came in, or are left. -/
def BR (w : World) (a : Option Addr) (n : Nat) (l : List UInt8) : Prop :=
  l.length = n ∧ n ≤ 9223372036854775807 ∧ (n = 0 ∨ ∃ b off, a = some ⟨b, off, none⟩ ∧ b < w.heap.size ∧ ∀ i, i < n → w.cell? ⟨b, off + i, none⟩ = some (.int .u8 ((l.getD i 0).toNat : Int)))
theorem BR.step {w w' : World} {a : Option Addr} {n : Nat} {l : List UInt8} (h : BR w a n l) (hb : Below w.heap.size w w') : BR w' a n l := by
  refine ⟨h.1, h.2.1, ?_⟩
  rcases h.2.2 with h0 | ⟨b, off, rfl, hlt, hc⟩
  · exact .inl h0
  · exact .inr ⟨b, off, rfl, Nat.lt_of_lt_of_le hlt hb.size, fun i hi => stepc hb hlt (hc i hi)⟩
/-- A reader, in its block r; the bytes that are left lie below it. -/
structure Rd (w : World) (r : Nat) (l : List UInt8) : Prop where
  ex : ∃ (a : Option Addr) (c : Nat), w.heap[r]? = some (.cells #[.slice a l.length c] 168 (0, 0)) ∧ l.length ≤ c ∧ c ≤ 9223372036854775807 ∧ (l = [] ∨ ∃ b off, a = some ⟨b, off, none⟩ ∧ b < r ∧ ∀ i, i < l.length → w.cell? ⟨b, off + i, none⟩ = some (.int .u8 ((l.getD i 0).toNat : Int)))
/-- All but the reader's block is as it was. -/
def KR (r : Nat) (w w' : World) : Prop := Kept (fun k => k = r) w w'
theorem KR.refl (r : Nat) (w : World) : KR r w w := Kept.refl _ _
theorem KR.of_below {r : Nat} {w w' : World} (h : Below w.heap.size w w') : KR r w w' := Kept.of_below h
theorem KR.trans {r : Nat} {a b c : World} (h : KR r a b) (k : KR r b c) : KR r a c := Kept.trans h k (fun x hx => .inl hx)
theorem KR.below {r : Nat} {w w' : World} (h : KR r w w') (hr : r ≤ w.heap.size) : Below r w w' := Kept.below h (fun k hk => by omega) hr
theorem Rd.step {w w' : World} {r : Nat} {l : List UInt8} (h : Rd w r l) (hb : Below w.heap.size w w') : Rd w' r l := by
  obtain ⟨a, c, h1, h2, h3, h4⟩ := h.ex
  refine ⟨a, c, (hb.block r (Array.getElem?_eq_some_iff.1 h1).1).trans h1, h2, h3, ?_⟩
  rcases h4 with h4 | ⟨b, off, e, hlt, hc⟩
  · exact .inl h4
  · exact .inr ⟨b, off, e, hlt, fun i hi => stepc hb (World.block_lt_of_cell? w _ (hc i hi)) (hc i hi)⟩
theorem Rd.lt {w : World} {r : Nat} {l : List UInt8} (h : Rd w r l) : r < w.heap.size := by
  obtain ⟨a, c, h1, -⟩ := h.ex
  exact (Array.getElem?_eq_some_iff.1 h1).1
def WP (n : Nat) : List PanicEntry := [{ v := .iface 166 (.int .i64 (n : Int)), recovered := false }]
/-- How a reader's call ends. -/
def PO {α : Type} (w : World) (r : Nat) (x : Except Nat (α × List UInt8)) (V : α → Ending → World → Prop) (e : Ending) (w' : World) : Prop :=
  KR r w w' ∧ match x with
    | .ok (v, l) => Rd w' r l ∧ V v e w'
    | .error n => e = .panicked (WP n)

theorem must_yes (w : World) : Calls Tryd.prog 138 #[.bool true] w fun e w' => e = .returned (.tuple #[]) ∧ w = w' := by
  go_enter Tryd.func138, Tryd.ntmps138
  go_wp2
  exact bodyPost_end (v := .tuple #[]) (by simp [results, Tryd.results138]) rfl ⟨rfl, rfl⟩
theorem must_no (w : World) : Calls Tryd.prog 138 #[.bool false] w fun e w' => e = .panicked (WP 5) ∧ w = w' := by
  go_enter Tryd.func138, Tryd.ntmps138
  go_wp2
  exact ⟨rfl, rfl, rfl⟩
def nextP : List UInt8 → Except Nat (UInt8 × List UInt8)
  | [] => .error 4
  | c :: l => .ok (c, l)
theorem next_any {w : World} {r : Nat} {l : List UInt8} (h : Rd w r l) : Calls Tryd.prog 174 #[.pointer (some ⟨r, 0, none⟩)] w fun e w' => PO w r (nextP l) (fun c e _ => e = .returned (.int .u8 (c.toNat : Int))) e w' := by
  obtain ⟨a, c, h1, h2, h3, h4⟩ := h.ex
  cases l with
  | nil =>
    have c0 : w.cell? ⟨r, 0, none⟩ = some (.slice a 0 c) := cell_of_heap h1 0 _ rfl
    clear h h1
    go_enter Tryd.func174, Tryd.ntmps174
    go_wp2
    exact ⟨rfl, KR.refl _ _, rfl⟩
  | cons x l =>
    have c0 : w.cell? ⟨r, 0, none⟩ = some (.slice a (l.length + 1) c) := cell_of_heap h1 0 _ rfl
    obtain ⟨b, off, rfl, hbr, hcell⟩ : ∃ b off, a = some ⟨b, off, none⟩ ∧ b < r ∧ ∀ i, i < (x :: l).length → w.cell? ⟨b, off + i, none⟩ = some (.int .u8 (((x :: l).getD i 0).toNat : Int)) := by
      rcases h4 with h4 | h4
      · cases h4
      · exact h4
    have c1 : w.cell? ⟨b, off, none⟩ = some (.int .u8 (x.toNat : Int)) := hcell 0 (by simp)
    have hf := frozen_of_row w r 0 _ _ h1
    have hc1 : 1 ≤ c := by simp at h2; omega
    have hln : l.length + 1 ≤ 9223372036854775807 := by simp at h2; omega
    have hne : ¬ (l.length : Int) + 1 = 0 := by omega
    have h2' : l.length + 1 ≤ c := by simpa using h2
    have hfin : Hid (∀ a' c', l.length ≤ c' → c' ≤ 9223372036854775807 → (l = [] ∨ a' = some ⟨b, off + 1, none⟩) → KR r w (w.setCell ⟨r, 0, none⟩ (.slice a' l.length c')) ∧ Rd (w.setCell ⟨r, 0, none⟩ (.slice a' l.length c')) r l) := Lib.hid (fun a' c' q1 q2 q3 => by
      refine ⟨⟨rfl, rfl, rfl, by simp, fun k _ hn => Below.heap_setCell _ _ _ _ hn⟩, ⟨a', c', ?_, q1, q2, ?_⟩⟩
      · rw [setCell_eq_setRow w r 0 _ _ _ _ h1, setRow_heap w r _ _ _ _ h1]; rfl
      · rcases q3 with q3 | rfl
        · exact .inl q3
        · refine .inr ⟨b, off + 1, rfl, hbr, fun i hi => ?_⟩
          have hi2 : i + 1 < (x :: l).length := by simp; omega
          have := hcell (i + 1) hi2
          rw [World.cell?_setCell_other _ _ _ _ (by intro e; simp at e)]
          rw [show off + 1 + i = off + (i + 1) by omega, this]
          simp [List.getD])
    clear h h1 h4 hcell h2
    by_cases hce : c = 1
    · subst hce
      obtain rfl : l = [] := List.eq_nil_of_length_eq_zero (by omega)
      go_enter Tryd.func174, Tryd.ntmps174
      go_wp2
      go_ret
      have := hfin.out (some ⟨b, off, none⟩) 0 (by simp) (by omega) (by simp)
      exact ⟨this.1, this.2, rfl⟩
    · go_enter Tryd.func174, Tryd.ntmps174
      go_wp2
      go_ret
      have := hfin.out (some ⟨b, off + 1, none⟩) (c - 1) (by omega) (by omega) (.inr rfl)
      exact ⟨this.1, this.2, rfl⟩
end Go.Proofs.YtnhpjacodhdpeaaDoor
