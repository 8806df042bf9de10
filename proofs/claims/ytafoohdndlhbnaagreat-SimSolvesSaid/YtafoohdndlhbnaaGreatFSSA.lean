/-
  How the arguments that come in are opened: a type of the project's by value; an array of integers by value.
  Plain facts on the bits of unsigned numbers, as the walk spells them.
  Plain functions for package lit, and what they come to.
  Graphs of and-gates, plainly: what each call makes of one; what a graph's words are.
-/
import Derived.Test.YtafoohdndlhbnaaGreatRows
import Derived.WalkKit
import Derived.ProofKit
import Derived.OpenShut
import Derived.ShutString
import Derived.ChangeOld
import Derived.Below
import Derived.Lib.SmallJoins
import Derived.Test.YtafoohdndlhbnaaGreatProg
section
namespace Go.Proofs.YtafoohdndlhbnaaGreat
open Go.ChangeShapes Go.WideShapes Go.ChangeAt Go.RowKit Go.Joins
set_option maxRecDepth 100000

theorem own : ownKnob Tryz.prog.godebug = none := by kernel_rfl
theorem laidOut : laidOutB Tryz.prog = true := by kernel_rfl

section
variable {H : Type} {enc : TypeId × Value → H} {w : World} {base : Nat} {spare : Nat → Bool} {held : Bool}

theorem ints_of {P : Program} {e : Nat} {k : IntKind} (he : P.underlying e = some (.int k)) : ∀ (cs : List Value), (∀ i, i < cs.length → ∃ m x, DataW.trod enc P w base spare held m e ((cs.drop i).take 1) = some x) →
    ∃ zs : List Int, zs.length = cs.length ∧ cs = zs.map (Value.int k) ∧ ∀ z ∈ zs, (Lit.int k z).wf = true := by
  intro cs
  induction cs with
  | nil => intro _; exact ⟨[], rfl, rfl, by simp⟩
  | cons c cs ih =>
    intro h
    obtain ⟨m, x, h0⟩ := h 0 (by simp)
    obtain ⟨z, e0, -, hz⟩ := DataW.trod_int he h0
    obtain ⟨zs, e1, e2, e3⟩ := ih (fun i hi => by have := h (i + 1) (by simpa using hi); simpa using this)
    refine ⟨z :: zs, by simp [e1], ?_, ?_⟩
    · simp at e0; simp [e0, ← e2]
    · intro y hy
      rcases List.mem_cons.1 hy with rfl | hy
      · exact hz
      · exact e3 y hy

theorem open_arr {P : Program} {r : Reach} {b0 : Nat} {t e n : Nat} {k : IntKind} {v : Value} {d : DataW H} {p : List MemPlace} (hs : P.underlying t = some (.array n e)) (he : P.underlying e = some (.int k)) (hce : P.cellsOf e = 1) (hC : P.cellsOf t = n)
    (hv : Value.okWide P w r b0 t v) (h : DataW.Trod enc P w base spare held t v d p) :
    ∃ zs : List Int, zs.length = n ∧ v = .agg (zs.map (Value.int k)).toArray ∧ ∀ z ∈ zs, (Lit.int k z).wf = true := by
  have hv' : ∃ cs, v = .agg cs := by
    simp only [Value.okWide, hs] at hv
    obtain ⟨cs, h1, _⟩ := hv
    exact ⟨cs, h1⟩
  obtain ⟨cs, rfl⟩ := hv'
  obtain ⟨fuel, hf⟩ := h
  obtain ⟨xs, m, -, -, hl, hxl, hx⟩ := DataW.trod_array hs hf
  have hlen : cs.toList.length = n := by
    have : cs.toList.length = P.cellsOf t := by simpa [Value.cells] using hl
    rw [hC] at this; exact this
  obtain ⟨zs, e1, e2, e3⟩ := ints_of (enc := enc) (w := w) (base := base) (spare := spare) (held := held) he cs.toList (fun i hi => by
    have := hx i (by omega)
    rw [hce] at this
    simp only [Nat.mul_one, Value.cells] at this
    exact ⟨m, xs[i]'(by omega), by rw [this]; simp⟩)
  exact ⟨zs, by omega, by rw [← e2], e3⟩

/-- What a walk is told of a slice of integers that came in: nil; or a row of 'cap' cells, the numbers 'zs'. -/
def IsRow (k : IntKind) (w : World) (a : Option Addr) (len cap : Nat) (zs : List Int) : Prop :=
  (a = Option.none ∧ len = 0 ∧ cap = 0 ∧ zs = []) ∨
  ∃ x, a = some x ∧ len ≤ cap ∧ cap ≤ maxLen ∧ zs.length = cap ∧ (∀ i, i < zs.length → w.cell? (x.add i) = some (.int k (zs.getD i 0))) ∧ ∀ n ∈ zs, (Lit.int k n).wf = true

theorem is_row {P : Program} {t e : Nat} {k : IntKind} {a : Option Addr} {len cap : Nat} {d : DataW H} {p : List MemPlace} (hs : P.underlying t = some (.slice e)) (he : P.underlying e = some (.int k)) (hce : P.cellsOf e = 1)
    (h : DataW.Trod enc P w base (fun _ => true) held t (.slice a len cap) d p) : ∃ zs, IsRow k w a len cap zs := by
  obtain ⟨fuel, hf⟩ := h
  rcases open_ints hs he hce hf with ⟨hcs, _⟩ | ⟨x, l, c, zs, hcs, _, hl, hm, hz, _, hcell, hwz⟩
  · simp [Value.cells] at hcs
    obtain ⟨rfl, rfl, rfl⟩ := hcs
    exact ⟨[], .inl ⟨rfl, rfl, rfl, rfl⟩⟩
  · simp [Value.cells] at hcs
    obtain ⟨rfl, rfl, rfl⟩ := hcs
    exact ⟨zs, .inr ⟨_, rfl, hl, hm, by simpa using hz, hcell, hwz⟩⟩

theorem list2 {l : List Int} (h : l.length = 2) : ∃ a b, l = [a, b] := by
  match l, h with
  | [a, b], _ => exact ⟨a, b, rfl⟩
theorem list3 {l : List Int} (h : l.length = 3) : ∃ a b c, l = [a, b, c] := by
  match l, h with
  | [a, b, c], _ => exact ⟨a, b, c, rfl⟩
end
end Go.Proofs.YtafoohdndlhbnaaGreat
end

section
namespace Go.Proofs.YtafoohdndlhbnaaGreat
open Go.RowKit

namespace Num
theorem w64 (x : Int) : IntKind.u64.wrap x = x % 18446744073709551616 := by
  simp [IntKind.wrap, IntKind.bits, IntKind.signed]
theorem w32 (x : Int) : IntKind.u32.wrap x = x % 4294967296 := by
  simp [IntKind.wrap, IntKind.bits, IntKind.signed]
theorem nat64 {n : Nat} (h : n < 18446744073709551616) : IntKind.u64.wrap (n : Int) = n := by rw [w64]; omega
theorem nat32 {n : Nat} (h : n < 4294967296) : IntKind.u32.wrap (n : Int) = n := by rw [w32]; omega
theorem lt64 {a : Int} (h : a < 18446744073709551616) : a.toNat < 2 ^ 64 := by omega
theorem lt32 {a : Int} (h : a < 4294967296) : a.toNat < 2 ^ 32 := by omega
theorem of64 {a : Int} (ha : 0 ≤ a) (ha' : a < 18446744073709551616) : (BitVec.ofInt 64 a).toNat = a.toNat := by rw [BitVec.toNat_ofInt]; omega
theorem of32 {a : Int} (ha : 0 ≤ a) (ha' : a < 4294967296) : (BitVec.ofInt 32 a).toNat = a.toNat := by rw [BitVec.toNat_ofInt]; omega

theorem and64 {a b : Int} (ha : 0 ≤ a) (ha' : a < 18446744073709551616) (hb : 0 ≤ b) (hb' : b < 18446744073709551616) : bits .and .u64 a b = ((a.toNat &&& b.toNat : Nat) : Int) := by
  show IntKind.u64.wrap ((BitVec.ofInt 64 a &&& BitVec.ofInt 64 b).toNat : Int) = _
  rw [BitVec.toNat_and, of64 ha ha', of64 hb hb']
  exact nat64 (Nat.and_lt_two_pow _ (lt64 hb'))
theorem or64 {a b : Int} (ha : 0 ≤ a) (ha' : a < 18446744073709551616) (hb : 0 ≤ b) (hb' : b < 18446744073709551616) : bits .or .u64 a b = ((a.toNat ||| b.toNat : Nat) : Int) := by
  show IntKind.u64.wrap ((BitVec.ofInt 64 a ||| BitVec.ofInt 64 b).toNat : Int) = _
  rw [BitVec.toNat_or, of64 ha ha', of64 hb hb']
  exact nat64 (Nat.or_lt_two_pow (lt64 ha') (lt64 hb'))
theorem xor64 {a b : Int} (ha : 0 ≤ a) (ha' : a < 18446744073709551616) (hb : 0 ≤ b) (hb' : b < 18446744073709551616) : bits .xor .u64 a b = ((a.toNat ^^^ b.toNat : Nat) : Int) := by
  show IntKind.u64.wrap ((BitVec.ofInt 64 a ^^^ BitVec.ofInt 64 b).toNat : Int) = _
  rw [BitVec.toNat_xor, of64 ha ha', of64 hb hb']
  exact nat64 (Nat.xor_lt_two_pow (lt64 ha') (lt64 hb'))
theorem not64 {a : Int} (ha : 0 ≤ a) (ha' : a < 18446744073709551616) : bits .xor .u64 IntKind.u64.max a = 18446744073709551615 - a := by
  show IntKind.u64.wrap ((BitVec.ofInt 64 IntKind.u64.max ^^^ BitVec.ofInt 64 a).toNat : Int) = _
  rw [show BitVec.ofInt 64 IntKind.u64.max = BitVec.allOnes 64 by decide +kernel, BitVec.allOnes_xor, BitVec.toNat_not, of64 ha ha', w64]
  omega
theorem xor32 {a b : Int} (ha : 0 ≤ a) (ha' : a < 4294967296) (hb : 0 ≤ b) (hb' : b < 4294967296) : bits .xor .u32 a b = ((a.toNat ^^^ b.toNat : Nat) : Int) := by
  show IntKind.u32.wrap ((BitVec.ofInt 32 a ^^^ BitVec.ofInt 32 b).toNat : Int) = _
  rw [BitVec.toNat_xor, of32 ha ha', of32 hb hb']
  exact nat32 (Nat.xor_lt_two_pow (lt32 ha') (lt32 hb'))
theorem and32 {a b : Int} (ha : 0 ≤ a) (ha' : a < 4294967296) (hb : 0 ≤ b) (hb' : b < 4294967296) : bits .and .u32 a b = ((a.toNat &&& b.toNat : Nat) : Int) := by
  show IntKind.u32.wrap ((BitVec.ofInt 32 a &&& BitVec.ofInt 32 b).toNat : Int) = _
  rw [BitVec.toNat_and, of32 ha ha', of32 hb hb']
  exact nat32 (Nat.and_lt_two_pow _ (lt32 hb'))
theorem and_bd {a b : Int} (ha : 0 ≤ a) (ha' : a < 18446744073709551616) (hb : 0 ≤ b) (hb' : b < 18446744073709551616) : 0 ≤ bits .and .u64 a b ∧ bits .and .u64 a b < 18446744073709551616 := by
  rw [and64 ha ha' hb hb']
  have := Nat.and_lt_two_pow a.toNat (lt64 hb')
  omega
/-- The lowest bit. -/
theorem one64 {a : Int} (ha : 0 ≤ a) (ha' : a < 18446744073709551616) : bits .and .u64 a 1 = a % 2 := by
  rw [and64 ha ha' (by decide) (by decide), show (1 : Int).toNat = 1 from rfl, Nat.and_one_is_mod]; omega
theorem one32 {a : Int} (ha : 0 ≤ a) (ha' : a < 4294967296) : bits .and .u32 a 1 = a % 2 := by
  rw [and32 ha ha' (by decide) (by decide), show (1 : Int).toNat = 1 from rfl, Nat.and_one_is_mod]; omega
theorem nat_xor_one (n : Nat) : n ^^^ 1 = if n % 2 = 0 then n + 1 else n - 1 := by
  have h1 : (n ^^^ 1) / 2 = n / 2 := by
    have := Nat.xor_div_two (a := n) (b := 1); simpa using this
  have h2 : (n ^^^ 1) % 2 = (n + 1) % 2 := by
    have e : (n ^^^ 1) % 2 ^ 1 = (n % 2 ^ 1) ^^^ (1 % 2 ^ 1) := Nat.xor_mod_two_pow
    rw [show (2 : Nat) ^ 1 = 2 from rfl] at e
    rw [e]
    rcases Nat.mod_two_eq_zero_or_one n with h | h <;> rw [h] <;> simp <;> omega
  split <;> omega
theorem and_self64 {a : Int} (ha : 0 ≤ a) (ha' : a < 18446744073709551616) : bits .and .u64 a a = a := by
  rw [and64 ha ha' ha ha', Nat.and_self]; omega
theorem and_zero64 {a : Int} (ha : 0 ≤ a) (ha' : a < 18446744073709551616) : bits .and .u64 a 0 = 0 := by
  rw [and64 ha ha' (by decide) (by decide)]; simp
theorem zero_and64 {a : Int} (ha : 0 ≤ a) (ha' : a < 18446744073709551616) : bits .and .u64 0 a = 0 := by
  rw [and64 (by decide) (by decide) ha ha']; simp
theorem and_comm64 {a b : Int} (ha : 0 ≤ a) (ha' : a < 18446744073709551616) (hb : 0 ≤ b) (hb' : b < 18446744073709551616) : bits .and .u64 a b = bits .and .u64 b a := by
  rw [and64 ha ha' hb hb', and64 hb hb' ha ha', Nat.and_comm]
theorem and_not64 {a : Int} (ha : 0 ≤ a) (ha' : a < 18446744073709551616) : bits .and .u64 a (18446744073709551615 - a) = 0 := by
  rw [and64 ha ha' (by omega) (by omega)]
  have e : (18446744073709551615 - a).toNat = 2 ^ 64 - 1 - a.toNat := by omega
  rw [e]
  have : a.toNat &&& (2 ^ 64 - 1 - a.toNat) = 0 := by
    apply Nat.eq_of_testBit_eq
    intro i
    rw [Nat.testBit_and, Nat.zero_testBit, show 2 ^ 64 - 1 - a.toNat = 2 ^ 64 - (a.toNat + 1) by omega, Nat.testBit_two_pow_sub_succ (lt64 ha')]
    cases a.toNat.testBit i <;> simp
  rw [this]; rfl
theorem and_ones64 {a : Int} (ha : 0 ≤ a) (ha' : a < 18446744073709551616) : bits .and .u64 a 18446744073709551615 = a := by
  rw [and64 ha ha' (by decide) (by decide), show (18446744073709551615 : Int).toNat = 2 ^ 64 - 1 from rfl, Nat.and_two_pow_sub_one_eq_mod, Nat.mod_eq_of_lt (lt64 ha')]; omega
end Num
end Go.Proofs.YtafoohdndlhbnaaGreat
end

section
namespace Go.Proofs.YtafoohdndlhbnaaGreat
open Go.RowKit Num

def notV (l : Int) : Int := if l % 2 == 0 then l + 1 else l - 1
def turnV (l : Int) : Bool := l % 2 == 1
def ifV (l : Int) (t : Bool) : Int := if t then notV l else l
def ofBad (n : Int) : Bool := decide (n < 0) || decide (16777216 < n)
def ofV (n : Int) (t : Bool) : Int := if ofBad n then 0 else 2 * n + (if t then 1 else 0)
def ofE (n : Int) : Int := if ofBad n then 1 else 0
/-- A node's word. -/
def nodeW (n : Int) (zs : List Int) : Int := if decide (0 < n) && decide (n < zs.length) then zs.getD n.toNat 0 else 0
def wordV (l : Int) (zs : List Int) : Int := if turnV l then 18446744073709551615 - nodeW (l / 2) zs else nodeW (l / 2) zs
def foldB (a b : Int) : Bool := (a == 0) || (b == 0) || (a == notV b) || (a == 1) || (b == 1) || (a == b)
def foldV (a b : Int) : Int := if (a == 0) || (b == 0) || (a == notV b) then 0 else if a == 1 then b else if (b == 1) || (a == b) then a else 0

/-- A literal as a machine holds it. -/
def IsLit (l : Int) : Prop := 0 ≤ l ∧ l < 4294967296
/-- Words of a valuation. -/
def Words (zs : List Int) : Prop := ∀ i, 0 ≤ zs.getD i 0 ∧ zs.getD i 0 < 18446744073709551616

theorem notV_lit {l : Int} (h : IsLit l) : IsLit (notV l) := by
  unfold IsLit notV at *; split <;> simp_all <;> omega
theorem notV_not (l : Int) : notV (notV l) = l := by
  by_cases e : l % 2 = 0
  · have h : (l + 1) % 2 = 1 := by omega
    unfold notV; simp [e, h]
  · have h : (l - 1) % 2 = 0 := by omega
    unfold notV; simp [e, h]
theorem notV_half (l : Int) : notV l / 2 = l / 2 := by
  unfold notV; split <;> simp_all <;> omega
theorem notV_turn (l : Int) : turnV (notV l) = !turnV l := by
  by_cases e : l % 2 = 0
  · have h : (l + 1) % 2 = 1 := by omega
    unfold notV turnV; simp [e, h]
  · have h : (l - 1) % 2 = 0 := by omega
    have h2 : l % 2 = 1 := by omega
    unfold notV turnV; simp [h, h2]
theorem notV_ne (l : Int) : notV l ≠ l := by unfold notV; split <;> omega
theorem xor_not {l : Int} (h : IsLit l) : bits .xor .u32 l 1 = notV l := by
  obtain ⟨h0, h1⟩ := h
  rw [xor32 h0 h1 (by decide) (by decide), show (1 : Int).toNat = 1 from rfl, nat_xor_one]
  unfold notV
  by_cases e : l % 2 = 0
  · rw [if_pos (by omega), if_pos (by simpa using e)]; omega
  · rw [if_neg (by omega), if_neg (by simpa using e)]; omega
theorem and_turn {l : Int} (h : IsLit l) : (bits .and .u32 l 1 == 1) = turnV l := by
  rw [one32 h.1 h.2]; rfl

theorem nodeW_bd {zs : List Int} (h : Words zs) (n : Int) : 0 ≤ nodeW n zs ∧ nodeW n zs < 18446744073709551616 := by
  unfold nodeW; split
  · exact h _
  · omega
theorem wordV_bd {zs : List Int} (h : Words zs) (l : Int) : 0 ≤ wordV l zs ∧ wordV l zs < 18446744073709551616 := by
  have := nodeW_bd h (l / 2)
  unfold wordV; split <;> omega
theorem wordV_not (l : Int) (zs : List Int) : wordV (notV l) zs = 18446744073709551615 - wordV l zs := by
  unfold wordV
  rw [notV_half, notV_turn]
  cases turnV l <;> simp
  omega
theorem wordV_0 (zs : List Int) : wordV 0 zs = 0 := by unfold wordV turnV nodeW; simp
theorem wordV_1 (zs : List Int) : wordV 1 zs = 18446744073709551615 := by unfold wordV turnV nodeW; simp

theorem foldV_word {a b : Int} {zs : List Int} (h : Words zs) (hf : foldB a b = true) : wordV (foldV a b) zs = bits .and .u64 (wordV a zs) (wordV b zs) := by
  have ba := wordV_bd h a
  have bb := wordV_bd h b
  unfold foldV
  by_cases h0 : a = 0
  · subst h0; simp [wordV_0, zero_and64 bb.1 bb.2]
  by_cases h1 : b = 0
  · subst h1; simp [wordV_0, and_zero64 ba.1 ba.2]
  by_cases h2 : a = notV b
  · subst h2; simp [wordV_0]; rw [wordV_not, and_comm64 (by omega) (by omega) bb.1 bb.2, and_not64 bb.1 bb.2]
  by_cases h3 : a = 1
  · subst h3; simp [h1, h2, wordV_1]; rw [and_comm64 (by decide) (by decide) bb.1 bb.2, and_ones64 bb.1 bb.2]
  by_cases h4 : b = 1
  · subst h4; simp [h0, h2, h3, wordV_1]; rw [and_ones64 ba.1 ba.2]
  by_cases h5 : a = b
  · subst h5; simp [h0, h2, h3]; rw [and_self64 ba.1 ba.2]
  · unfold foldB at hf; simp [h0, h1, h2, h3, h4, h5] at hf
theorem notV_inj {a b : Int} (h : notV a = notV b) : a = b := by rw [← notV_not a, h, notV_not]
theorem notV_eq {a b : Int} : a = notV b ↔ b = notV a := ⟨fun h => by rw [h, notV_not], fun h => by rw [h, notV_not]⟩
theorem foldB_comm (a b : Int) : foldB a b = foldB b a := by
  unfold foldB
  have e : (a == notV b) = (b == notV a) := by
    rw [Bool.eq_iff_iff]; simp only [beq_iff_eq]; exact notV_eq
  have e2 : (a == b) = (b == a) := by rw [Bool.eq_iff_iff]; simp only [beq_iff_eq]; exact ⟨Eq.symm, Eq.symm⟩
  rw [e, e2]
  cases (a == 0) <;> cases (b == 0) <;> cases (b == notV a) <;> cases (a == 1) <;> cases (b == 1) <;> rfl
theorem foldV_comm (a b : Int) : foldV a b = foldV b a := by
  unfold foldV
  have e : (a == notV b) = (b == notV a) := by
    rw [Bool.eq_iff_iff]; simp only [beq_iff_eq]; exact notV_eq
  rw [e]
  have o : ((a == 0) || (b == 0) || (b == notV a)) = ((b == 0) || (a == 0) || (b == notV a)) := by cases (a == 0) <;> cases (b == 0) <;> rfl
  rw [o]
  cases ((b == 0) || (a == 0) || (b == notV a))
  · by_cases h3 : a = 1
    · by_cases h4 : b = 1
      · rw [h3, h4]
      · simp [h3, h4]
    · by_cases h4 : b = 1
      · simp [h3, h4]
      · by_cases h5 : a = b
        · rw [h5]
        · have h6 : ¬ b = a := fun h => h5 h.symm
          simp [h3, h4, h5, h6]
  · rfl
theorem foldV_lit {a b : Int} (ha : IsLit a) (hb : IsLit b) : IsLit (foldV a b) := by
  have hz : IsLit 0 := by unfold IsLit; omega
  unfold foldV; split
  · exact hz
  · split
    · exact hb
    · split
      · exact ha
      · exact hz
/-- Where no gate is needed. -/
theorem foldB_no {a b : Int} (ha : 0 ≤ a) (hb : 0 ≤ b) (h : foldB a b = false) : (a / 2 == b / 2) = false ∧ 1 < a ∧ 1 < b := by
  unfold foldB at h
  simp at h
  obtain ⟨⟨⟨⟨⟨h0, h1⟩, h2⟩, h3⟩, h4⟩, h5⟩ := h
  refine ⟨?_, by omega, by omega⟩
  simp
  intro e
  unfold notV at h2
  split at h2 <;> simp_all <;> omega
end Go.Proofs.YtafoohdndlhbnaaGreat
end

section
namespace Go.Proofs.YtafoohdndlhbnaaGreat
open Go.RowKit Num

structure Nd where
  gate : Bool
  a : Int
  b : Int
structure Gr where
  fold : Bool
  hash : Bool
  nodes : List Nd
  inputs : List Int

def hiV (a b : Int) : Int := if a < b then b else a
def loV (a b : Int) : Int := if a < b then a else b
def isPair (a b : Int) (n : Nd) : Bool := n.gate && (n.a == a && n.b == b)
def findG (ns : List Nd) (a b : Int) : Option Nat := ns.findIdx? (isPair a b)
def addN (G : Gr) (a b : Int) : Gr := { G with nodes := G.nodes ++ [⟨true, a, b⟩] }
def inputG (G : Gr) : Gr := { G with nodes := G.nodes ++ [⟨false, 0, 0⟩], inputs := G.inputs ++ [(G.nodes.length : Int)] }
def newG (F H : Bool) : Gr := ⟨F, H, [⟨false, 0, 0⟩], []⟩
def seenG (G : Gr) (a b : Int) : Option Nat := if G.hash then findG G.nodes (hiV a b) (loV a b) else none
def gateG (G : Gr) (a b : Int) : Gr × Int := (addN G (hiV a b) (loV a b), 2 * (G.nodes.length : Int))
def andG (G : Gr) (a b : Int) : Gr × Int :=
  if (G.fold && foldB a b) = true then (G, foldV a b) else
  match seenG G a b with
  | some i => (G, 2 * (i : Int))
  | none => gateG G a b
def orG (G : Gr) (a b : Int) : Gr × Int := ((andG G (notV a) (notV b)).1, notV (andG G (notV a) (notV b)).2)
def eitherG (G : Gr) (a b c d : Int) : Gr × Int := orG (andG (andG G a b).1 c d).1 (andG G a b).2 (andG (andG G a b).1 c d).2
def xorG (G : Gr) (a b : Int) : Gr × Int := eitherG G a (notV b) (notV a) b
def muxG (G : Gr) (c a b : Int) : Gr × Int := eitherG G c a (notV c) b
def manyG (T : Gr → Int → Int → Gr × Int) (z : Int) (G : Gr) : List Int → Gr × Int
  | [] => (G, z)
  | x :: r => r.foldl (fun p y => T p.1 p.2 y) (G, x)

structure Wf (G : Gr) : Prop where
  zero : G.nodes[0]? = some ⟨false, 0, 0⟩
  gates : ∀ (i : Nat) (n : Nd), G.nodes[i]? = some n → n.gate = true → IsLit n.a ∧ IsLit n.b ∧ n.b ≤ n.a ∧ n.a / 2 < i
  plain : ∀ (i : Nat) (n : Nd), G.nodes[i]? = some n → n.gate = false → n.a = 0 ∧ n.b = 0
  ins : ∀ (k : Nat) (v : Int), G.inputs[k]? = some v → ∃ i : Nat, v = i ∧ 0 < i ∧ ∃ n, G.nodes[i]? = some n ∧ n.gate = false
  rise : ∀ (j k : Nat) (x y : Int), j < k → G.inputs[j]? = some x → G.inputs[k]? = some y → x < y
  all : ∀ (i : Nat) (n : Nd), 0 < i → G.nodes[i]? = some n → n.gate = false → ∃ k : Nat, G.inputs[k]? = some (i : Int)
  cnt : G.nodes.countP (·.gate) + G.inputs.length + 1 = G.nodes.length

/-- A literal whose node is there. -/
def There (G : Gr) (l : Int) : Prop := IsLit l ∧ l / 2 < G.nodes.length

structure Le (G G' : Gr) : Prop where
  fold : G'.fold = G.fold
  hash : G'.hash = G.hash
  nodes : ∃ t, G'.nodes = G.nodes ++ t
  inputs : ∃ t, G'.inputs = G.inputs ++ t

theorem Le.refl (G : Gr) : Le G G := ⟨rfl, rfl, ⟨[], by simp⟩, ⟨[], by simp⟩⟩
theorem Le.trans {A B C : Gr} (h : Le A B) (k : Le B C) : Le A C := by
  obtain ⟨t, ht⟩ := h.nodes; obtain ⟨u, hu⟩ := k.nodes
  obtain ⟨s, hs⟩ := h.inputs; obtain ⟨r, hr⟩ := k.inputs
  exact ⟨k.fold.trans h.fold, k.hash.trans h.hash, ⟨t ++ u, by rw [hu, ht, List.append_assoc]⟩, ⟨s ++ r, by rw [hr, hs, List.append_assoc]⟩⟩
theorem Le.len {A B : Gr} (h : Le A B) : A.nodes.length ≤ B.nodes.length := by
  obtain ⟨t, ht⟩ := h.nodes; rw [ht]; simp
theorem Le.node {A B : Gr} (h : Le A B) {i : Nat} {n : Nd} (e : A.nodes[i]? = some n) : B.nodes[i]? = some n := by
  obtain ⟨t, ht⟩ := h.nodes
  rw [ht, List.getElem?_append_left (List.getElem?_eq_some_iff.1 e).1]; exact e
theorem Le.input {A B : Gr} (h : Le A B) {i : Nat} {n : Int} (e : A.inputs[i]? = some n) : B.inputs[i]? = some n := by
  obtain ⟨t, ht⟩ := h.inputs
  rw [ht, List.getElem?_append_left (List.getElem?_eq_some_iff.1 e).1]; exact e
theorem Le.there {A B : Gr} (h : Le A B) {l : Int} (e : There A l) : There B l := ⟨e.1, by have := h.len; have := e.2; omega⟩
theorem There.not {G : Gr} {l : Int} (h : There G l) : There G (notV l) := ⟨notV_lit h.1, by rw [notV_half]; exact h.2⟩

theorem hiV_or (a b : Int) : (hiV a b = a ∧ loV a b = b) ∨ (hiV a b = b ∧ loV a b = a) := by unfold hiV loV; split <;> simp
theorem lo_hi (a b : Int) : loV a b ≤ hiV a b := by unfold hiV loV; split <;> omega
theorem There.hi {G : Gr} {a b : Int} (ha : There G a) (hb : There G b) : There G (hiV a b) := by unfold hiV; split <;> assumption
theorem There.lo {G : Gr} {a b : Int} (ha : There G a) (hb : There G b) : There G (loV a b) := by unfold loV; split <;> assumption

theorem get_push {α : Type} {l : List α} {x : α} {i : Nat} {n : α} (h : (l ++ [x])[i]? = some n) : l[i]? = some n ∨ (i = l.length ∧ n = x) := by
  by_cases hi : i < l.length
  · rw [List.getElem?_append_left hi] at h; exact .inl h
  · have hl := (List.getElem?_eq_some_iff.1 h).1
    simp at hl
    have e : i = l.length := by omega
    subst e
    rw [List.getElem?_append_right (Nat.le_refl _)] at h
    simp at h
    exact .inr ⟨rfl, h.symm⟩

theorem addN_le (G : Gr) (a b : Int) : Le G (addN G a b) := ⟨rfl, rfl, ⟨_, rfl⟩, ⟨[], by simp [addN]⟩⟩
theorem addN_len (G : Gr) (a b : Int) : (addN G a b).nodes.length = G.nodes.length + 1 := by simp [addN]
theorem inputG_le (G : Gr) : Le G (inputG G) := ⟨rfl, rfl, ⟨_, rfl⟩, ⟨_, rfl⟩⟩
theorem inputG_len (G : Gr) : (inputG G).nodes.length = G.nodes.length + 1 := by simp [inputG]
theorem Wf.pos {G : Gr} (h : Wf G) : 0 < G.nodes.length := (List.getElem?_eq_some_iff.1 h.zero).1

theorem Wf_new (F H : Bool) : Wf (newG F H) := by
  have e : ∀ i n, (newG F H).nodes[i]? = some n → i = 0 ∧ n = ⟨false, 0, 0⟩ := by
    intro i n h
    match i with
    | 0 => simp [newG] at h; exact ⟨rfl, h.symm⟩
    | i + 1 => simp [newG] at h
  refine ⟨rfl, ?_, ?_, ?_, ?_, ?_, rfl⟩
  · intro i n h g; obtain ⟨-, rfl⟩ := e i n h; cases g
  · intro i n h g; obtain ⟨-, rfl⟩ := e i n h; exact ⟨rfl, rfl⟩
  · intro k v h; simp [newG] at h
  · intro j k x y _ h; simp [newG] at h
  · intro i n h0 h; obtain ⟨rfl, -⟩ := e i n h; omega

theorem Wf_addN {G : Gr} (h : Wf G) {a b : Int} (ha : There G a) (hb : There G b) (hba : b ≤ a) : Wf (addN G a b) := by
  refine ⟨(addN_le G a b).node h.zero, ?_, ?_, ?_, ?_, ?_, ?_⟩
  · intro i n hn g
    rcases get_push hn with hn | ⟨rfl, rfl⟩
    · exact h.gates i n hn g
    · exact ⟨ha.1, hb.1, hba, ha.2⟩
  · intro i n hn g
    rcases get_push hn with hn | ⟨rfl, rfl⟩
    · exact h.plain i n hn g
    · cases g
  · intro k v hk
    obtain ⟨i, e, h0, n, hn, g⟩ := h.ins k v hk
    exact ⟨i, e, h0, n, (addN_le G a b).node hn, g⟩
  · exact h.rise
  · intro i n h0 hn g
    rcases get_push hn with hn | ⟨rfl, rfl⟩
    · exact h.all i n h0 hn g
    · cases g
  · have := h.cnt
    simp [addN]; omega

theorem Wf_inputG {G : Gr} (h : Wf G) : Wf (inputG G) := by
  refine ⟨(inputG_le G).node h.zero, ?_, ?_, ?_, ?_, ?_, ?_⟩
  · intro i n hn g
    rcases get_push hn with hn | ⟨rfl, rfl⟩
    · exact h.gates i n hn g
    · cases g
  · intro i n hn g
    rcases get_push hn with hn | ⟨rfl, rfl⟩
    · exact h.plain i n hn g
    · exact ⟨rfl, rfl⟩
  · intro k v hk
    rcases get_push hk with hk | ⟨rfl, rfl⟩
    · obtain ⟨i, e, h0, n, hn, g⟩ := h.ins k v hk
      exact ⟨i, e, h0, n, (inputG_le G).node hn, g⟩
    · exact ⟨G.nodes.length, rfl, h.pos, ⟨false, 0, 0⟩, by simp [inputG], rfl⟩
  · intro j k x y hjk hx hy
    rcases get_push hy with hy | ⟨rfl, rfl⟩
    · rcases get_push hx with hx | ⟨rfl, rfl⟩
      · exact h.rise j k x y hjk hx hy
      · have := (List.getElem?_eq_some_iff.1 hy).1; omega
    · rcases get_push hx with hx | ⟨rfl, rfl⟩
      · obtain ⟨i, rfl, _, n, hn, _⟩ := h.ins j x hx
        have := (List.getElem?_eq_some_iff.1 hn).1; omega
      · omega
  · intro i n h0 hn g
    rcases get_push hn with hn | ⟨rfl, rfl⟩
    · obtain ⟨k, hk⟩ := h.all i n h0 hn g
      exact ⟨k, (inputG_le G).input hk⟩
    · exact ⟨G.inputs.length, by simp [inputG]⟩
  · have := h.cnt
    simp [inputG]; omega

/-- What was found is there. -/
theorem findG_some {ns : List Nd} {a b : Int} {i : Nat} (h : findG ns a b = some i) : ∃ n, ns[i]? = some n ∧ n.gate = true ∧ n.a = a ∧ n.b = b := by
  unfold findG at h
  obtain ⟨hi, hp, _⟩ := List.findIdx?_eq_some_iff_getElem.1 h
  refine ⟨ns[i], by simp [hi], ?_⟩
  unfold isPair at hp
  simpa using hp
theorem findG_push (ns : List Nd) (n : Nd) (a b : Int) : findG (ns ++ [n]) a b = (findG ns a b).or (if isPair a b n then some ns.length else none) := by
  unfold findG
  rw [List.findIdx?_append]
  cases h : isPair a b n <;> simp [List.findIdx?_cons, h]

/-- What the calls leave. -/
structure Grows (G G' : Gr) (l : Int) (k : Nat) : Prop where
  wf : Wf G'
  le : Le G G'
  there : There G' l
  len : G'.nodes.length ≤ G.nodes.length + k
  ins : G'.inputs = G.inputs

theorem gateG_good {G : Gr} (h : Wf G) {a b : Int} (ha : There G a) (hb : There G b) (hl : G.nodes.length ≤ 10000000) : Grows G (gateG G a b).1 (gateG G a b).2 1 :=
  ⟨Wf_addN h (ha.hi hb) (ha.lo hb) (lo_hi a b), addN_le _ _ _, ⟨⟨by simp only [gateG]; omega, by simp only [gateG]; omega⟩, by rw [show (gateG G a b).1.nodes.length = G.nodes.length + 1 from addN_len _ _ _]; simp only [gateG]; omega⟩, by rw [show (gateG G a b).1.nodes.length = G.nodes.length + 1 from addN_len _ _ _]; omega, rfl⟩
theorem andG_good {G : Gr} (h : Wf G) {a b : Int} (ha : There G a) (hb : There G b) (hl : G.nodes.length ≤ 10000000) : Grows G (andG G a b).1 (andG G a b).2 1 := by
  unfold andG
  split
  · refine ⟨h, Le.refl _, ⟨foldV_lit ha.1 hb.1, ?_⟩, by simp, rfl⟩
    have h0 := h.pos
    have h1 := ha.2
    have h2 := hb.2
    show foldV a b / 2 < (G.nodes.length : Int)
    unfold foldV
    split
    · omega
    · split
      · exact h2
      · split
        · exact h1
        · omega
  · split
    · rename_i i hi
      unfold seenG at hi
      split at hi
      · obtain ⟨n, hn, g, _⟩ := findG_some hi
        have := (List.getElem?_eq_some_iff.1 hn).1
        exact ⟨h, Le.refl _, ⟨⟨by simp only; omega, by simp only; omega⟩, by simp only; omega⟩, by simp, rfl⟩
      · cases hi
    · exact gateG_good h ha hb hl

/-- The words of a graph: what Eval says. -/
structure Val (G : Gr) (ins ws : List Int) : Prop where
  words : Words ws
  len : G.nodes.length ≤ ws.length
  zero : ws.getD 0 0 = 0
  gate : ∀ (i : Nat) (n : Nd), G.nodes[i]? = some n → n.gate = true → ws.getD i 0 = bits .and .u64 (wordV n.a ws) (wordV n.b ws)
  inp : ∀ (k i : Nat), G.inputs[k]? = some (i : Int) → ws.getD i 0 = ins.getD k 0

theorem Val.mono {G G' : Gr} {ins ws : List Int} (h : Le G G') (v : Val G' ins ws) : Val G ins ws :=
  ⟨v.words, Nat.le_trans h.len v.len, v.zero, fun i n hn => v.gate i n (h.node hn), fun k i hk => v.inp k i (h.input hk)⟩

theorem Val.node {G : Gr} {ins ws : List Int} (v : Val G ins ws) {i : Nat} (h0 : 0 < i) (hi : i < G.nodes.length) : wordV (2 * (i : Int)) ws = ws.getD i 0 := by
  have hl := v.len
  unfold wordV turnV nodeW
  rw [show (2 * (i : Int)) % 2 = 0 by omega, show (2 * (i : Int)) / 2 = i by omega]
  simp
  omega

theorem and_swap {G : Gr} {ins ws : List Int} (v : Val G ins ws) (a b : Int) : bits .and .u64 (wordV (hiV a b) ws) (wordV (loV a b) ws) = bits .and .u64 (wordV a ws) (wordV b ws) := by
  have ba := wordV_bd v.words a
  have bb := wordV_bd v.words b
  rcases hiV_or a b with ⟨h1, h2⟩ | ⟨h1, h2⟩
  · rw [h1, h2]
  · rw [h1, h2, and_comm64 bb.1 bb.2 ba.1 ba.2]

theorem gateG_word {G G' : Gr} {ins ws : List Int} (h : Wf G) (a b : Int) (hL : Le (gateG G a b).1 G') (v : Val G' ins ws) : wordV (gateG G a b).2 ws = bits .and .u64 (wordV a ws) (wordV b ws) := by
  have v' := v.mono hL
  have e := v'.gate G.nodes.length ⟨true, hiV a b, loV a b⟩ (by simp [gateG, addN]) rfl
  show wordV (2 * (G.nodes.length : Int)) ws = _
  rw [v'.node h.pos (by rw [show (gateG G a b).1.nodes.length = G.nodes.length + 1 from addN_len _ _ _]; omega), e]
  exact and_swap v a b

theorem andG_word {G G' : Gr} {ins ws : List Int} (h : Wf G) (a b : Int) (hL : Le (andG G a b).1 G') (v : Val G' ins ws) : wordV (andG G a b).2 ws = bits .and .u64 (wordV a ws) (wordV b ws) := by
  unfold andG at hL ⊢
  split
  · rename_i hf
    simp at hf
    exact foldV_word v.words hf.2
  · rename_i hf
    rw [if_neg hf] at hL
    cases hs : seenG G a b with
    | some i =>
      rw [hs] at hL
      have v' := v.mono hL
      unfold seenG at hs
      split at hs
      · obtain ⟨n, hn, g, ea, eb⟩ := findG_some hs
        have e := v'.gate i n hn g
        have hi := (List.getElem?_eq_some_iff.1 hn).1
        have h0 : 0 < i := by
          rcases Nat.eq_zero_or_pos i with e0 | e0
          · subst e0; rw [h.zero] at hn; simp at hn; subst hn; cases g
          · exact e0
        show wordV (2 * (i : Int)) ws = _
        rw [v'.node h0 hi, e, ea, eb]
        exact and_swap v a b
      · cases hs
    | none =>
      rw [hs] at hL
      exact gateG_word h a b hL v

/-- Words agree as far as the graph goes. -/
theorem Val.same {G : Gr} {ins ins' ws ws' : List Int} (h : Wf G) (v : Val G ins ws) (v' : Val G ins' ws') (hin : ∀ k, k < G.inputs.length → ins.getD k 0 = ins'.getD k 0) :
    ∀ i, i < G.nodes.length → ws.getD i 0 = ws'.getD i 0 := by
  intro i
  induction i using Nat.strongRecOn with
  | ind i ih =>
    intro hi
    have hl := v.len
    have hl' := v'.len
    have hn : G.nodes[i]? = some G.nodes[i] := by simp [hi]
    have lits : ∀ l : Int, IsLit l → l / 2 < i → wordV l ws = wordV l ws' := by
      intro l hl0 hl1
      unfold IsLit at hl0
      have e : nodeW (l / 2) ws = nodeW (l / 2) ws' := by
        unfold nodeW
        by_cases h0 : 0 < l / 2
        · have := ih (l / 2).toNat (by omega) (by omega)
          rw [if_pos (by simp; omega), if_pos (by simp; omega), this]
        · rw [if_neg (by simp; omega), if_neg (by simp; omega)]
      unfold wordV; rw [e]
    cases g : G.nodes[i].gate with
    | true =>
      obtain ⟨ha, hb, hba, hai⟩ := h.gates i _ hn g
      rw [v.gate i _ hn g, v'.gate i _ hn g, lits _ ha hai, lits _ hb (by omega)]
    | false =>
      by_cases h0 : i = 0
      · subst h0; rw [v.zero, v'.zero]
      · obtain ⟨k, hk⟩ := h.all i _ (by omega) hn g
        rw [v.inp k i hk, v'.inp k i hk]
        exact hin k (List.getElem?_eq_some_iff.1 hk).1
end Go.Proofs.YtafoohdndlhbnaaGreat
end
