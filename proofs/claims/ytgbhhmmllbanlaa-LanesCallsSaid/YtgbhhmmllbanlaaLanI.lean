/-
  What comes in, as the walks of this layer name it: squares, rows of words.
-/
import Derived.Test.YtgbhhmmllbanlaaLift
import Derived.Test.YtgbhhmmllbanlaaLanM
namespace Go.Proofs.Ytgbhhmmllbanlaa
open Go.RowKit Go.ChangeShapes Go.WideShapes Go.ChangeAt Go.Joins

theorem nat_of_u64 {zs : List Int} (h : ∀ n ∈ zs, (Lit.int .u64 n).wf = true) (i : Nat) : (zs.getD i 0).toNat < 18446744073709551616 ∧ zs.getD i 0 = ((zs.getD i 0).toNat : Nat) := by
  by_cases hi : i < zs.length
  · have e : zs.getD i 0 = zs[i] := by simp [List.getD, hi]
    have := bounds_u64 (h _ (List.getElem_mem hi))
    rw [e]; omega
  · have e : zs.getD i 0 = 0 := by rw [List.getD_eq_getElem?_getD, List.getElem?_eq_none (by omega)]; rfl
    rw [e]; simp
/-- A square that comes in. -/
theorem sq_in {zs : List Int} (hl : zs.length = 64) (hw : ∀ z ∈ zs, (Lit.int .u64 z).wf = true) : ∃ f : Nat → Nat, (∀ i, f i < 18446744073709551616) ∧ (zs.map (Value.int .u64)).toArray = sqA f := by
  refine ⟨fun i => (zs.getD i 0).toNat, fun i => (nat_of_u64 hw i).1, ?_⟩
  apply Array.ext_getElem?
  intro i
  by_cases hi : i < 64
  · have hi' : i < zs.length := by omega
    rw [sqA_get _ _ hi, ← (nat_of_u64 hw i).2]
    simp [List.getD, hi']
  · simp [sqA, hi, hl]
/-- A row of words that comes in. -/
theorem wrow_in {w : World} {a : Option Addr} {len cap : Nat} {zs : List Int} (h : IsRow .u64 w a len cap zs) : ∃ f : Nat → Nat, (∀ i, f i < 18446744073709551616) ∧ WRow w a len f ∧ len ≤ cap ∧ cap ≤ 9223372036854775807 := by
  rcases h with ⟨rfl, rfl, rfl, rfl⟩ | ⟨x, rfl, hlc, hcap, hzl, hcell, hwf⟩
  · exact ⟨fun _ => 0, fun _ => Nat.zero_lt_succ _, WRow.nil _ _ _, by omega, by omega⟩
  · unfold maxLen at hcap
    refine ⟨fun i => (zs.getD i 0).toNat, fun i => (nat_of_u64 hwf i).1, ⟨by omega, ?_⟩, hlc, by omega⟩
    by_cases h0 : len = 0
    · exact .inl h0
    · right
      obtain ⟨b, off, rfl, hc⟩ := ints_at hcell (by omega)
      refine ⟨b, off, rfl, World.block_lt_of_cell? w ⟨b, off + 0, none⟩ (hc 0 (by omega)), fun i hi => ?_⟩
      rw [hc i (by omega), (nat_of_u64 hwf i).2]
theorem nat_of_u8 {z : Int} (h : (Lit.int .u8 z).wf = true) : ∃ p : Nat, p < 256 ∧ z = p := by
  have := bounds_u8 h
  exact ⟨z.toNat, by omega, by omega⟩
theorem nat_of_w64 {z : Int} (h : (Lit.int .u64 z).wf = true) : ∃ p : Nat, p < 18446744073709551616 ∧ z = p := by
  have := bounds_u64 h
  exact ⟨z.toNat, by omega, by omega⟩

theorem ask5_in {H : Type} {enc : TypeId × Value → H} {w : World} {base : Nat} {spare : Nat → Bool} {held : Bool} {r : Reach} {b0 : Nat} {v : Value} {d : DataW H} {p : List MemPlace} (hv : Value.okWide Try.prog w r b0 29 v) (h : DataW.Trod enc Try.prog w base spare held 29 v d p) :
    ∃ (a b c : Int), v = .agg #[.int .i64 a, .int .i64 b, .int .u64 c] ∧ (Lit.int .i64 a).wf = true ∧ (Lit.int .i64 b).wf = true ∧ (Lit.int .u64 c).wf = true := by
  obtain ⟨c0, c1, c2, y0, y1, y2, n, rfl, -, -, h0, h1, h2⟩ := open_agg3 Try.underlying29 (by kernel_rfl) (by kernel_rfl) hv h
  obtain ⟨a, e0, -, wa⟩ := DataW.trod_int Try.underlying3 h0
  obtain ⟨b, e1, -, wb⟩ := DataW.trod_int Try.underlying3 h1
  obtain ⟨c, e2, -, wc⟩ := DataW.trod_int Try.underlying22 h2
  simp at e0 e1 e2
  exact ⟨a, b, c, by rw [e0, e1, e2], wa, wb, wc⟩
theorem int_bd {z : Int} (h : (Lit.int .i64 z).wf = true) : -9223372036854775808 ≤ z ∧ z ≤ 9223372036854775807 := by
  have h2 : IntKind.i64.min ≤ z ∧ z ≤ 9223372036854775807 := by simpa [Lit.wf] using h
  exact ⟨h2.1, h2.2⟩
end Go.Proofs.Ytgbhhmmllbanlaa
