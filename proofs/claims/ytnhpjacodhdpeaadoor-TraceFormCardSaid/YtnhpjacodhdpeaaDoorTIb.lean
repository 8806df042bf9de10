/-
  What came in: bytes.
-/
import Derived.Test.YtnhpjacodhdpeaaDoorTIn
import Derived.Test.YtnhpjacodhdpeaaDoorTrH
namespace Go.Proofs.YtnhpjacodhdpeaaDoor
open Go.RowKit Go.ChangeShapes Go.WideShapes Go.ChangeAt Go.Joins
set_option maxRecDepth 100000
section
variable {H : Type} {enc : TypeId × Value → H} {w : World} {base : Nat} {held : Bool}
theorem bytes_in {a : Option Addr} {n c : Nat} {d : DataW H} {p : List MemPlace} (h : DataW.Trod enc Tryd.prog w base (fun _ => true) held 31 (.slice a n c) d p) : n ≤ c ∧ c ≤ 9223372036854775807 ∧ ∃ l, BR w a n l := by
  obtain ⟨fuel, hf⟩ := h
  obtain ⟨a', n', c', zs, e, q1, q2, q3, q4⟩ := slice2_in Tryd.underlying31 Tryd.underlying5 (by kernel_rfl) hf
  cases e
  refine ⟨q1, q2, zs.map (fun z => UInt8.ofNat z.toNat), by rw [List.length_map]; exact q3.1, q3.2.1, ?_⟩
  rcases q3.2.2 with h0 | ⟨b, off, rfl, hb, hc⟩
  · exact .inl h0
  · refine .inr ⟨b, off, rfl, hb, fun i hi => ?_⟩
    rw [hc i hi]
    have hil : i < zs.length := by have := q3.1; omega
    have hz := q4 _ (List.getElem_mem hil)
    simp [Go.Lit.wf, IntKind.min, IntKind.max, IntKind.signed, IntKind.bits] at hz
    have e1 : zs.getD i 0 = zs[i] := by simp [List.getD, hil]
    have e2 : (zs.map (fun z => UInt8.ofNat z.toNat)).getD i 0 = UInt8.ofNat zs[i].toNat := by simp [List.getD, hil]
    rw [e1, e2]
    have e3 : ((UInt8.ofNat zs[i].toNat).toNat : Int) = zs[i] := by
      rw [UInt8.toNat_ofNat']
      omega
    rw [e3]
end
end Go.Proofs.YtnhpjacodhdpeaaDoor
