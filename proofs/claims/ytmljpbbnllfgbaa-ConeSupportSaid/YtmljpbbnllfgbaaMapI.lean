/-
  Maps of ints to ints whose values are ones.
-/
import Derived.Test.YtmljpbbnllfgbaaAigAt
import Derived.Maps.OwnOps
namespace Go.Proofs.Ytmljpbbnllfgbaa
open Go.RowKit Go.Maps
set_option maxRecDepth 100000

def ikey (k : Nat) : Lit := .int .i64 (Int.ofNat k)
theorem ikey_inj {a b : Nat} (h : ikey a = ikey b) : a = b := by unfold ikey at h; simp at h; omega
theorem ilaw : Keyed Try.prog 3 := int_keyed Try.underlying3
theorem int_wf {k : Nat} (hk : k ≤ 1000000) : (Lit.int .i64 (k : Int)).wf = true := WalkArith.wf_i64 ⟨by omega, by omega⟩
theorem key_int {k : Nat} (hk : k ≤ 1000000) : keyOf Try.prog 3 (.int .i64 (k : Int)) = some (ikey k) := keyOf_int_mk Try.underlying3 (int_wf hk)
theorem zero_int (w : World) : (zeroValue 3).run Try.prog w = .ok (.int .i64 0) w := by kernel_rfl

/-- What the map says: 1 of what is in M, else 0. -/
structure Ones (D : DataW Unit) (M : Nat → Bool) : Prop where
  map : IsMap D
  at_ : ∀ k, D.atKey (ikey k) (.lit (.int .i64 0)) = .lit (.int .i64 (if M k then 1 else 0))
theorem Ones.nil : Ones (.map []) (fun _ => false) := ⟨isMap_empty, fun _ => rfl⟩
theorem Ones.put {D : DataW Unit} {M : Nat → Bool} (h : Ones D M) {k : Nat} (hk : k ≤ 1000000) : Ones (D.put (ikey k) (.lit (.int .i64 1))) (fun j => j == k || M j) := by
  refine ⟨h.map.put _ _, fun j => ?_⟩
  by_cases e : j = k
  · subst e
    rw [atKey_put_same h.map (ilaw.key (key_int hk))]; simp
  · rw [atKey_put_other (fun he => e (ikey_inj he)), h.at_ j]
    simp [e]
/-- Such a map, in a world. -/
def OneMap (w : World) (b n : Nat) (M : Nat → Bool) : Prop := ∃ D, w.ownsMap Try.prog 3 (plainElem Try.prog 3) b n D ∧ Ones D M
theorem OneMap.lt {w : World} {b n : Nat} {M : Nat → Bool} (h : OneMap w b n M) : b < w.heap.size := by obtain ⟨D, ho, -⟩ := h; exact ho.lt
theorem OneMap.block {w w2 : World} {b n : Nat} {M : Nat → Bool} (h : OneMap w b n M) (hb : w2.heap[b]? = w.heap[b]?) : OneMap w2 b n M := by
  obtain ⟨D, ⟨es, cl, h1, r⟩, h2⟩ := h
  exact ⟨D, ⟨es, cl, hb.trans h1, r⟩, h2⟩
theorem OneMap.step {w w2 : World} {b n : Nat} {M : Nat → Bool} (h : OneMap w b n M) (hb : Below w.heap.size w w2) : OneMap w2 b n M := h.block (hb.block _ h.lt)
theorem OneMap.look {w : World} {b n : Nat} {M : Nat → Bool} (h : OneMap w b n M) {k : Nat} (hk : k ≤ 1000000) : (Instr.lookup 55 (.map (some b)) (.int .i64 (k : Int)) false).run Try.prog w = .ok (.int .i64 (if M k then 1 else 0)) w := by
  obtain ⟨D, ho, hD⟩ := h
  obtain ⟨c, hrun, hat, -⟩ := ho.lookup_int ilaw Try.underlying55 Try.underlying3 (zero_int w) (key_int hk)
  rw [hD.at_ k] at hat
  simp at hat
  rw [hrun, ← hat]
theorem OneMap.made (w : World) : OneMap (w.alloc (.map #[] 0)) w.heap.size 0 (fun _ => false) := ⟨.map [], World.ownsMap_made w _ _ _, Ones.nil⟩
end Go.Proofs.Ytmljpbbnllfgbaa
