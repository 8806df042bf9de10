/-
  maps.Keys, slices.Collect, slices.Values, slices.Sorted, as 'Round' calls them.
-/
import Derived.Test.YtocfchgkfaogdaaShf
import Derived.RangeFuncBox
import Derived.RangeFuncLeaves
import Derived.Shelf.Abstract
import Derived.OwnWalkIn
import Derived.TacticsInMore
import Derived.LoopNIn
import Derived.LoopIn
namespace Go.Proofs.Ytocfchgkfaogdaa
open Go.RowKit Go.Maps Go.Sort Go.Shelf
attribute [local go_sem] Oper.semAt_some
set_option maxRecDepth 100000

theorem keys_call (mb : Option Nat) (w : World) : Calls Try.prog 34 #[.map mb] w fun e w' => e = .returned (.func (.func 45) #[] #[.pointer (some ⟨w.heap.size, 0, none⟩)]) ∧ w' = w.alloc (.cells #[.map mb] 54) :=
  callsIn_wide.1 (AnyZI.keys_in keysA Fence.wide 5 trivial rfl mb w)

theorem collect_keys {w : World} {b : Nat} {ks : List Nat} {f : Nat → Int} (h : LMap w b ks f) (hk : ∀ k ∈ ks, k ≤ 1000000) (hl : ks.length ≤ 1000000) :
    Calls Try.prog 33 #[.func (.func 45) #[] #[.pointer (some ⟨w.heap.size, 0, none⟩)]] (w.alloc (.cells #[.map (some b)] 54)) fun e w' => ∃ (a : Option Addr) (c : Nat) (ss : List Int), e = .returned (.slice a ss.length c) ∧ (∀ x, x ∈ ss ↔ ∃ k ∈ ks, x = (k : Int)) ∧ ss.length ≤ 1000000 ∧ w'.ownsRow w.heap.size 3 1 (.slice a ss.length c) ss.length (ints ss) ∧ Below w.heap.size w w' := by
  obtain ⟨D, ho, hD⟩ := h
  have hlt := ho.lt
  have hsz : Maps.size D = ks.length := hD.size
  have hseq : SeqGives Fence.wide 2 Try.prog 45 #[.pointer (some ⟨w.heap.size, 0, none⟩)] encZ (fun ss => ss.Perm (intKeys D)) (Maps.size D) (w.alloc (.cells #[.map (some b)] 54)) :=
    AnyZI.keys_gives (ρ := keysA_ren) { keysA with } Fence.wide _ trivial rfl (by omega) w.heap.size b ks.length D _ (by simp) (by simp) (by
      obtain ⟨es, clock, hb, Ft, hs, hD⟩ := ho
      exact ⟨es, clock, (Below.heap_alloc _ _ b hlt).trans hb, Ft, hs, hD⟩)
  have hc := AnyZI.collect_in (ρ := sortedA_ren) { sortedA with } Fence.wide 4 trivial trivial rfl (by omega) 45 #[.pointer (some ⟨w.heap.size, 0, none⟩)] trivial (enters_of Try.func45 (by kernel_rfl) rfl) _ _ (by rw [hsz]; unfold maxLen; omega) (by rw [hsz]; omega) _ hseq
  refine (callsIn_wide.1 hc).mono ?_
  rintro e w' ⟨v, ss, rfl, hp, hrow, -, hb⟩
  obtain ⟨a, c, rfl⟩ := own_slice hrow
  have hz := hp.length_eq
  have hsl : (intKeys D).length = ks.length := by
    rw [← hsz]
    obtain ⟨es, rfl, -⟩ := id hD.tidy
    show (es.map fun p => Go.intOf p.1).length = es.length
    simp
  have hba : Below w.heap.size w (w.alloc (.cells #[.map (some b)] 54)) := (Below.refl _ _).alloc (Nat.le_refl _) _
  exact ⟨a, c, ss, rfl, fun x => by rw [hp.mem_iff]; exact mem_intKeys hD hk x, by omega, own_base hrow (by simp), nextw hba hb⟩

theorem values_call (a : Option Addr) (n c : Nat) (w : World) : Calls Try.prog 36 #[.slice a n c] w fun e w' => e = .returned (.func (.func 47) #[] #[.pointer (some ⟨w.heap.size, 0, none⟩)]) ∧ w' = w.alloc (.cells #[.slice a n c] 23) := by
  go_enter Try.func36, Try.ntmps36
  go_wp2
  go_ret
  exact ⟨rfl, rfl⟩

/-- An iterator that reads what lay before: the rounds keep it. -/
def SeqB (F : Fence) (n : Nat) (g : Nat) (lb : Array Value) (S : List Int → Prop) (N : Nat) (w : World) : Prop :=
  ∀ (l : Nat) (J : List Int → World → Prop) (W : World), Below w.heap.size w W → AbidesFrom W.heap.size J → (∀ pre W1, J pre W1 → Below w.heap.size w W1) →
    (∀ pre x W1, J pre W1 → pre.length < N → YieldAt F (n - 1) Try.prog l #[encZ x] W1 fun e W' => e = .returned (.bool true) ∧ J (pre ++ [x]) W' ∧ KeepsWalks W1 W') →
    J [] W →
    CallsIn F n Try.prog g (#[.func (.yield l) #[] #[]] ++ lb) W fun e W' => (∃ v, e = .returned v) ∧ ∃ xs, S xs ∧ J xs W'

set_option maxHeartbeats 4000000 in
theorem values_gives {w : World} {a : Option Addr} {n c Bs : Nat} {l0 : List Int} (h : Row .i64 w a n l0) (hn : n ≤ 1000000) (hBs : w.cell? ⟨Bs, 0, none⟩ = some (.slice a n c)) (hBl : Bs < w.heap.size) (F : Fence) (m : Nat) (hF : F.fn 47) (hro : F.round = none) (hm : 1 ≤ m) :
    SeqB F m 47 #[.pointer (some ⟨Bs, 0, none⟩)] (fun ss => ss = l0) n w := by
  intro l J W hW hJ hJB hY h0
  have hl := h.len
  have hBW := stepc hW hBl hBs
  refine callsIn_of_wp Try.func47 rfl hF ?_ hro
  simp only [Try.ntmps47, List.size_toArray, List.length_cons, List.length_nil, Nat.reduceAdd, Nat.reduceSub, Array.replicate_succ, Array.replicate_zero, List.push_toArray, List.append_toArray, List.nil_append, List.cons_append]
  gi_wp2
  gi_loopw [7] (fun i wr => ∃ k : Nat, k ≤ n ∧ i = .int .i64 k ∧ J (l0.take k) wr) (fun i _ => n - (RowKit.intOf i).toNat)
  case atStart => exact ⟨0, Nat.zero_le _, rfl, by simpa using h0⟩
  case round =>
    obtain ⟨k, hk, rfl, hJs⟩ := hrel
    by_cases hlt : k < n
    · obtain ⟨b, off, rfl, hb, hcell⟩ := h.at (by omega)
      have hkl : k < l0.length := by omega
      have cx := stepc (hJB _ _ hJs) hb (hcell k hlt)
      have e1 : l0.getD k 0 = l0[k] := by simp [List.getD, hkl]
      have hnx : l0.take (k + 1) = l0.take k ++ [l0[k]] := List.take_succ_eq_append_getElem hkl
      rw [e1] at cx
      generalize l0[k] = x at *
      obtain ⟨fn, tmps, assign, body, hy, hR⟩ := hY _ x wr hJs (by rw [List.length_take]; omega)
      have hki : (k : Int) < n := by omega
      have hnx := Lib.hid hnx
      clear hcell e1
      gi_wp2
      refine hR.mono ?_
      rintro e W3 ⟨rfl, hJ3, hk3⟩
      gi_wp2
      go_roundw
      case rel => exact ⟨k + 1, by omega, by go_num, by rw [hnx.out]; exact hJ3⟩
      case measure => simp [RowKit.intOf]; omega
    · obtain rfl : k = n := by omega
      gi_wp2
      go_end0
      exact ⟨⟨_, rfl⟩, l0, rfl, by rw [← hl, List.take_length] at hJs; exact hJs⟩
end Go.Proofs.Ytocfchgkfaogdaa
