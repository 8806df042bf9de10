/-
  The walk of LitOnes.
-/
import Derived.Test.YtbpiccbjnagodaaLitG
import Derived.Deep.DeepCutAuto
namespace Go.Proofs.Ytbpiccbjnagodaa
open Go.RowKit Bits

theorem words_take {zs : List Int} (h : Words zs) (m : Nat) : Words (zs.take m) := by
  intro i
  by_cases hi : i < m
  · have : (zs.take m).getD i 0 = zs.getD i 0 := by simp [List.getD, hi]
    rw [this]; exact h i
  · have : (zs.take m).getD i 0 = 0 := by
      rw [List.getD_eq_getElem?_getD, List.getElem?_eq_none (by rw [List.length_take]; omega)]; rfl
    rw [this]; omega

/-- What the walk of LitOnes is told. -/
structure OnesK (a b n : Int) (t : Bool) (p : Option Addr) (m cap : Nat) (zs : List Int) (w : World) : Prop where
  k1 : ∀ w, Calls Try.prog 7 #[.int .i64 n, .bool t] w fun e w' => e = .returned (.tuple #[.int .u32 (ofV n t), .int .i64 (ofE n)]) ∧ w = w'
  k2 : ∀ w, Calls Try.prog 8 #[.int .i64 n, .bool t] w fun e w' => e = .returned (.tuple #[.int .u32 (ofV n t), .int .i64 (ofE n)]) ∧ w = w'
  k3 : ∀ w, Calls Try.prog 9 #[.int .u32 a, .int .u32 b] w fun e w' => e = .returned (.tuple #[.int .u32 (foldV a b), .bool (foldB a b)]) ∧ w = w'
  k4 : ∀ w, Calls Try.prog 10 #[.int .u32 a, .int .u32 b] w fun e w' => e = .returned (.tuple #[.int .u32 (foldV a b), .bool (foldB a b)]) ∧ w = w'
  k5 : ∀ w, Calls Try.prog 12 #[.int .u32 a] w fun e w' => e = .returned (.int .u32 (notV a)) ∧ w = w'
  k6 : ∀ w, Calls Try.prog 13 #[.int .u32 a] w fun e w' => e = .returned (.int .i64 (a / 2)) ∧ w = w'
  k7 : ∀ w, Calls Try.prog 14 #[.int .u32 a] w fun e w' => e = .returned (.bool (turnV a)) ∧ w = w'
  k8 : ∀ w, Calls Try.prog 15 #[.int .u32 a] w fun e w' => e = .returned (.int .u32 (notV a)) ∧ w = w'
  k9 : ∀ w, Calls Try.prog 16 #[.int .u32 a, .bool t] w fun e w' => e = .returned (.int .u32 (ifV a t)) ∧ w = w'
  k10 : Calls Try.prog 17 #[.int .u32 a, .slice p m cap] w fun e w' => e = .returned (.int .u64 (wordV a zs)) ∧ w = w'
  k11 : Calls Try.prog 18 #[.int .u32 a, .slice p m cap] w fun e w' => e = .returned (.int .u64 (wordV a zs)) ∧ w = w'

theorem ones_k (a b n : Int) (t : Bool) (p : Option Addr) (m cap : Nat) (zs : List Int) (w : World) (ha : IsLit a) (hb : IsLit b) (hn : -9223372036854775808 ≤ n ∧ n ≤ 9223372036854775807) (hs : Row .u64 w p m zs) (hz : Words zs) : OnesK a b n t p m cap zs w :=
  ⟨of_any n t hn, rof_any n t hn, fold_any a b ha hb, rfold_any a b ha hb, rnot_any a ha, node_any a ha, turned_any a ha, not_any a ha, if_any a t ha, word_any a p m cap zs ha w hs hz, rword_any a p m cap zs ha w hs hz⟩


theorem ifV_t (a : Int) : ifV a true = notV a := rfl
theorem ifV_f (a : Int) : ifV a false = a := rfl
end Go.Proofs.Ytbpiccbjnagodaa
