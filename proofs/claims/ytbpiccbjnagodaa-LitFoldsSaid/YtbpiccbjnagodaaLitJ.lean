/-
  What the walk of LitFolds is told.
-/
import Derived.Test.YtbpiccbjnagodaaLitH
namespace Go.Proofs.Ytbpiccbjnagodaa
open Go.RowKit Bits

def pairP (a b : Int) : Int := if a < b then b else a
def pairQ (a b : Int) : Int := if a < b then a else b
theorem pairP_comm (a b : Int) : pairP a b = pairP b a := by unfold pairP; split <;> split <;> omega
theorem pairQ_comm (a b : Int) : pairQ a b = pairQ b a := by unfold pairQ; split <;> split <;> omega
theorem pair_any (a b : Int) (w : World) :
    Calls Try.prog 11 #[.int .u32 a, .int .u32 b] w fun e w' => e = .returned (.tuple #[.int .u32 (pairP a b), .int .u32 (pairQ a b)]) ∧ w = w' := by
  unfold pairP pairQ
  by_cases h : a < b
  · rw [if_pos h, if_pos h]; exact pair_lt a b h w
  · rw [if_neg h, if_neg h]; exact pair_ge a b (by omega) w
theorem of_back {x : Int} (h0 : 0 ≤ x) (h1 : x < 120) : ofV (x / 2) (turnV x) = x ∧ ofE (x / 2) = 0 := by
  have e : ofBad (x / 2) = false := by unfold ofBad; simp; omega
  unfold ofV ofE turnV
  rw [e]
  by_cases h : x % 2 = 1
  · simp [h]; omega
  · simp [h]; omega

structure FoldsK (x y N W Z V F P Q A : Int) (T B : Bool) (p : Option Addr) (m cap : Nat) (w : World) : Prop where
  k1 : ∀ w, Calls Try.prog 15 #[.int .u32 x] w fun e w' => e = .returned (.int .u32 N) ∧ w = w'
  k2 : ∀ w, Calls Try.prog 15 #[.int .u32 N] w fun e w' => e = .returned (.int .u32 x) ∧ w = w'
  k3 : Calls Try.prog 17 #[.int .u32 N, .slice p m cap] w fun e w' => e = .returned (.int .u64 Z) ∧ w = w'
  k4 : Calls Try.prog 17 #[.int .u32 x, .slice p m cap] w fun e w' => e = .returned (.int .u64 W) ∧ w = w'
  k5 : ∀ w, Calls Try.prog 16 #[.int .u32 x, .bool true] w fun e w' => e = .returned (.int .u32 N) ∧ w = w'
  k6 : ∀ w, Calls Try.prog 16 #[.int .u32 x, .bool false] w fun e w' => e = .returned (.int .u32 x) ∧ w = w'
  k7 : Calls Try.prog 17 #[.int .u32 0, .slice p m cap] w fun e w' => e = .returned (.int .u64 0) ∧ w = w'
  k8 : Calls Try.prog 17 #[.int .u32 1, .slice p m cap] w fun e w' => e = .returned (.int .u64 18446744073709551615) ∧ w = w'
  k9 : ∀ w, Calls Try.prog 9 #[.int .u32 x, .int .u32 y] w fun e w' => e = .returned (.tuple #[.int .u32 F, .bool B]) ∧ w = w'
  k10 : ∀ w, Calls Try.prog 9 #[.int .u32 y, .int .u32 x] w fun e w' => e = .returned (.tuple #[.int .u32 F, .bool B]) ∧ w = w'
  k11 : B = true → Calls Try.prog 17 #[.int .u32 F, .slice p m cap] w fun e w' => e = .returned (.int .u64 A) ∧ w = w'
  k12 : Calls Try.prog 17 #[.int .u32 y, .slice p m cap] w fun e w' => e = .returned (.int .u64 V) ∧ w = w'
  k13 : ∀ w, Calls Try.prog 11 #[.int .u32 x, .int .u32 y] w fun e w' => e = .returned (.tuple #[.int .u32 P, .int .u32 Q]) ∧ w = w'
  k14 : ∀ w, Calls Try.prog 11 #[.int .u32 y, .int .u32 x] w fun e w' => e = .returned (.tuple #[.int .u32 P, .int .u32 Q]) ∧ w = w'
  k15 : ∀ w, Calls Try.prog 13 #[.int .u32 x] w fun e w' => e = .returned (.int .i64 (x / 2)) ∧ w = w'
  k16 : ∀ w, Calls Try.prog 13 #[.int .u32 y] w fun e w' => e = .returned (.int .i64 (y / 2)) ∧ w = w'
  k17 : ∀ w, Calls Try.prog 14 #[.int .u32 x] w fun e w' => e = .returned (.bool T) ∧ w = w'
  k18 : ∀ w, Calls Try.prog 7 #[.int .i64 (x / 2), .bool T] w fun e w' => e = .returned (.tuple #[.int .u32 x, .int .i64 0]) ∧ w = w'

theorem folds_k (x y : Int) (p : Option Addr) (m cap : Nat) (zs : List Int) (w : World) (hx0 : 0 ≤ x) (hx1 : x < 120) (hy0 : 0 ≤ y) (hy1 : y < 120) (hs : Row .u64 w p m zs) (hz : Words zs) :
    FoldsK x y (notV x) (wordV x zs) (18446744073709551615 - wordV x zs) (wordV y zs) (foldV x y) (pairP x y) (pairQ x y) (bits .and .u64 (wordV x zs) (wordV y zs)) (turnV x) (foldB x y) p m cap w := by
  have lx : IsLit x := by unfold IsLit; omega
  have ly : IsLit y := by unfold IsLit; omega
  have ln := notV_lit lx
  have l0 : IsLit 0 := by unfold IsLit; omega
  have l1 : IsLit 1 := by unfold IsLit; omega
  exact {
    k1 := not_any x lx
    k2 := fun w => by have h := not_any (notV x) ln w; rwa [notV_not] at h
    k3 := by have h := word_any (notV x) p m cap zs ln w hs hz; rwa [wordV_not] at h
    k4 := word_any x p m cap zs lx w hs hz
    k5 := if_any x true lx
    k6 := if_any x false lx
    k7 := by have h := word_any 0 p m cap zs l0 w hs hz; rwa [wordV_0] at h
    k8 := by have h := word_any 1 p m cap zs l1 w hs hz; rwa [wordV_1] at h
    k9 := fold_any x y lx ly
    k10 := fun w => by have h := fold_any y x ly lx w; rwa [foldV_comm y x, foldB_comm y x] at h
    k11 := fun hb => by have h := word_any (foldV x y) p m cap zs (foldV_lit lx ly) w hs hz; rwa [foldV_word hz hb] at h
    k12 := word_any y p m cap zs ly w hs hz
    k13 := pair_any x y
    k14 := fun w => by have h := pair_any y x w; rwa [pairP_comm y x, pairQ_comm y x] at h
    k15 := node_any x lx
    k16 := node_any y ly
    k17 := turned_any x lx
    k18 := fun w => by have h := of_any (x / 2) (turnV x) (by omega) w; rwa [(of_back hx0 hx1).1, (of_back hx0 hx1).2] at h }
end Go.Proofs.Ytbpiccbjnagodaa
