/-
  Plain functions for package word, and what they come to.
-/
import Derived.Test.YtnhpjacodhdpeaaDoorProg
import Derived.WalkKit
namespace Go.Proofs.YtnhpjacodhdpeaaDoor
open Go.RowKit

/-- Whether a type may be. -/
def may (B S : Bool) (W : Int) : Bool := if B then (!S && W == 1) else (decide (1 ≤ W) && decide (W ≤ 64))

theorem may_bounds {B S : Bool} {W : Int} (h : may B S W = true) : 1 ≤ W ∧ W ≤ 64 := by
  unfold may at h; cases B <;> simp at h <;> omega

def cut (B S : Bool) (W n : Int) : Int := if may B S W then n % 2 ^ W.toNat else 0
def isw (B S : Bool) (W n : Int) : Bool := may B S W && cut B S W n == n
/-- A word's value. -/
def sval (S : Bool) (W a : Int) : Int := if S && decide (2 ^ (W.toNat - 1) ≤ a) then a - 2 ^ W.toNat else a

theorem u64w (x : Int) : IntKind.u64.wrap x = x % 2 ^ 64 := by
  simp [IntKind.wrap, IntKind.bits, IntKind.signed]

theorem pow_split (k : Nat) (h : k ≤ 64) : (2 : Int) ^ 64 = 2 ^ k * 2 ^ (64 - k) := by
  rw [← Int.pow_add]; congr 1; omega

theorem shl_shr (n W : Int) (h : 1 ≤ W ∧ W ≤ 64) : IntKind.u64.wrap (n * 2 ^ (64 - W).toNat) / 2 ^ (64 - W).toNat = n % 2 ^ W.toNat := by
  obtain ⟨k, rfl⟩ := Int.eq_ofNat_of_zero_le (show 0 ≤ W by omega)
  have e1 : (64 - (k : Int)).toNat = 64 - k := by omega
  have hp : (0 : Int) < 2 ^ (64 - k) := Int.pow_pos (by decide)
  rw [e1, Int.toNat_natCast, u64w, pow_split k (by omega), Int.mul_comm n, Int.mul_comm ((2 : Int) ^ k), Int.mul_emod_mul_of_pos _ _ hp, Int.mul_ediv_cancel_left _ (Int.ne_of_gt hp)]

theorem i64w (x : Int) : IntKind.i64.wrap x = (x + 2 ^ 63) % 2 ^ 64 - 2 ^ 63 := IntKind.wrap_i64 x

theorem isw_may {B S : Bool} {W n : Int} (h : isw B S W n = true) : may B S W = true := by
  unfold isw at h; simp at h; exact h.1

theorem isw_bd {B S : Bool} {W n : Int} (h : isw B S W n = true) : 1 ≤ W ∧ W ≤ 64 ∧ 0 ≤ n ∧ n < 2 ^ W.toNat := by
  have hm := isw_may h
  have hb := may_bounds hm
  unfold isw at h; simp [hm, cut] at h
  have hp : (0 : Int) < 2 ^ W.toNat := Int.pow_pos (by decide)
  have h1 := Int.emod_nonneg n (Int.ne_of_gt hp)
  have h2 := Int.emod_lt_of_pos n hp
  exact ⟨hb.1, hb.2, by omega, by omega⟩

theorem isw_mk {B S : Bool} {W n : Int} (hm : may B S W = true) (h0 : 0 ≤ n) (h1 : n < 2 ^ W.toNat) : isw B S W n = true := by
  unfold isw cut; simp [hm]; exact Int.emod_eq_of_lt h0 h1

theorem cut_isw {B S : Bool} {W n : Int} (hm : may B S W = true) : isw B S W (cut B S W n) = true := by
  have hp : (0 : Int) < 2 ^ W.toNat := Int.pow_pos (by decide)
  refine isw_mk hm ?_ ?_
  · unfold cut; rw [if_pos hm]; exact Int.emod_nonneg n (Int.ne_of_gt hp)
  · unfold cut; rw [if_pos hm]; exact Int.emod_lt_of_pos n hp

theorem pow_le64 (k : Nat) (h : k ≤ 64) : (2 : Int) ^ k ≤ 2 ^ 64 := by
  exact_mod_cast Nat.pow_le_pow_right (show 0 < 2 by decide) h

theorem isw_le {B S : Bool} {W n : Int} (h : isw B S W n = true) : 0 ≤ n ∧ n ≤ 18446744073709551615 := by
  obtain ⟨h1, h2, h3, h4⟩ := isw_bd h
  have := pow_le64 W.toNat (by omega)
  omega

theorem two_pow_pred (k : Nat) (h : 1 ≤ k) : (2 : Int) ^ k = 2 * 2 ^ (k - 1) := by
  obtain ⟨j, rfl⟩ : ∃ j, k = j + 1 := ⟨k - 1, by omega⟩
  rw [Int.pow_succ, Nat.add_sub_cancel, Int.mul_comm]

theorem sval_bd {B S : Bool} {W a : Int} (h : isw B S W a = true) (hS : S = true) : -(2 ^ (W.toNat - 1)) ≤ sval S W a ∧ sval S W a < 2 ^ (W.toNat - 1) := by
  obtain ⟨h1, h2, h3, h4⟩ := isw_bd h
  have e := two_pow_pred W.toNat (by omega)
  unfold sval
  by_cases hc : 2 ^ (W.toNat - 1) ≤ a
  · rw [if_pos (by simp [hS, hc])]; omega
  · rw [if_neg (by simp [hS, hc])]; omega

theorem sval_i64 {B S : Bool} {W a : Int} (h : isw B S W a = true) (hS : S = true) : -9223372036854775808 ≤ sval S W a ∧ sval S W a ≤ 9223372036854775807 := by
  have := sval_bd h hS
  have hw := isw_bd h
  have h2 : (2 : Int) ^ (W.toNat - 1) ≤ 2 ^ 63 := by exact_mod_cast Nat.pow_le_pow_right (show 0 < 2 by decide) (show W.toNat - 1 ≤ 63 by omega)
  omega

/-- The word's value in 64 bits, as the code makes it. -/
theorem wide_raw {B S : Bool} {W a : Int} (h : isw B S W a = true) (hS : S = true) :
    IntKind.i64.wrap (IntKind.u64.wrap (a * 2 ^ (64 - W).toNat)) / 2 ^ (64 - W).toNat = sval S W a := by
  obtain ⟨h1, h2, h3, h4⟩ := isw_bd h
  obtain ⟨k, rfl⟩ := Int.eq_ofNat_of_zero_le (show 0 ≤ W by omega)
  have e1 : (64 - (k : Int)).toNat = 64 - k := by omega
  rw [Int.toNat_natCast] at h4
  have hp : (0 : Int) < 2 ^ (64 - k) := Int.pow_pos (by decide)
  have es := pow_split k (by omega)
  have ek := two_pow_pred k (by omega)
  have l1 : a * 2 ^ (64 - k) < 2 ^ 64 := by rw [es]; exact Int.mul_lt_mul_of_pos_right h4 hp
  have l0 : 0 ≤ a * 2 ^ (64 - k) := Int.mul_nonneg h3 (Int.le_of_lt hp)
  rw [e1, u64w, Int.emod_eq_of_lt l0 l1, i64w]
  unfold sval
  rw [Int.toNat_natCast]
  have e63 : (2 : Int) ^ 63 = 2 ^ (k - 1) * 2 ^ (64 - k) := by rw [← Int.pow_add]; congr 1; omega
  by_cases hc : 2 ^ (k - 1) ≤ a
  · rw [if_pos (by simp [hS, hc])]
    have l2 : 2 ^ 63 ≤ a * 2 ^ (64 - k) := by rw [e63]; exact Int.mul_le_mul_of_nonneg_right hc (Int.le_of_lt hp)
    have e2 : (a * 2 ^ (64 - k) + 2 ^ 63) % 2 ^ 64 - 2 ^ 63 = (a - 2 ^ k) * 2 ^ (64 - k) := by rw [Int.sub_mul, ← es]; omega
    rw [e2, Int.mul_ediv_cancel _ (Int.ne_of_gt hp)]
  · rw [if_neg (by simp [hS, hc])]
    have l2 : a * 2 ^ (64 - k) < 2 ^ 63 := by rw [e63]; exact Int.mul_lt_mul_of_pos_right (by omega) hp
    have e2 : (a * 2 ^ (64 - k) + 2 ^ 63) % 2 ^ 64 - 2 ^ 63 = a * 2 ^ (64 - k) := by omega
    rw [e2, Int.mul_ediv_cancel _ (Int.ne_of_gt hp)]

/-- The word's value modulo 2^64. -/
def wide (S : Bool) (W a : Int) : Int := if S then IntKind.u64.wrap (sval S W a) else a

theorem wide_i64 {B S : Bool} {W a : Int} (h : isw B S W a = true) (hS : S = true) : IntKind.i64.wrap (wide S W a) = sval S W a := by
  have hb := sval_i64 h hS
  unfold wide; rw [if_pos hS, u64w, i64w]; omega

def valOk (B S : Bool) (W a : Int) : Bool := isw B S W a && (S || decide (a ≤ 9223372036854775807))
def valV (B S : Bool) (W a : Int) : Int := if valOk B S W a then sval S W a else 0

def comb (op a b : Int) : Int :=
  if op == 1 then bits .and .u64 a b else if op == 2 then bits .or .u64 a b else if op == 3 then bits .xor .u64 a b
  else if op == 4 then IntKind.u64.wrap (a + b) else if op == 5 then IntKind.u64.wrap (a - b) else if op == 6 then IntKind.u64.wrap (a * b) else 0
def mayTwo (op : Int) (B : Bool) : Bool :=
  if op == 1 || op == 2 || op == 3 || op == 7 || op == 8 then true
  else if op == 4 || op == 5 || op == 6 || op == 9 || op == 10 || op == 11 || op == 12 then !B else false
def lessB (S : Bool) (W a b : Int) : Bool := decide (sval S W a < sval S W b)
def cmpB (op : Int) (S : Bool) (W a b : Int) : Bool :=
  if op == 7 then a == b else if op == 8 then a != b else if op == 9 then lessB S W a b else if op == 10 then !lessB S W b a
  else if op == 11 then lessB S W b a else if op == 12 then !lessB S W a b else false
def bit (b : Bool) : Int := if b then 1 else 0
def twoOk (op : Int) (B S : Bool) (W a b : Int) : Bool := mayTwo op B && isw B S W a && isw B S W b
def twoE (op : Int) (B S : Bool) (W a b : Int) : Int := if twoOk op B S W a b then 0 else 1
def twoV (op : Int) (B S : Bool) (W a b : Int) : Int :=
  if twoOk op B S W a b then (if 7 ≤ op then bit (cmpB op S W a b) else cut B S W (comb op a b)) else 0
def oneOk (op : Int) (B S : Bool) (W a : Int) : Bool := isw B S W a && (op == 1 || (op == 2 && !B))
def oneE (op : Int) (B S : Bool) (W a : Int) : Int := if oneOk op B S W a then 0 else 1
def oneV (op : Int) (B S : Bool) (W a : Int) : Int :=
  if oneOk op B S W a then (if op == 1 then cut B S W (bits .xor .u64 IntKind.u64.max a) else cut B S W (IntKind.u64.wrap (-a))) else 0
def shOk (B S : Bool) (W a k : Int) : Bool := !B && isw B S W a && decide (-63 ≤ k) && decide (k ≤ 63)
def shE (B S : Bool) (W a k : Int) : Int := if shOk B S W a k then 0 else 1
def shV (B S : Bool) (W a k : Int) : Int :=
  if shOk B S W a k then (if 0 ≤ k then cut B S W (IntKind.u64.wrap (a * 2 ^ k.toNat)) else if S then cut B S W (IntKind.u64.wrap (sval S W a / 2 ^ (-k).toNat)) else a / 2 ^ (-k).toNat) else 0
def coOk (B S : Bool) (W : Int) (B' S' : Bool) (W' a : Int) : Bool := isw B S W a && may B' S' W' && (!B' || B)
def coE (B S : Bool) (W : Int) (B' S' : Bool) (W' a : Int) : Int := if coOk B S W B' S' W' a then 0 else 1
def coV (B S : Bool) (W : Int) (B' S' : Bool) (W' a : Int) : Int := if coOk B S W B' S' W' a then cut B' S' W' (wide S W a) else 0
def neutOk (op : Int) : Bool := op == 1 || op == 2 || op == 3 || op == 4 || op == 6
def neutV (op : Int) (B S : Bool) (W : Int) : Int := if op == 1 then cut B S W 18446744073709551615 else if op == 2 || op == 3 || op == 4 then 0 else if op == 6 then 1 else 0

def allStep (op : Int) (B S : Bool) (W : Int) (st : Int × Int) (x : Int) : Int × Int := if st.2 == 0 then (twoV op B S W st.1 x, twoE op B S W st.1 x) else st
def allR (op : Int) (B S : Bool) (W : Int) (l : List Int) : Int × Int := l.foldl (allStep op B S W) (twoV op B S W (neutV op B S W) (neutV op B S W), twoE op B S W (neutV op B S W) (neutV op B S W))

theorem allR_nil (op : Int) (B S : Bool) (W : Int) : allR op B S W [] = (twoV op B S W (neutV op B S W) (neutV op B S W), twoE op B S W (neutV op B S W) (neutV op B S W)) := rfl
theorem allR_snoc (op : Int) (B S : Bool) (W : Int) (l : List Int) (k : Nat) (h : k < l.length) : allR op B S W (l.take (k + 1)) = allStep op B S W (allR op B S W (l.take k)) (l.getD k 0) := by
  unfold allR
  rw [List.take_succ_eq_append_getElem h, List.foldl_append]
  simp [List.getD, h]
theorem allR_stay (op : Int) (B S : Bool) (W : Int) (l : List Int) (k : Nat) (h : ((allR op B S W (l.take k)).2 == 0) = false) : allR op B S W l = allR op B S W (l.take k) := by
  have key : ∀ (r : List Int) (st : Int × Int), (st.2 == 0) = false → r.foldl (allStep op B S W) st = st := by
    intro r
    induction r with
    | nil => intro st _; rfl
    | cons x r ih => intro st hst; rw [List.foldl_cons]; rw [show allStep op B S W st x = st by unfold allStep; rw [hst]; rfl]; exact ih st hst
  have e := List.take_append_drop k l
  conv => lhs; rw [← e]
  show List.foldl _ _ (l.take k ++ l.drop k) = _
  rw [List.foldl_append]
  exact key _ _ h

end Go.Proofs.YtnhpjacodhdpeaaDoor
