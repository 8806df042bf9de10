/-
  Plain functions for package word, and what they come to.
  Walks over package word: May, Cut and Is alone.
  Plain facts on the bits of unsigned numbers, as the walk spells them.
  Plain functions for package lit, and what they come to.
  What came in, as the walks name it: slices of integers.
  Rows of rows that come in.
  Tables plainly: names, buses, what may be; where they lie.
-/
import Derived.Test.YtnhpjacodhdpeaaDoorProg
import Derived.WalkKit
import Derived.Test.YtnhpjacodhdpeaaDoorFEKA
import Derived.Deep.Slices
section
namespace Go.Proofs.YtnhpjacodhdpeaaDoor
open Go.RowKit

/-- Whether a type may be. -/
def may (B S : Bool) (W : Int) : Bool := if B then (!S && W == 1) else (decide (1 ≤ W) && decide (W ≤ 64))

theorem may_bounds {B S : Bool} {W : Int} (h : may B S W = true) : 1 ≤ W ∧ W ≤ 64 := by
  unfold may at h; cases B <;> simp at h <;> omega

def cut (B S : Bool) (W n : Int) : Int := if may B S W then n % 2 ^ W.toNat else 0
def isw (B S : Bool) (W n : Int) : Bool := may B S W && cut B S W n == n
/-- A word's value. -/
def sval (S : Bool) (W a : Int) : Int := if S && decide (2 ^ (W.toNat - 1) ≤ a) then a - 2 ^ W.toNat else a

theorem u64w (x : Int) : IntKind.u64.wrap x = x % 2 ^ 64 := by
  simp [IntKind.wrap, IntKind.bits, IntKind.signed]

theorem pow_split (k : Nat) (h : k ≤ 64) : (2 : Int) ^ 64 = 2 ^ k * 2 ^ (64 - k) := by
  rw [← Int.pow_add]; congr 1; omega

theorem shl_shr (n W : Int) (h : 1 ≤ W ∧ W ≤ 64) : IntKind.u64.wrap (n * 2 ^ (64 - W).toNat) / 2 ^ (64 - W).toNat = n % 2 ^ W.toNat := by
  obtain ⟨k, rfl⟩ := Int.eq_ofNat_of_zero_le (show 0 ≤ W by omega)
  have e1 : (64 - (k : Int)).toNat = 64 - k := by omega
  have hp : (0 : Int) < 2 ^ (64 - k) := Int.pow_pos (by decide)
  rw [e1, Int.toNat_natCast, u64w, pow_split k (by omega), Int.mul_comm n, Int.mul_comm ((2 : Int) ^ k), Int.mul_emod_mul_of_pos _ _ hp, Int.mul_ediv_cancel_left _ (Int.ne_of_gt hp)]

theorem i64w (x : Int) : IntKind.i64.wrap x = (x + 2 ^ 63) % 2 ^ 64 - 2 ^ 63 := IntKind.wrap_i64 x

theorem isw_may {B S : Bool} {W n : Int} (h : isw B S W n = true) : may B S W = true := by
  unfold isw at h; simp at h; exact h.1

theorem isw_bd {B S : Bool} {W n : Int} (h : isw B S W n = true) : 1 ≤ W ∧ W ≤ 64 ∧ 0 ≤ n ∧ n < 2 ^ W.toNat := by
  have hm := isw_may h
  have hb := may_bounds hm
  unfold isw at h; simp [hm, cut] at h
  have hp : (0 : Int) < 2 ^ W.toNat := Int.pow_pos (by decide)
  have h1 := Int.emod_nonneg n (Int.ne_of_gt hp)
  have h2 := Int.emod_lt_of_pos n hp
  exact ⟨hb.1, hb.2, by omega, by omega⟩

theorem isw_mk {B S : Bool} {W n : Int} (hm : may B S W = true) (h0 : 0 ≤ n) (h1 : n < 2 ^ W.toNat) : isw B S W n = true := by
  unfold isw cut; simp [hm]; exact Int.emod_eq_of_lt h0 h1

theorem cut_isw {B S : Bool} {W n : Int} (hm : may B S W = true) : isw B S W (cut B S W n) = true := by
  have hp : (0 : Int) < 2 ^ W.toNat := Int.pow_pos (by decide)
  refine isw_mk hm ?_ ?_
  · unfold cut; rw [if_pos hm]; exact Int.emod_nonneg n (Int.ne_of_gt hp)
  · unfold cut; rw [if_pos hm]; exact Int.emod_lt_of_pos n hp

theorem pow_le64 (k : Nat) (h : k ≤ 64) : (2 : Int) ^ k ≤ 2 ^ 64 := by
  exact_mod_cast Nat.pow_le_pow_right (show 0 < 2 by decide) h

theorem isw_le {B S : Bool} {W n : Int} (h : isw B S W n = true) : 0 ≤ n ∧ n ≤ 18446744073709551615 := by
  obtain ⟨h1, h2, h3, h4⟩ := isw_bd h
  have := pow_le64 W.toNat (by omega)
  omega

theorem two_pow_pred (k : Nat) (h : 1 ≤ k) : (2 : Int) ^ k = 2 * 2 ^ (k - 1) := by
  obtain ⟨j, rfl⟩ : ∃ j, k = j + 1 := ⟨k - 1, by omega⟩
  rw [Int.pow_succ, Nat.add_sub_cancel, Int.mul_comm]

theorem sval_bd {B S : Bool} {W a : Int} (h : isw B S W a = true) (hS : S = true) : -(2 ^ (W.toNat - 1)) ≤ sval S W a ∧ sval S W a < 2 ^ (W.toNat - 1) := by
  obtain ⟨h1, h2, h3, h4⟩ := isw_bd h
  have e := two_pow_pred W.toNat (by omega)
  unfold sval
  by_cases hc : 2 ^ (W.toNat - 1) ≤ a
  · rw [if_pos (by simp [hS, hc])]; omega
  · rw [if_neg (by simp [hS, hc])]; omega

theorem sval_i64 {B S : Bool} {W a : Int} (h : isw B S W a = true) (hS : S = true) : -9223372036854775808 ≤ sval S W a ∧ sval S W a ≤ 9223372036854775807 := by
  have := sval_bd h hS
  have hw := isw_bd h
  have h2 : (2 : Int) ^ (W.toNat - 1) ≤ 2 ^ 63 := by exact_mod_cast Nat.pow_le_pow_right (show 0 < 2 by decide) (show W.toNat - 1 ≤ 63 by omega)
  omega

/-- The word's value in 64 bits, as the code makes it. -/
theorem wide_raw {B S : Bool} {W a : Int} (h : isw B S W a = true) (hS : S = true) :
    IntKind.i64.wrap (IntKind.u64.wrap (a * 2 ^ (64 - W).toNat)) / 2 ^ (64 - W).toNat = sval S W a := by
  obtain ⟨h1, h2, h3, h4⟩ := isw_bd h
  obtain ⟨k, rfl⟩ := Int.eq_ofNat_of_zero_le (show 0 ≤ W by omega)
  have e1 : (64 - (k : Int)).toNat = 64 - k := by omega
  rw [Int.toNat_natCast] at h4
  have hp : (0 : Int) < 2 ^ (64 - k) := Int.pow_pos (by decide)
  have es := pow_split k (by omega)
  have ek := two_pow_pred k (by omega)
  have l1 : a * 2 ^ (64 - k) < 2 ^ 64 := by rw [es]; exact Int.mul_lt_mul_of_pos_right h4 hp
  have l0 : 0 ≤ a * 2 ^ (64 - k) := Int.mul_nonneg h3 (Int.le_of_lt hp)
  rw [e1, u64w, Int.emod_eq_of_lt l0 l1, i64w]
  unfold sval
  rw [Int.toNat_natCast]
  have e63 : (2 : Int) ^ 63 = 2 ^ (k - 1) * 2 ^ (64 - k) := by rw [← Int.pow_add]; congr 1; omega
  by_cases hc : 2 ^ (k - 1) ≤ a
  · rw [if_pos (by simp [hS, hc])]
    have l2 : 2 ^ 63 ≤ a * 2 ^ (64 - k) := by rw [e63]; exact Int.mul_le_mul_of_nonneg_right hc (Int.le_of_lt hp)
    have e2 : (a * 2 ^ (64 - k) + 2 ^ 63) % 2 ^ 64 - 2 ^ 63 = (a - 2 ^ k) * 2 ^ (64 - k) := by rw [Int.sub_mul, ← es]; omega
    rw [e2, Int.mul_ediv_cancel _ (Int.ne_of_gt hp)]
  · rw [if_neg (by simp [hS, hc])]
    have l2 : a * 2 ^ (64 - k) < 2 ^ 63 := by rw [e63]; exact Int.mul_lt_mul_of_pos_right (by omega) hp
    have e2 : (a * 2 ^ (64 - k) + 2 ^ 63) % 2 ^ 64 - 2 ^ 63 = a * 2 ^ (64 - k) := by omega
    rw [e2, Int.mul_ediv_cancel _ (Int.ne_of_gt hp)]

/-- The word's value modulo 2^64. -/
def wideW (S : Bool) (W a : Int) : Int := if S then IntKind.u64.wrap (sval S W a) else a

theorem wide_i64 {B S : Bool} {W a : Int} (h : isw B S W a = true) (hS : S = true) : IntKind.i64.wrap (wideW S W a) = sval S W a := by
  have hb := sval_i64 h hS
  unfold wideW; rw [if_pos hS, u64w, i64w]; omega

def valOk (B S : Bool) (W a : Int) : Bool := isw B S W a && (S || decide (a ≤ 9223372036854775807))
def valV (B S : Bool) (W a : Int) : Int := if valOk B S W a then sval S W a else 0

def comb (op a b : Int) : Int :=
  if op == 1 then bits .and .u64 a b else if op == 2 then bits .or .u64 a b else if op == 3 then bits .xor .u64 a b
  else if op == 4 then IntKind.u64.wrap (a + b) else if op == 5 then IntKind.u64.wrap (a - b) else if op == 6 then IntKind.u64.wrap (a * b) else 0
def mayTwo (op : Int) (B : Bool) : Bool :=
  if op == 1 || op == 2 || op == 3 || op == 7 || op == 8 then true
  else if op == 4 || op == 5 || op == 6 || op == 9 || op == 10 || op == 11 || op == 12 then !B else false
def lessB (S : Bool) (W a b : Int) : Bool := decide (sval S W a < sval S W b)
def cmpB (op : Int) (S : Bool) (W a b : Int) : Bool :=
  if op == 7 then a == b else if op == 8 then a != b else if op == 9 then lessB S W a b else if op == 10 then !lessB S W b a
  else if op == 11 then lessB S W b a else if op == 12 then !lessB S W a b else false
def bit (b : Bool) : Int := if b then 1 else 0
def twoOk (op : Int) (B S : Bool) (W a b : Int) : Bool := mayTwo op B && isw B S W a && isw B S W b
def twoE (op : Int) (B S : Bool) (W a b : Int) : Int := if twoOk op B S W a b then 0 else 1
def twoV (op : Int) (B S : Bool) (W a b : Int) : Int :=
  if twoOk op B S W a b then (if 7 ≤ op then bit (cmpB op S W a b) else cut B S W (comb op a b)) else 0
def oneOk (op : Int) (B S : Bool) (W a : Int) : Bool := isw B S W a && (op == 1 || (op == 2 && !B))
def oneE (op : Int) (B S : Bool) (W a : Int) : Int := if oneOk op B S W a then 0 else 1
def oneV (op : Int) (B S : Bool) (W a : Int) : Int :=
  if oneOk op B S W a then (if op == 1 then cut B S W (bits .xor .u64 IntKind.u64.max a) else cut B S W (IntKind.u64.wrap (-a))) else 0
def shOk (B S : Bool) (W a k : Int) : Bool := !B && isw B S W a && decide (-63 ≤ k) && decide (k ≤ 63)
def shE (B S : Bool) (W a k : Int) : Int := if shOk B S W a k then 0 else 1
def shV (B S : Bool) (W a k : Int) : Int :=
  if shOk B S W a k then (if 0 ≤ k then cut B S W (IntKind.u64.wrap (a * 2 ^ k.toNat)) else if S then cut B S W (IntKind.u64.wrap (sval S W a / 2 ^ (-k).toNat)) else a / 2 ^ (-k).toNat) else 0
def coOk (B S : Bool) (W : Int) (B' S' : Bool) (W' a : Int) : Bool := isw B S W a && may B' S' W' && (!B' || B)
def coE (B S : Bool) (W : Int) (B' S' : Bool) (W' a : Int) : Int := if coOk B S W B' S' W' a then 0 else 1
def coV (B S : Bool) (W : Int) (B' S' : Bool) (W' a : Int) : Int := if coOk B S W B' S' W' a then cut B' S' W' (wideW S W a) else 0
def neutOk (op : Int) : Bool := op == 1 || op == 2 || op == 3 || op == 4 || op == 6
def neutV (op : Int) (B S : Bool) (W : Int) : Int := if op == 1 then cut B S W 18446744073709551615 else if op == 2 || op == 3 || op == 4 then 0 else if op == 6 then 1 else 0

def allStep (op : Int) (B S : Bool) (W : Int) (st : Int × Int) (x : Int) : Int × Int := if st.2 == 0 then (twoV op B S W st.1 x, twoE op B S W st.1 x) else st
def allR (op : Int) (B S : Bool) (W : Int) (l : List Int) : Int × Int := l.foldl (allStep op B S W) (twoV op B S W (neutV op B S W) (neutV op B S W), twoE op B S W (neutV op B S W) (neutV op B S W))

theorem allR_nil (op : Int) (B S : Bool) (W : Int) : allR op B S W [] = (twoV op B S W (neutV op B S W) (neutV op B S W), twoE op B S W (neutV op B S W) (neutV op B S W)) := rfl
theorem allR_snoc (op : Int) (B S : Bool) (W : Int) (l : List Int) (k : Nat) (h : k < l.length) : allR op B S W (l.take (k + 1)) = allStep op B S W (allR op B S W (l.take k)) (l.getD k 0) := by
  unfold allR
  rw [List.take_succ_eq_append_getElem h, List.foldl_append]
  simp [List.getD, h]
theorem allR_stay (op : Int) (B S : Bool) (W : Int) (l : List Int) (k : Nat) (h : ((allR op B S W (l.take k)).2 == 0) = false) : allR op B S W l = allR op B S W (l.take k) := by
  have key : ∀ (r : List Int) (st : Int × Int), (st.2 == 0) = false → r.foldl (allStep op B S W) st = st := by
    intro r
    induction r with
    | nil => intro st _; rfl
    | cons x r ih => intro st hst; rw [List.foldl_cons]; rw [show allStep op B S W st x = st by unfold allStep; rw [hst]; rfl]; exact ih st hst
  have e := List.take_append_drop k l
  conv => lhs; rw [← e]
  show List.foldl _ _ (l.take k ++ l.drop k) = _
  rw [List.foldl_append]
  exact key _ _ h

end Go.Proofs.YtnhpjacodhdpeaaDoor
end

section
namespace Go.Proofs.YtnhpjacodhdpeaaDoor
open Go.RowKit

set_option maxHeartbeats 400000 in
theorem may_any (B S : Bool) (W : Int) (w : World) :
    Calls Tryd.prog 102 #[.agg #[.bool B, .bool S, .int .i64 W]] w fun e w' => e = .returned (.bool (may B S W)) ∧ Below w.heap.size w w' := by
  go_enter Tryd.func102, Tryd.ntmps102
  go_wp2
  all_goals (go_ret; refine ⟨?_, (Below.refl _ _).alloc (Nat.le_refl _) _⟩; simp [may, *]; try omega)

set_option maxHeartbeats 400000 in
theorem cut_any (B S : Bool) (W n : Int) (w : World) :
    Calls Tryd.prog 90 #[.agg #[.bool B, .bool S, .int .i64 W], .int .u64 n] w fun e w' => e = .returned (.int .u64 (cut B S W n)) ∧ Below w.heap.size w w' := by
  by_cases hm : may B S W = true
  · have hbd := may_bounds hm
    have hfin : Hid (cut B S W n = IntKind.u64.wrap (n * 2 ^ (64 - W).toNat) / 2 ^ (64 - W).toNat) := by show _ = _; rw [shl_shr n W hbd]; unfold cut; rw [if_pos hm]
    go_enter Tryd.func90, Tryd.ntmps90
    go_wp2_with (go_at_call 102; refine (may_any _ _ _ _).mono ?_; rintro e w1 ⟨rfl, hb⟩; obtain ⟨hc, hf⟩ := bcell hb)
    go_ret
    exact ⟨ret_int hfin.out.symm, ((Below.refl _ _).alloc (Nat.le_refl _) _).trans (hb.mono (by simp))⟩
  · simp at hm
    have hfin : Hid (cut B S W n = 0) := by show _ = _; unfold cut; rw [if_neg (by simp [hm])]
    go_enter Tryd.func90, Tryd.ntmps90
    go_wp2_with (go_at_call 102; refine (may_any _ _ _ _).mono ?_; rintro e w1 ⟨rfl, hb⟩; obtain ⟨hc, hf⟩ := bcell hb)
    go_ret
    exact ⟨ret_int hfin.out.symm, ((Below.refl _ _).alloc (Nat.le_refl _) _).trans (hb.mono (by simp))⟩

set_option maxHeartbeats 400000 in
theorem isw_any (B S : Bool) (W n : Int) (w : World) :
    Calls Tryd.prog 101 #[.agg #[.bool B, .bool S, .int .i64 W], .int .u64 n] w fun e w' => e = .returned (.bool (isw B S W n)) ∧ Below w.heap.size w w' := by
  by_cases hm : may B S W = true
  · have hfin : Hid (isw B S W n = (cut B S W n == n)) := by show _ = _; unfold isw; rw [hm]; rfl
    go_enter Tryd.func101, Tryd.ntmps101
    go_wp2_with (first | (go_at_call 102; refine (may_any _ _ _ _).mono ?_; rintro e w1 ⟨rfl, hb⟩; obtain ⟨hc, hf⟩ := bcell hb) | (go_at_call 90; refine (cut_any _ _ _ _ _).mono ?_; rintro e w2 ⟨rfl, hb2⟩))
    go_ret
    exact ⟨ret_bool hfin.out.symm, (((Below.refl _ _).alloc (Nat.le_refl _) _).trans (hb.mono (by simp))).trans (hb2.mono (by have := hb.size; simp at this; omega))⟩
  · simp at hm
    have hfin : Hid (isw B S W n = false) := by show _ = _; unfold isw; rw [hm]; rfl
    go_enter Tryd.func101, Tryd.ntmps101
    go_wp2_with (first | (go_at_call 102; refine (may_any _ _ _ _).mono ?_; rintro e w1 ⟨rfl, hb⟩; obtain ⟨hc, hf⟩ := bcell hb))
    go_ret
    exact ⟨ret_bool hfin.out.symm, ((Below.refl _ _).alloc (Nat.le_refl _) _).trans (hb.mono (by simp))⟩

end Go.Proofs.YtnhpjacodhdpeaaDoor
end

section
namespace Go.Proofs.YtnhpjacodhdpeaaDoor
open Go.RowKit

namespace Num
theorem w64 (x : Int) : IntKind.u64.wrap x = x % 18446744073709551616 := by
  simp [IntKind.wrap, IntKind.bits, IntKind.signed]
theorem w32 (x : Int) : IntKind.u32.wrap x = x % 4294967296 := by
  simp [IntKind.wrap, IntKind.bits, IntKind.signed]
theorem nat64 {n : Nat} (h : n < 18446744073709551616) : IntKind.u64.wrap (n : Int) = n := by rw [w64]; omega
theorem nat32 {n : Nat} (h : n < 4294967296) : IntKind.u32.wrap (n : Int) = n := by rw [w32]; omega
theorem lt64 {a : Int} (h : a < 18446744073709551616) : a.toNat < 2 ^ 64 := by omega
theorem lt32 {a : Int} (h : a < 4294967296) : a.toNat < 2 ^ 32 := by omega
theorem of64 {a : Int} (ha : 0 ≤ a) (ha' : a < 18446744073709551616) : (BitVec.ofInt 64 a).toNat = a.toNat := by rw [BitVec.toNat_ofInt]; omega
theorem of32 {a : Int} (ha : 0 ≤ a) (ha' : a < 4294967296) : (BitVec.ofInt 32 a).toNat = a.toNat := by rw [BitVec.toNat_ofInt]; omega

theorem and64 {a b : Int} (ha : 0 ≤ a) (ha' : a < 18446744073709551616) (hb : 0 ≤ b) (hb' : b < 18446744073709551616) : bits .and .u64 a b = ((a.toNat &&& b.toNat : Nat) : Int) := by
  show IntKind.u64.wrap ((BitVec.ofInt 64 a &&& BitVec.ofInt 64 b).toNat : Int) = _
  rw [BitVec.toNat_and, of64 ha ha', of64 hb hb']
  exact nat64 (Nat.and_lt_two_pow _ (lt64 hb'))
theorem or64 {a b : Int} (ha : 0 ≤ a) (ha' : a < 18446744073709551616) (hb : 0 ≤ b) (hb' : b < 18446744073709551616) : bits .or .u64 a b = ((a.toNat ||| b.toNat : Nat) : Int) := by
  show IntKind.u64.wrap ((BitVec.ofInt 64 a ||| BitVec.ofInt 64 b).toNat : Int) = _
  rw [BitVec.toNat_or, of64 ha ha', of64 hb hb']
  exact nat64 (Nat.or_lt_two_pow (lt64 ha') (lt64 hb'))
theorem xor64 {a b : Int} (ha : 0 ≤ a) (ha' : a < 18446744073709551616) (hb : 0 ≤ b) (hb' : b < 18446744073709551616) : bits .xor .u64 a b = ((a.toNat ^^^ b.toNat : Nat) : Int) := by
  show IntKind.u64.wrap ((BitVec.ofInt 64 a ^^^ BitVec.ofInt 64 b).toNat : Int) = _
  rw [BitVec.toNat_xor, of64 ha ha', of64 hb hb']
  exact nat64 (Nat.xor_lt_two_pow (lt64 ha') (lt64 hb'))
theorem not64 {a : Int} (ha : 0 ≤ a) (ha' : a < 18446744073709551616) : bits .xor .u64 IntKind.u64.max a = 18446744073709551615 - a := by
  show IntKind.u64.wrap ((BitVec.ofInt 64 IntKind.u64.max ^^^ BitVec.ofInt 64 a).toNat : Int) = _
  rw [show BitVec.ofInt 64 IntKind.u64.max = BitVec.allOnes 64 by decide +kernel, BitVec.allOnes_xor, BitVec.toNat_not, of64 ha ha', w64]
  omega
theorem xor32 {a b : Int} (ha : 0 ≤ a) (ha' : a < 4294967296) (hb : 0 ≤ b) (hb' : b < 4294967296) : bits .xor .u32 a b = ((a.toNat ^^^ b.toNat : Nat) : Int) := by
  show IntKind.u32.wrap ((BitVec.ofInt 32 a ^^^ BitVec.ofInt 32 b).toNat : Int) = _
  rw [BitVec.toNat_xor, of32 ha ha', of32 hb hb']
  exact nat32 (Nat.xor_lt_two_pow (lt32 ha') (lt32 hb'))
theorem and32 {a b : Int} (ha : 0 ≤ a) (ha' : a < 4294967296) (hb : 0 ≤ b) (hb' : b < 4294967296) : bits .and .u32 a b = ((a.toNat &&& b.toNat : Nat) : Int) := by
  show IntKind.u32.wrap ((BitVec.ofInt 32 a &&& BitVec.ofInt 32 b).toNat : Int) = _
  rw [BitVec.toNat_and, of32 ha ha', of32 hb hb']
  exact nat32 (Nat.and_lt_two_pow _ (lt32 hb'))
theorem and_bd {a b : Int} (ha : 0 ≤ a) (ha' : a < 18446744073709551616) (hb : 0 ≤ b) (hb' : b < 18446744073709551616) : 0 ≤ bits .and .u64 a b ∧ bits .and .u64 a b < 18446744073709551616 := by
  rw [and64 ha ha' hb hb']
  have := Nat.and_lt_two_pow a.toNat (lt64 hb')
  omega
/-- The lowest bit. -/
theorem one64 {a : Int} (ha : 0 ≤ a) (ha' : a < 18446744073709551616) : bits .and .u64 a 1 = a % 2 := by
  rw [and64 ha ha' (by decide) (by decide), show (1 : Int).toNat = 1 from rfl, Nat.and_one_is_mod]; omega
theorem one32 {a : Int} (ha : 0 ≤ a) (ha' : a < 4294967296) : bits .and .u32 a 1 = a % 2 := by
  rw [and32 ha ha' (by decide) (by decide), show (1 : Int).toNat = 1 from rfl, Nat.and_one_is_mod]; omega
theorem nat_xor_one (n : Nat) : n ^^^ 1 = if n % 2 = 0 then n + 1 else n - 1 := by
  have h1 : (n ^^^ 1) / 2 = n / 2 := by
    have := Nat.xor_div_two (a := n) (b := 1); simpa using this
  have h2 : (n ^^^ 1) % 2 = (n + 1) % 2 := by
    have e : (n ^^^ 1) % 2 ^ 1 = (n % 2 ^ 1) ^^^ (1 % 2 ^ 1) := Nat.xor_mod_two_pow
    rw [show (2 : Nat) ^ 1 = 2 from rfl] at e
    rw [e]
    rcases Nat.mod_two_eq_zero_or_one n with h | h <;> rw [h] <;> simp <;> omega
  split <;> omega
theorem and_self64 {a : Int} (ha : 0 ≤ a) (ha' : a < 18446744073709551616) : bits .and .u64 a a = a := by
  rw [and64 ha ha' ha ha', Nat.and_self]; omega
theorem and_zero64 {a : Int} (ha : 0 ≤ a) (ha' : a < 18446744073709551616) : bits .and .u64 a 0 = 0 := by
  rw [and64 ha ha' (by decide) (by decide)]; simp
theorem zero_and64 {a : Int} (ha : 0 ≤ a) (ha' : a < 18446744073709551616) : bits .and .u64 0 a = 0 := by
  rw [and64 (by decide) (by decide) ha ha']; simp
theorem and_comm64 {a b : Int} (ha : 0 ≤ a) (ha' : a < 18446744073709551616) (hb : 0 ≤ b) (hb' : b < 18446744073709551616) : bits .and .u64 a b = bits .and .u64 b a := by
  rw [and64 ha ha' hb hb', and64 hb hb' ha ha', Nat.and_comm]
theorem and_not64 {a : Int} (ha : 0 ≤ a) (ha' : a < 18446744073709551616) : bits .and .u64 a (18446744073709551615 - a) = 0 := by
  rw [and64 ha ha' (by omega) (by omega)]
  have e : (18446744073709551615 - a).toNat = 2 ^ 64 - 1 - a.toNat := by omega
  rw [e]
  have : a.toNat &&& (2 ^ 64 - 1 - a.toNat) = 0 := by
    apply Nat.eq_of_testBit_eq
    intro i
    rw [Nat.testBit_and, Nat.zero_testBit, show 2 ^ 64 - 1 - a.toNat = 2 ^ 64 - (a.toNat + 1) by omega, Nat.testBit_two_pow_sub_succ (lt64 ha')]
    cases a.toNat.testBit i <;> simp
  rw [this]; rfl
theorem and_ones64 {a : Int} (ha : 0 ≤ a) (ha' : a < 18446744073709551616) : bits .and .u64 a 18446744073709551615 = a := by
  rw [and64 ha ha' (by decide) (by decide), show (18446744073709551615 : Int).toNat = 2 ^ 64 - 1 from rfl, Nat.and_two_pow_sub_one_eq_mod, Nat.mod_eq_of_lt (lt64 ha')]; omega
end Num
end Go.Proofs.YtnhpjacodhdpeaaDoor
end

section
namespace Go.Proofs.YtnhpjacodhdpeaaDoor
open Go.RowKit Num

def notV (l : Int) : Int := if l % 2 == 0 then l + 1 else l - 1
def turnV (l : Int) : Bool := l % 2 == 1
def ifV (l : Int) (t : Bool) : Int := if t then notV l else l
def ofBad (n : Int) : Bool := decide (n < 0) || decide (16777216 < n)
def ofV (n : Int) (t : Bool) : Int := if ofBad n then 0 else 2 * n + (if t then 1 else 0)
def ofE (n : Int) : Int := if ofBad n then 1 else 0
/-- A node's word. -/
def nodeW (n : Int) (zs : List Int) : Int := if decide (0 < n) && decide (n < zs.length) then zs.getD n.toNat 0 else 0
def wordV (l : Int) (zs : List Int) : Int := if turnV l then 18446744073709551615 - nodeW (l / 2) zs else nodeW (l / 2) zs
def foldB (a b : Int) : Bool := (a == 0) || (b == 0) || (a == notV b) || (a == 1) || (b == 1) || (a == b)
def foldV (a b : Int) : Int := if (a == 0) || (b == 0) || (a == notV b) then 0 else if a == 1 then b else if (b == 1) || (a == b) then a else 0

/-- A literal as a machine holds it. -/
def IsLit (l : Int) : Prop := 0 ≤ l ∧ l < 4294967296
/-- Words of a valuation. -/
def Words (zs : List Int) : Prop := ∀ i, 0 ≤ zs.getD i 0 ∧ zs.getD i 0 < 18446744073709551616

theorem notV_lit {l : Int} (h : IsLit l) : IsLit (notV l) := by
  unfold IsLit notV at *; split <;> simp_all <;> omega
theorem notV_not (l : Int) : notV (notV l) = l := by
  by_cases e : l % 2 = 0
  · have h : (l + 1) % 2 = 1 := by omega
    unfold notV; simp [e, h]
  · have h : (l - 1) % 2 = 0 := by omega
    unfold notV; simp [e, h]
theorem notV_half (l : Int) : notV l / 2 = l / 2 := by
  unfold notV; split <;> simp_all <;> omega
theorem notV_turn (l : Int) : turnV (notV l) = !turnV l := by
  by_cases e : l % 2 = 0
  · have h : (l + 1) % 2 = 1 := by omega
    unfold notV turnV; simp [e, h]
  · have h : (l - 1) % 2 = 0 := by omega
    have h2 : l % 2 = 1 := by omega
    unfold notV turnV; simp [h, h2]
theorem notV_ne (l : Int) : notV l ≠ l := by unfold notV; split <;> omega
theorem xor_not {l : Int} (h : IsLit l) : bits .xor .u32 l 1 = notV l := by
  obtain ⟨h0, h1⟩ := h
  rw [xor32 h0 h1 (by decide) (by decide), show (1 : Int).toNat = 1 from rfl, nat_xor_one]
  unfold notV
  by_cases e : l % 2 = 0
  · rw [if_pos (by omega), if_pos (by simpa using e)]; omega
  · rw [if_neg (by omega), if_neg (by simpa using e)]; omega
theorem and_turn {l : Int} (h : IsLit l) : (bits .and .u32 l 1 == 1) = turnV l := by
  rw [one32 h.1 h.2]; rfl

theorem nodeW_bd {zs : List Int} (h : Words zs) (n : Int) : 0 ≤ nodeW n zs ∧ nodeW n zs < 18446744073709551616 := by
  unfold nodeW; split
  · exact h _
  · omega
theorem wordV_bd {zs : List Int} (h : Words zs) (l : Int) : 0 ≤ wordV l zs ∧ wordV l zs < 18446744073709551616 := by
  have := nodeW_bd h (l / 2)
  unfold wordV; split <;> omega
theorem wordV_not (l : Int) (zs : List Int) : wordV (notV l) zs = 18446744073709551615 - wordV l zs := by
  unfold wordV
  rw [notV_half, notV_turn]
  cases turnV l <;> simp
  omega
theorem wordV_0 (zs : List Int) : wordV 0 zs = 0 := by unfold wordV turnV nodeW; simp
theorem wordV_1 (zs : List Int) : wordV 1 zs = 18446744073709551615 := by unfold wordV turnV nodeW; simp

theorem foldV_word {a b : Int} {zs : List Int} (h : Words zs) (hf : foldB a b = true) : wordV (foldV a b) zs = bits .and .u64 (wordV a zs) (wordV b zs) := by
  have ba := wordV_bd h a
  have bb := wordV_bd h b
  unfold foldV
  by_cases h0 : a = 0
  · subst h0; simp [wordV_0, zero_and64 bb.1 bb.2]
  by_cases h1 : b = 0
  · subst h1; simp [wordV_0, and_zero64 ba.1 ba.2]
  by_cases h2 : a = notV b
  · subst h2; simp [wordV_0]; rw [wordV_not, and_comm64 (by omega) (by omega) bb.1 bb.2, and_not64 bb.1 bb.2]
  by_cases h3 : a = 1
  · subst h3; simp [h1, h2, wordV_1]; rw [and_comm64 (by decide) (by decide) bb.1 bb.2, and_ones64 bb.1 bb.2]
  by_cases h4 : b = 1
  · subst h4; simp [h0, h2, h3, wordV_1]; rw [and_ones64 ba.1 ba.2]
  by_cases h5 : a = b
  · subst h5; simp [h0, h2, h3]; rw [and_self64 ba.1 ba.2]
  · unfold foldB at hf; simp [h0, h1, h2, h3, h4, h5] at hf
theorem notV_inj {a b : Int} (h : notV a = notV b) : a = b := by rw [← notV_not a, h, notV_not]
theorem notV_eq {a b : Int} : a = notV b ↔ b = notV a := ⟨fun h => by rw [h, notV_not], fun h => by rw [h, notV_not]⟩
theorem foldB_comm (a b : Int) : foldB a b = foldB b a := by
  unfold foldB
  have e : (a == notV b) = (b == notV a) := by
    rw [Bool.eq_iff_iff]; simp only [beq_iff_eq]; exact notV_eq
  have e2 : (a == b) = (b == a) := by rw [Bool.eq_iff_iff]; simp only [beq_iff_eq]; exact ⟨Eq.symm, Eq.symm⟩
  rw [e, e2]
  cases (a == 0) <;> cases (b == 0) <;> cases (b == notV a) <;> cases (a == 1) <;> cases (b == 1) <;> rfl
theorem foldV_comm (a b : Int) : foldV a b = foldV b a := by
  unfold foldV
  have e : (a == notV b) = (b == notV a) := by
    rw [Bool.eq_iff_iff]; simp only [beq_iff_eq]; exact notV_eq
  rw [e]
  have o : ((a == 0) || (b == 0) || (b == notV a)) = ((b == 0) || (a == 0) || (b == notV a)) := by cases (a == 0) <;> cases (b == 0) <;> rfl
  rw [o]
  cases ((b == 0) || (a == 0) || (b == notV a))
  · by_cases h3 : a = 1
    · by_cases h4 : b = 1
      · rw [h3, h4]
      · simp [h3, h4]
    · by_cases h4 : b = 1
      · simp [h3, h4]
      · by_cases h5 : a = b
        · rw [h5]
        · have h6 : ¬ b = a := fun h => h5 h.symm
          simp [h3, h4, h5, h6]
  · rfl
theorem foldV_lit {a b : Int} (ha : IsLit a) (hb : IsLit b) : IsLit (foldV a b) := by
  have hz : IsLit 0 := by unfold IsLit; omega
  unfold foldV; split
  · exact hz
  · split
    · exact hb
    · split
      · exact ha
      · exact hz
/-- Where no gate is needed. -/
theorem foldB_no {a b : Int} (ha : 0 ≤ a) (hb : 0 ≤ b) (h : foldB a b = false) : (a / 2 == b / 2) = false ∧ 1 < a ∧ 1 < b := by
  unfold foldB at h
  simp at h
  obtain ⟨⟨⟨⟨⟨h0, h1⟩, h2⟩, h3⟩, h4⟩, h5⟩ := h
  refine ⟨?_, by omega, by omega⟩
  simp
  intro e
  unfold notV at h2
  split at h2 <;> simp_all <;> omega
end Go.Proofs.YtnhpjacodhdpeaaDoor
end

section
namespace Go.Proofs.YtnhpjacodhdpeaaDoor
open Go.RowKit Go.ChangeShapes Go.WideShapes

theorem words_of {zs : List Int} (h : ∀ n ∈ zs, (Lit.int .u64 n).wf = true) : Words zs := by
  intro i
  by_cases hi : i < zs.length
  · have e : zs.getD i 0 = zs[i] := by simp [List.getD, hi]
    have := bounds_u64 (h _ (List.getElem_mem hi))
    rw [e]; omega
  · have e : zs.getD i 0 = 0 := by rw [List.getD_eq_getElem?_getD, List.getElem?_eq_none (by omega)]; rfl
    rw [e]; omega
theorem isLit_of {l : Int} (h : (Go.Lit.int .u32 l).wf = true) : IsLit l := by
  have := bounds_u32 h
  unfold IsLit; omega
theorem lits_of {zs : List Int} (h : ∀ n ∈ zs, (Go.Lit.int .u32 n).wf = true) : ∀ i, IsLit (zs.getD i 0) := by
  intro i
  by_cases hi : i < zs.length
  · have e : zs.getD i 0 = zs[i] := by simp [List.getD, hi]
    rw [e]; exact isLit_of (h _ (List.getElem_mem hi))
  · have e : zs.getD i 0 = 0 := by rw [List.getD_eq_getElem?_getD, List.getElem?_eq_none (by omega)]; rfl
    rw [e]; unfold IsLit; omega
/-- A slice that came in: as much of it as its length says. -/
theorem row_of_in {k : IntKind} {w : World} {a : Option Addr} {len cap : Nat} {zs : List Int} (h : IsRow k w a len cap zs) : len ≤ cap ∧ cap ≤ 9223372036854775807 ∧ Row k w a len (zs.take len) := by
  rcases h with ⟨rfl, rfl, rfl, rfl⟩ | ⟨x, rfl, hlc, hcap, hzl, hcell, hwf⟩
  · exact ⟨by omega, by omega, rfl, by omega, .inl rfl⟩
  · unfold maxLen at hcap
    refine ⟨hlc, by omega, by rw [List.length_take]; omega, by omega, ?_⟩
    by_cases h0 : len = 0
    · exact .inl h0
    · right
      obtain ⟨b, off, rfl, hc⟩ := ints_at hcell (by omega)
      refine ⟨b, off, rfl, World.block_lt_of_cell? w ⟨b, off + 0, none⟩ (hc 0 (by omega)), fun i hi => ?_⟩
      rw [hc i (by omega)]
      have : (zs.take len).getD i 0 = zs.getD i 0 := by simp [List.getD, hi]
      rw [this]
theorem words_in {w : World} {a : Option Addr} {len cap : Nat} {zs : List Int} (h : IsRow .u64 w a len cap zs) (m : Nat) : Words (zs.take m) := by
  rcases h with ⟨rfl, rfl, rfl, rfl⟩ | ⟨x, rfl, hlc, hcap, hzl, hcell, hwf⟩
  · intro i; simp
  · exact words_of fun n hn => hwf n (List.mem_of_mem_take hn)
theorem lits_in {w : World} {a : Option Addr} {len cap : Nat} {zs : List Int} (h : IsRow .u32 w a len cap zs) (m : Nat) : ∀ i, IsLit ((zs.take m).getD i 0) := by
  rcases h with ⟨rfl, rfl, rfl, rfl⟩ | ⟨x, rfl, hlc, hcap, hzl, hcell, hwf⟩
  · intro i; unfold IsLit; simp
  · exact lits_of fun n hn => hwf n (List.mem_of_mem_take hn)
end Go.Proofs.YtnhpjacodhdpeaaDoor
end

section
namespace Go.Proofs.YtnhpjacodhdpeaaDoor
open Go.RowKit Go.Maps Go.ChangeShapes Go.WideShapes Go.ChangeAt Go.Joins
set_option maxRecDepth 100000

def RRk (k : IntKind) (w : World) (a : Option Addr) (n : Nat) (N : List (List Int)) : Prop :=
  N.length = n ∧ n ≤ 9223372036854775807 ∧ (n = 0 ∨ ∃ b off, a = some ⟨b, off, none⟩ ∧ b < w.heap.size ∧ ∀ i, i < n → ∃ ai ci, w.cell? ⟨b, off + i, none⟩ = some (.slice ai (N.getD i []).length ci) ∧ (N.getD i []).length ≤ ci ∧ ci ≤ 9223372036854775807 ∧ Row k w ai (N.getD i []).length (N.getD i []))
theorem RRk.step {k : IntKind} {W w1 : World} {a : Option Addr} {n : Nat} {N : List (List Int)} (h : RRk k W a n N) (hb : Below W.heap.size W w1) : RRk k w1 a n N := by
  refine ⟨h.1, h.2.1, ?_⟩
  rcases h.2.2 with h0 | ⟨b, off, rfl, hlt, hc⟩
  · exact .inl h0
  · exact .inr ⟨b, off, rfl, Nat.lt_of_lt_of_le hlt hb.size, fun i hi => by obtain ⟨ai, ci, h1, h2, h3, h4⟩ := hc i hi; exact ⟨ai, ci, stepc hb hlt h1, h2, h3, h4.step hb⟩⟩
theorem RRk.at {k : IntKind} {w : World} {a : Option Addr} {n : Nat} {N : List (List Int)} (h : RRk k w a n N) (hn : 0 < n) : ∃ b off, a = some ⟨b, off, none⟩ ∧ b < w.heap.size ∧ ∀ i, i < n → ∃ ai ci, w.cell? ⟨b, off + i, none⟩ = some (.slice ai (N.getD i []).length ci) ∧ (N.getD i []).length ≤ ci ∧ ci ≤ 9223372036854775807 ∧ Row k w ai (N.getD i []).length (N.getD i []) := by
  rcases h.2.2 with h0 | h1
  · omega
  · exact h1

section
variable {H : Type} {enc : TypeId × Value → H} {w : World} {base : Nat} {held : Bool}
/-- A slice of integers that came in. -/
theorem slice2_in {fuel : Nat} {v : Value} {y : DataW H × List MemPlace} {t e : Nat} {k : IntKind} (hs : Tryd.prog.underlying t = some (.slice e)) (he : Tryd.prog.underlying e = some (.int k)) (hc : Tryd.prog.cellsOf e = 1) (h : DataW.trod enc Tryd.prog w base (fun _ => true) held fuel t [v] = some y) :
    ∃ a n c l, v = .slice a n c ∧ n ≤ c ∧ c ≤ 9223372036854775807 ∧ Row k w a n l ∧ ∀ z ∈ l, (Lit.int k z).wf = true := by
  rcases open_ints hs he hc h with ⟨e1, _⟩ | ⟨x, l, c, zs, e1, _, hl, hm, hz, _, hcell, hwz⟩
  · exact ⟨none, 0, 0, [], by simpa using e1, by omega, by omega, Row.nil _ _ _, fun z hz => by simp at hz⟩
  · unfold maxLen at hm
    have hz' : zs.length = c := by simpa using hz
    refine ⟨some x, l, c, zs.take l, by simpa using e1, hl, by omega, ⟨by rw [List.length_take]; omega, by omega, ?_⟩, fun z hz => hwz z (List.mem_of_mem_take hz)⟩
    by_cases h0 : l = 0
    · exact .inl h0
    · right
      obtain ⟨b, off, rfl, hcc⟩ := ints_at hcell (by omega)
      refine ⟨b, off, rfl, World.block_lt_of_cell? w ⟨b, off + 0, none⟩ (hcc 0 (by omega)), fun i hi => ?_⟩
      rw [hcc i (by omega)]
      have : (zs.take l).getD i 0 = zs.getD i 0 := by simp [List.getD, hi]
      rw [this]
theorem choose_list {α : Type} (d : α) {p : Nat → α → Prop} {n : Nat} (h : ∀ i, i < n → ∃ x, p i x) : ∃ l : List α, l.length = n ∧ ∀ i, i < n → p i (l.getD i d) := by
  induction n with
  | zero => exact ⟨[], rfl, fun i hi => by omega⟩
  | succ n ih =>
    obtain ⟨l, hl, hp⟩ := ih (fun i hi => h i (by omega))
    obtain ⟨x, hx⟩ := h n (by omega)
    refine ⟨l ++ [x], by simp [hl], fun i hi => ?_⟩
    by_cases e : i = n
    · subst e
      have : (l ++ [x]).getD i d = x := by rw [List.getD_eq_getElem?_getD, List.getElem?_append_right (by omega), hl]; simp
      rw [this]; exact hx
    · have : (l ++ [x]).getD i d = l.getD i d := by rw [List.getD_eq_getElem?_getD, List.getD_eq_getElem?_getD, List.getElem?_append_left (by omega)]
      rw [this]; exact hp i (by omega)
/-- A slice of such slices. -/
theorem rows_in {a : Option Addr} {n c : Nat} {d : DataW H} {p : List MemPlace} {t s e : Nat} {k : IntKind} (ht : Tryd.prog.underlying t = some (.slice s)) (hs : Tryd.prog.underlying s = some (.slice e)) (he : Tryd.prog.underlying e = some (.int k)) (hc : Tryd.prog.cellsOf e = 1) (hcs : Tryd.prog.cellsOf s = 1) (h : DataW.Trod enc Tryd.prog w base (fun _ => true) held t (.slice a n c) d p) :
    n ≤ c ∧ c ≤ 9223372036854775807 ∧ ∃ N, RRk k w a n N ∧ ∀ i, i < n → ∀ z ∈ N.getD i [], (Lit.int k z).wf = true := by
  obtain ⟨fuel, hf⟩ := h
  rcases Go.Deep.open_slice1 ht hcs hf with ⟨e1, _⟩ | ⟨x, len, cap, m, nn, V, D, Pl, e1, -, hl, hm, hmm, -, hx⟩
  · simp [Value.cells] at e1
    obtain ⟨rfl, rfl, rfl⟩ := e1
    exact ⟨by omega, by omega, [], ⟨rfl, by omega, .inl rfl⟩, fun i hi => by omega⟩
  · simp [Value.cells] at e1
    obtain ⟨rfl, rfl, rfl⟩ := e1
    simp at hmm
    subst hmm
    unfold maxLen at hm
    refine ⟨hl, by omega, ?_⟩
    obtain ⟨N, hN, hP⟩ := choose_list (α := List Int) [] (n := n) (p := fun i l => ∃ ai ci, w.cell? (x.add i) = some (.slice ai l.length ci) ∧ l.length ≤ ci ∧ ci ≤ 9223372036854775807 ∧ Row k w ai l.length l ∧ ∀ z ∈ l, (Lit.int k z).wf = true) (fun i hi => by
      obtain ⟨h1, h2⟩ := hx i (by omega)
      obtain ⟨ai, ni, ci, l, e, q1, q2, q3, q4⟩ := slice2_in hs he hc h2
      have hln := q3.len
      subst hln
      exact ⟨l, ai, ci, by rw [h1, e], q1, q2, q3, q4⟩)
    refine ⟨N, ⟨hN, by omega, ?_⟩, fun i hi z hz => by obtain ⟨ai, ci, -, -, -, -, h5⟩ := hP i hi; exact h5 z hz⟩
    by_cases h0 : n = 0
    · exact .inl h0
    · right
      obtain ⟨b, off, spot⟩ := x
      obtain ⟨a0, c0, g0, -⟩ := hP 0 (by omega)
      have hspot : spot = none := by simpa [Addr.add] using World.cell?_spot g0
      subst hspot
      refine ⟨b, off, rfl, ?_, fun i hi => ?_⟩
      · have := World.block_lt_of_cell? w _ g0
        simpa [Addr.add] using this
      · obtain ⟨ai, ci, g1, g2, g3, g4, -⟩ := hP i hi
        rw [Go.WideShapes.add_plain] at g1
        exact ⟨ai, ci, g1, g2, g3, g4⟩
end
end Go.Proofs.YtnhpjacodhdpeaaDoor
end

section
namespace Go.Proofs.YtnhpjacodhdpeaaDoor
open Go.RowKit

structure TB where
  name : ByteArray
  width : Int
def tb0 : TB := ⟨ByteArray.empty, 0⟩
def sameS (s t : ByteArray) : Bool := s.toList == t.toList
def spellT (b : Int) : Bool := (decide (97 ≤ b) && decide (b ≤ 122)) || (decide (65 ≤ b) && decide (b ≤ 90)) || (decide (48 ≤ b) && decide (b ≤ 57)) || decide (b = 95) || decide (b = 64) || decide (b = 63)
def spellA (l : List UInt8) : Bool := l.all (fun b => spellT b.toNat)
def nameT (s : ByteArray) : Bool := decide (1 ≤ s.size) && decide (s.size ≤ 33) && spellA s.data.toList
def atT (L : List TB) (s : ByteArray) : Option Nat := L.findIdx? (fun b => sameS b.name s)
def firstT : Option Nat → Int
  | some i => i
  | none => -1
def wideT (W : Int) : Bool := decide (1 ≤ W) && decide (W ≤ 64)
def busT (L : List TB) (i : Nat) : Bool := nameT (L.getD i tb0).name && wideT (L.getD i tb0).width && (atT (L.take i) (L.getD i tb0).name).isNone
def busesT (L : List TB) : Bool := decide (1 ≤ L.length) && decide (L.length ≤ 512) && (List.range L.length).all (busT L)
def topT (W : Int) : Int := cut false false W 18446744073709551615
def tops (L : List TB) : List Int := L.map (fun b => topT b.width)
def fitsL (l m : List Int) : Bool := decide (l.length = m.length) && (List.range l.length).all (fun i => decide (l.getD i 0 ≤ m.getD i 0))
def mayT (L : List TB) (R : List (List Int)) : Bool := busesT L && decide (R.length ≤ 4096) && (List.range R.length).all (fun i => fitsL (R.getD i []) (tops L))

theorem range_all {p : Nat → Bool} {n : Nat} (h : ∀ i, i < n → p i = true) : (List.range n).all p = true := by
  rw [List.all_eq_true]; intro x hx; exact h x (by simpa using hx)
theorem range_not {p : Nat → Bool} {n i : Nat} (hi : i < n) (h : p i = false) : (List.range n).all p = false := by
  rw [List.all_eq_false]; exact ⟨i, by simpa using hi, by simp [h]⟩
theorem range_of {p : Nat → Bool} {n : Nat} (h : (List.range n).all p = true) : ∀ i, i < n → p i = true := by
  rw [List.all_eq_true] at h; intro i hi; exact h i (by simpa using hi)

/-- What a slice of buses holds. -/
def BsR (w : World) (a : Option Addr) (n : Nat) (L : List TB) : Prop :=
  L.length = n ∧ n ≤ 9223372036854775807 ∧ (n = 0 ∨ ∃ b off, a = some ⟨b, off, none⟩ ∧ b < w.heap.size ∧ ∀ i, i < n → w.cell? ⟨b, off + i * 2, none⟩ = some (.string (L.getD i tb0).name) ∧ w.cell? ⟨b, off + i * 2 + 1, none⟩ = some (.int .i64 (L.getD i tb0).width))
section
variable {w w' : World} {a : Option Addr} {n : Nat} {L : List TB}
theorem BsR.len (h : BsR w a n L) : L.length = n := h.1
theorem BsR.le (h : BsR w a n L) : n ≤ 9223372036854775807 := h.2.1
theorem BsR.at (h : BsR w a n L) (hn : 0 < n) : ∃ b off, a = some ⟨b, off, none⟩ ∧ b < w.heap.size ∧ ∀ i, i < n → w.cell? ⟨b, off + i * 2, none⟩ = some (.string (L.getD i tb0).name) ∧ w.cell? ⟨b, off + i * 2 + 1, none⟩ = some (.int .i64 (L.getD i tb0).width) := by
  rcases h.2.2 with h0 | h1
  · omega
  · exact h1
theorem BsR.step (h : BsR w a n L) (hb : Below w.heap.size w w') : BsR w' a n L := by
  refine ⟨h.1, h.2.1, ?_⟩
  rcases h.2.2 with h0 | ⟨b, off, rfl, hlt, hc⟩
  · exact .inl h0
  · exact .inr ⟨b, off, rfl, Nat.lt_of_lt_of_le hlt hb.size, fun i hi => ⟨stepc hb hlt (hc i hi).1, stepc hb hlt (hc i hi).2⟩⟩
theorem BsR.take (h : BsR w a n L) (m : Nat) (hm : m ≤ n) : BsR w a m (L.take m) := by
  refine ⟨by rw [List.length_take, h.1]; omega, by have := h.2.1; omega, ?_⟩
  rcases h.2.2 with h0 | ⟨b, off, rfl, hlt, hc⟩
  · exact .inl (by omega)
  · refine .inr ⟨b, off, rfl, hlt, fun i hi => ?_⟩
    have e : (L.take m).getD i tb0 = L.getD i tb0 := by simp [List.getD, List.getElem?_take, hi]
    rw [e]; exact hc i (by omega)
end

theorem atT_hit {L : List TB} {s : ByteArray} {j : Nat} (hj : j < L.length) (h : sameS (L.getD j tb0).name s = true) (hn : ∀ i, i < j → sameS (L.getD i tb0).name s = false) : atT L s = some j := by
  unfold atT
  rw [List.findIdx?_eq_some_iff_getElem]
  refine ⟨hj, by simpa [List.getD, hj] using h, fun i hi => ?_⟩
  have := hn i hi
  simpa [List.getD, show i < L.length by omega] using this
theorem atT_miss {L : List TB} {s : ByteArray} (hn : ∀ i, i < L.length → sameS (L.getD i tb0).name s = false) : atT L s = none := by
  unfold atT
  rw [List.findIdx?_eq_none_iff]
  intro b hb
  obtain ⟨i, hi, rfl⟩ := List.getElem_of_mem hb
  have := hn i hi
  simpa [List.getD, hi] using this
theorem firstT_none {o : Option Nat} (h : o.isNone = true) : firstT o = -1 := by cases o <;> simp_all [firstT]
theorem firstT_some {o : Option Nat} (h : o.isNone = false) : 0 ≤ firstT o := by cases o <;> simp_all [firstT]
theorem tops_len (L : List TB) : (tops L).length = L.length := by simp [tops]
theorem tops_at (L : List TB) (i : Nat) (h : i < L.length) : (tops L).getD i 0 = topT (L.getD i tb0).width := by simp [tops, List.getD, h]
end Go.Proofs.YtnhpjacodhdpeaaDoor
end
