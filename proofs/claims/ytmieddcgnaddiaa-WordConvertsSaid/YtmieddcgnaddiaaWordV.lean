/-
  Words brought into other types.
-/
import Derived.Test.YtmieddcgnaddiaaWordS
namespace Go.Proofs.Ytmieddcgnaddiaa
open Go.RowKit

theorem wide_mod {B S : Bool} {W a : Int} (ha : isw B S W a = true) (m : Nat) (hm : m ≤ 64) : wide S W a % 2 ^ m = sval S W a % 2 ^ m := by
  unfold wide
  cases S with
  | true =>
    rw [if_pos rfl, u64w, pow_split m hm]
    exact Int.emod_emod_of_dvd _ (Int.dvd_mul_right _ _)
  | false => rw [if_neg (by decide)]; rfl

theorem conv_val {B S B' S' : Bool} {W W' a : Int} (ha : isw B S W a = true) (hm : may B' S' W' = true) (hb : (!B' || B) = true) : coV B S W B' S' W' a = sval S W a % 2 ^ W'.toNat ∧ coE B S W B' S' W' a = 0 := by
  have hk : coOk B S W B' S' W' a = true := by simp [coOk, ha, hm]; simpa using hb
  have hbd := may_bounds hm
  refine ⟨?_, by unfold coE; rw [if_pos hk]⟩
  unfold coV; rw [if_pos hk]
  unfold cut; rw [if_pos hm]
  exact wide_mod ha _ (by omega)

theorem conv_no {B S B' S' : Bool} {W W' a : Int} (hb : (!B' || B) = false) : coV B S W B' S' W' a = 0 ∧ coE B S W B' S' W' a = 1 := by
  have hk : coOk B S W B' S' W' a = false := by unfold coOk; rw [hb, Bool.and_false]
  exact ⟨by unfold coV; rw [hk]; rfl, by unfold coE; rw [hk]; rfl⟩

theorem mask_and {x : Int} {m : Nat} (h0 : 0 ≤ x) (h1 : x < 18446744073709551616) (hm : m ≤ 64) : bits .and .u64 x (18446744073709551615 / 2 ^ (64 - m)) = x % 2 ^ m := by
  have hp := pow_pos' m
  have hq := pow_pos' (64 - m)
  have es := pow_split m hm
  have e1 : (18446744073709551615 : Int) / 2 ^ (64 - m) = 2 ^ m - 1 := by
    have e2 : (18446744073709551615 : Int) = (2 ^ (64 - m) - 1) + 2 ^ (64 - m) * (2 ^ m - 1) := by
      rw [Int.mul_sub, Int.mul_comm, ← es]; omega
    rw [e2, Int.add_mul_ediv_left _ _ (by omega), Int.ediv_eq_zero_of_lt (by omega) (by omega)]; omega
  have hle := pow_le64 m hm
  have ec : ((2 ^ m : Nat) : Int) = 2 ^ m := by exact_mod_cast rfl
  rw [e1, bits_and h0 h1 (by omega) (by omega), show (2 ^ m - 1 : Int).toNat = 2 ^ m - 1 by omega, Nat.and_two_pow_sub_one_eq_mod]
  push_cast
  rw [Int.toNat_of_nonneg h0]

theorem low_same {B S : Bool} {W W' a : Int} (m : Nat) (ha : isw B S W a = true) (h1 : (m : Int) ≤ W) (h2 : (m : Int) ≤ W') : sval S W a % 2 ^ W'.toNat % 2 ^ m = a % 2 ^ m := by
  have d1 : (2 : Int) ^ m ∣ 2 ^ W'.toNat := ⟨2 ^ (W'.toNat - m), by rw [← Int.pow_add]; congr 1; omega⟩
  have d2 : (2 : Int) ^ m ∣ 2 ^ W.toNat := ⟨2 ^ (W.toNat - m), by rw [← Int.pow_add]; congr 1; omega⟩
  rw [Int.emod_emod_of_dvd _ d1, ← Int.emod_emod_of_dvd (sval S W a) d2, sval_mod ha]

theorem sval_of' {B S : Bool} {W x : Int} (hm : may B S W = true) (h0 : S = true → -(2 ^ (W.toNat - 1)) ≤ x ∧ x < 2 ^ (W.toNat - 1)) (h1 : S = false → 0 ≤ x ∧ x < 2 ^ W.toNat) : sval S W (x % 2 ^ W.toNat) = x := by
  cases B with
  | false => exact sval_of hm h0 h1
  | true =>
    have : S = false ∧ W = 1 := by unfold may at hm; simp at hm; exact hm
    obtain ⟨rfl, rfl⟩ := this
    exact sval_of (S := false) (by decide) h0 h1

theorem mod_isw' {B S : Bool} {W : Int} (x : Int) (hm : may B S W = true) : isw B S W (x % 2 ^ W.toNat) = true :=
  isw_mk hm (Int.emod_nonneg _ (Int.ne_of_gt (pow_pos' _))) (Int.emod_lt_of_pos _ (pow_pos' _))

/-- A type that holds all values of the first one. -/
def holdsB (S : Bool) (W : Int) (S' : Bool) (W' : Int) : Bool := ((S' == S) && decide (W ≤ W')) || (S' && !S && decide (W < W'))

theorem conv_sval {B S B' S' : Bool} {W W' a : Int} (ha : isw B S W a = true) (hm : may B' S' W' = true) (hh : holdsB S W S' W' = true) : sval S' W' (sval S W a % 2 ^ W'.toNat) = sval S W a := by
  obtain ⟨w1, w2, a0, a1⟩ := isw_bd ha
  have hbd := may_bounds hm
  unfold holdsB at hh; simp at hh
  refine sval_of' hm ?_ ?_
  · intro hS; subst hS
    cases S with
    | true =>
      have hs := sval_bd ha rfl
      have hle : (2 : Int) ^ (W.toNat - 1) ≤ 2 ^ (W'.toNat - 1) := by exact_mod_cast Nat.pow_le_pow_right (show 0 < 2 by decide) (show W.toNat - 1 ≤ W'.toNat - 1 by simp at hh; omega)
      omega
    | false =>
      have hle : (2 : Int) ^ W.toNat ≤ 2 ^ (W'.toNat - 1) := by exact_mod_cast Nat.pow_le_pow_right (show 0 < 2 by decide) (show W.toNat ≤ W'.toNat - 1 by simp at hh; omega)
      have hp := pow_pos' (W'.toNat - 1)
      show -(2 ^ (W'.toNat - 1)) ≤ a ∧ a < _
      omega
  · intro hS; subst hS
    cases S with
    | true => simp at hh
    | false =>
      have hle : (2 : Int) ^ W.toNat ≤ 2 ^ W'.toNat := by exact_mod_cast Nat.pow_le_pow_right (show 0 < 2 by decide) (show W.toNat ≤ W'.toNat by simp at hh; omega)
      show 0 ≤ a ∧ a < _
      omega

structure ConvF (B S : Bool) (W : Int) (B' S' : Bool) (W' a b : Int) : Prop where
  c1 : coV B S W B' S' W' a = b
  c2 : coE B S W B' S' W' a = 0
  c3 : isw B' S' W' b = true

theorem conv_facts {B S B' S' : Bool} {W W' a : Int} (ha : isw B S W a = true) (hm : may B' S' W' = true) (hb : (!B' || B) = true) : ConvF B S W B' S' W' a (sval S W a % 2 ^ W'.toNat) :=
  ⟨(conv_val ha hm hb).1, (conv_val ha hm hb).2, mod_isw' _ hm⟩

theorem conv_low {B S B' S' : Bool} {W W' a : Int} (x : Int) (ha : isw B S W a = true) (hm : may B' S' W' = true) (h1 : x ≤ W) (h2 : x ≤ W') (h0 : 0 ≤ x) :
    bits .and .u64 a (18446744073709551615 / 2 ^ (64 - x).toNat) = bits .and .u64 (sval S W a % 2 ^ W'.toNat) (18446744073709551615 / 2 ^ (64 - x).toNat) := by
  obtain ⟨w1, w2, a0, a1⟩ := isw_bd ha
  have e : (64 - x).toNat = 64 - x.toNat := by omega
  have hi := mod_isw' (sval S W a) hm
  rw [e, mask_and (isw_lt ha).1 (isw_lt ha).2 (by omega), mask_and (isw_lt hi).1 (isw_lt hi).2 (by omega)]
  exact (low_same (B := B) x.toNat ha (by omega) (by omega)).symm

theorem conv_value {B S B' S' : Bool} {W W' a : Int} (ha : isw B S W a = true) (hm : may B' S' W' = true) (hh : holdsB S W S' W' = true) :
    valOk B' S' W' (sval S W a % 2 ^ W'.toNat) = valOk B S W a ∧ valV B' S' W' (sval S W a % 2 ^ W'.toNat) = valV B S W a := by
  have hi := mod_isw' (sval S W a) hm
  have hs := conv_sval ha hm hh
  obtain ⟨w1, w2, a0, a1⟩ := isw_bd ha
  have hbd := may_bounds hm
  have e1 : valOk B' S' W' (sval S W a % 2 ^ W'.toNat) = valOk B S W a := by
    unfold valOk; rw [hi, ha]
    cases S' with
    | true =>
      cases S with
      | true => rfl
      | false =>
        unfold holdsB at hh; simp at hh
        have hle : (2 : Int) ^ W.toNat ≤ 2 ^ 63 := by exact_mod_cast Nat.pow_le_pow_right (show 0 < 2 by decide) (show W.toNat ≤ 63 by omega)
        have : a ≤ 9223372036854775807 := by omega
        simp [this]
    | false =>
      cases S with
      | true => unfold holdsB at hh; simp at hh
      | false =>
        have e2 : a % 2 ^ W'.toNat = a := hs
        show (true && (false || decide (a % 2 ^ W'.toNat ≤ _))) = _
        rw [e2]
  refine ⟨e1, ?_⟩
  unfold valV; rw [e1, hs]

theorem conv_back {B S B' S' : Bool} {W W' a : Int} (ha : isw B S W a = true) (hm : may B' S' W' = true) (hh : holdsB S W S' W' = true) (hb : (!B || B') = true) :
    coV B' S' W' B S W (sval S W a % 2 ^ W'.toNat) = a ∧ coE B' S' W' B S W (sval S W a % 2 ^ W'.toNat) = 0 := by
  have hi := mod_isw' (sval S W a) hm
  have := conv_val hi (isw_may ha) hb
  rw [conv_sval ha hm hh, sval_mod ha] at this
  exact this

theorem conv_bool {S : Bool} {W a W' : Int} (ha : isw true S W a = true) (h : 1 ≤ W' ∧ W' ≤ 64) : sval S W a % 2 ^ W'.toNat = a := by
  have hm := isw_may ha
  have : S = false ∧ W = 1 := by unfold may at hm; simp at hm; exact hm
  obtain ⟨rfl, rfl⟩ := this
  obtain ⟨-, -, a0, a1⟩ := isw_bd ha
  have hp := two_pow_pred W'.toNat (by omega)
  have hp2 := pow_pos' (W'.toNat - 1)
  have e : (2 : Int) ^ (1 : Int).toNat = 2 := by decide
  show a % _ = a
  exact Int.emod_eq_of_lt a0 (by omega)

end Go.Proofs.Ytmieddcgnaddiaa
