/-
  Shifts of words.
-/
import Derived.Test.YtmieddcgnaddiaaWordR
namespace Go.Proofs.Ytmieddcgnaddiaa
open Go.RowKit

theorem sval_mod {B S : Bool} {W a : Int} (ha : isw B S W a = true) : sval S W a % 2 ^ W.toNat = a := by
  obtain ⟨-, -, a0, a1⟩ := isw_bd ha
  unfold sval
  split
  · rw [Int.sub_emod_right]; exact Int.emod_eq_of_lt a0 a1
  · exact Int.emod_eq_of_lt a0 a1

theorem sval_of {S : Bool} {W x : Int} (hm : may false S W = true) (h0 : S = true → -(2 ^ (W.toNat - 1)) ≤ x ∧ x < 2 ^ (W.toNat - 1)) (h1 : S = false → 0 ≤ x ∧ x < 2 ^ W.toNat) : sval S W (x % 2 ^ W.toNat) = x := by
  have hbd := may_bounds hm
  have hp2 := two_pow_pred W.toNat (by omega)
  have hp3 := pow_pos' (W.toNat - 1)
  cases S with
  | false =>
    obtain ⟨l, u⟩ := h1 rfl
    rw [Int.emod_eq_of_lt l u]; rfl
  | true =>
    obtain ⟨l, u⟩ := h0 rfl
    by_cases hx : 0 ≤ x
    · rw [Int.emod_eq_of_lt hx (by omega)]
      unfold sval; rw [if_neg (by simp; omega)]
    · have e : x % 2 ^ W.toNat = x + 2 ^ W.toNat := by
        rw [← Int.add_emod_right]; exact Int.emod_eq_of_lt (by omega) (by omega)
      rw [e]; unfold sval; rw [if_pos (by simp; omega)]; omega

theorem ediv_range {x y l u : Int} (hy : 1 ≤ y) (hl : l ≤ 0) (hu : 0 < u) (h1 : l ≤ x) (h2 : x < u) : l ≤ x / y ∧ x / y < u := by
  constructor
  · rw [Int.le_ediv_iff_mul_le (by omega)]
    have : l * y ≤ l * 1 := Int.mul_le_mul_of_nonpos_left hl hy
    omega
  · rw [Int.ediv_lt_iff_lt_mul (by omega)]
    have : u * 1 ≤ u * y := Int.mul_le_mul_of_nonneg_left hy (by omega)
    omega

theorem sval_div {S : Bool} {W a : Int} (j : Nat) (ha : isw false S W a = true) : sval S W ((sval S W a / 2 ^ j) % 2 ^ W.toNat) = sval S W a / 2 ^ j := by
  have hm := isw_may ha
  have hp : (1 : Int) ≤ 2 ^ j := by have := pow_pos' j; omega
  refine sval_of hm ?_ ?_
  · intro hS
    have := sval_bd ha hS
    have h3 := pow_pos' (W.toNat - 1)
    exact ediv_range hp (by omega) h3 this.1 this.2
  · intro hS
    obtain ⟨-, -, a0, a1⟩ := isw_bd ha
    have e : sval S W a = a := by unfold sval; rw [hS]; rfl
    rw [e]
    exact ediv_range hp (Int.le_refl _) (pow_pos' _) a0 a1

theorem sh_e {S : Bool} {W a k : Int} (ha : isw false S W a = true) (h1 : -63 ≤ k) (h2 : k ≤ 63) : shE false S W a k = 0 := by
  have hk : shOk false S W a k = true := by simp [shOk, ha, h1, h2]
  unfold shE; rw [if_pos hk]

theorem sh_up {S : Bool} {W a k : Int} (ha : isw false S W a = true) (h1 : 0 ≤ k) (h2 : k ≤ 63) : shV false S W a k = (a * 2 ^ k.toNat) % 2 ^ W.toNat := by
  have hm := isw_may ha
  have hk : shOk false S W a k = true := by simp [shOk, ha, h2]; omega
  unfold shV; rw [if_pos hk, if_pos h1]
  unfold cut; rw [if_pos hm]
  exact wrap_mod (may_bounds hm) _

theorem sh_down {S : Bool} {W a k : Int} (ha : isw false S W a = true) (h1 : 0 ≤ k) (h2 : k ≤ 63) : shV false S W a (-k) = (sval S W a / 2 ^ k.toNat) % 2 ^ W.toNat := by
  have hm := isw_may ha
  have hk : shOk false S W a (-k) = true := by simp [shOk, ha]; omega
  obtain ⟨-, -, a0, a1⟩ := isw_bd ha
  by_cases h0 : k = 0
  · subst h0
    rw [show (-0 : Int) = 0 from rfl, sh_up ha (by omega) (by omega)]
    show (a * 1) % _ = (sval S W a / 1) % _
    rw [Int.mul_one, Int.ediv_one, sval_mod ha]; exact Int.emod_eq_of_lt a0 a1
  · unfold shV; rw [if_pos hk, if_neg (by omega), Int.neg_neg]
    cases S with
    | true =>
      rw [if_pos rfl]; unfold cut; rw [if_pos hm]; exact wrap_mod (may_bounds hm) _
    | false =>
      rw [if_neg (by decide)]
      have hp : (1 : Int) ≤ 2 ^ k.toNat := by have := pow_pos' k.toNat; omega
      have := ediv_range hp (Int.le_refl 0) (pow_pos' W.toNat) a0 a1
      show a / _ = (a / _) % _
      exact (Int.emod_eq_of_lt this.1 this.2).symm

theorem mod_isw {S : Bool} {W : Int} (x : Int) (hm : may false S W = true) : isw false S W (x % 2 ^ W.toNat) = true :=
  isw_mk hm (Int.emod_nonneg _ (Int.ne_of_gt (pow_pos' _))) (Int.emod_lt_of_pos _ (pow_pos' _))

theorem sh_back {S : Bool} {W a : Int} (j : Nat) (ha : isw false S W a = true) : ((sval S W a / 2 ^ j) % 2 ^ W.toNat * 2 ^ j) % 2 ^ W.toNat = a - a % 2 ^ j := by
  obtain ⟨w1, w2, a0, a1⟩ := isw_bd ha
  have hp := pow_pos' j
  rw [eml]
  by_cases h : j ≤ W.toNat
  · have hd : (2 : Int) ^ j ∣ 2 ^ W.toNat := ⟨2 ^ (W.toNat - j), by rw [← Int.pow_add]; congr 1; omega⟩
    have e1 : sval S W a / 2 ^ j * 2 ^ j = sval S W a - sval S W a % 2 ^ j := by
      have := Int.mul_ediv_add_emod (sval S W a) (2 ^ j)
      rw [Int.mul_comm]; omega
    have e2 : sval S W a % 2 ^ j = a % 2 ^ j := by
      have := sval_mod ha
      rw [← Int.emod_emod_of_dvd (sval S W a) hd, this]
    have e3 := Int.emod_nonneg a (Int.ne_of_gt hp)
    have e4 : a % 2 ^ j ≤ a := by
      have h5 := Int.mul_ediv_add_emod a (2 ^ j)
      have h6 : 0 ≤ 2 ^ j * (a / 2 ^ j) := Int.mul_nonneg (Int.le_of_lt hp) (Int.ediv_nonneg a0 (Int.le_of_lt hp))
      omega
    rw [e1, e2, Int.sub_emod, sval_mod ha]
    rw [show a % 2 ^ j % 2 ^ W.toNat = a % 2 ^ j from Int.emod_eq_of_lt e3 (by omega)]
    exact Int.emod_eq_of_lt (by omega) (by omega)
  · have hd : (2 : Int) ^ W.toNat ∣ 2 ^ j := ⟨2 ^ (j - W.toNat), by rw [← Int.pow_add]; congr 1; omega⟩
    have hlt : (2 : Int) ^ W.toNat ≤ 2 ^ j := by exact_mod_cast Nat.pow_le_pow_right (show 0 < 2 by decide) (show W.toNat ≤ j by omega)
    rw [Int.emod_eq_zero_of_dvd (Int.dvd_mul_of_dvd_right hd), Int.emod_eq_of_lt a0 (by omega)]; omega

theorem nat_clear (x j : Nat) (hx : x < 2 ^ 64) : x &&& (2 ^ 64 - 1 - (2 ^ j - 1)) = x / 2 ^ j * 2 ^ j := by
  by_cases hj : j ≤ 64
  · have h1 : 2 ^ j - 1 < 2 ^ 64 := by
      have := Nat.pow_le_pow_right (show 0 < 2 by decide) hj
      have := Nat.two_pow_pos j
      omega
    rw [show 2 ^ 64 - 1 - (2 ^ j - 1) = 2 ^ 64 - ((2 ^ j - 1) + 1) by omega]
    apply Nat.eq_of_testBit_eq
    intro i
    rw [Nat.testBit_and, Nat.testBit_two_pow_sub_succ h1, Nat.testBit_two_pow_sub_one, ← Nat.shiftRight_eq_div_pow, ← Nat.shiftLeft_eq, Nat.testBit_shiftLeft, Nat.testBit_shiftRight]
    by_cases hi : i < 64
    · by_cases hij : j ≤ i
      · simp [hi, hij, Nat.not_lt.2 hij]
      · simp [hi, hij, Nat.lt_of_not_le hij]
    · have hb : x.testBit i = false := Nat.testBit_lt_two_pow (Nat.lt_of_lt_of_le hx (Nat.pow_le_pow_right (by decide) (by omega)))
      by_cases hij : j ≤ i
      · rw [hb, show j + (i - j) = i by omega, hb]; simp
      · omega
  · have h1 : 2 ^ 64 - 1 - (2 ^ j - 1) = 0 := by
      have := Nat.pow_le_pow_right (show 0 < 2 by decide) (show 64 ≤ j by omega)
      omega
    rw [h1, Nat.and_zero, Nat.div_eq_of_lt (Nat.lt_of_lt_of_le hx (Nat.pow_le_pow_right (by decide) (by omega))), Nat.zero_mul]

theorem bits_andNot {a : Int} {j : Nat} (ha : 0 ≤ a) (ha' : a < 18446744073709551616) (hj : j ≤ 63) : bits .andNot .u64 a (2 ^ j - 1) = a - a % 2 ^ j := by
  show IntKind.u64.wrap ((BitVec.ofInt 64 a &&& ~~~(BitVec.ofInt 64 (2 ^ j - 1))).toNat : Int) = _
  have hp := pow_pos' j
  have hle : (2 : Int) ^ j ≤ 2 ^ 63 := by exact_mod_cast Nat.pow_le_pow_right (show 0 < 2 by decide) hj
  have e1 : (2 ^ j - 1 : Int).toNat = 2 ^ j - 1 := by
    have : ((2 ^ j : Nat) : Int) = 2 ^ j := by exact_mod_cast rfl
    omega
  rw [BitVec.toNat_and, BitVec.toNat_not, ofInt_nat ha ha', ofInt_nat (by omega) (by omega), e1, nat_clear _ _ (toNat_lt ha'), u64_nat]
  · have h1 := Int.mul_ediv_add_emod a (2 ^ j)
    have h2 : ((a.toNat / 2 ^ j * 2 ^ j : Nat) : Int) = a / 2 ^ j * 2 ^ j := by
      push_cast
      rw [Int.toNat_of_nonneg ha]
    rw [h2, Int.mul_comm]; omega
  · have := Nat.div_mul_le_self a.toNat (2 ^ j)
    omega

structure ShiftF (S : Bool) (W a j k : Int) (up all down low back : Int) : Prop where
  u1 : shV false S W a j = up
  u2 : shE false S W a j = 0
  u3 : shV false S W up k = all
  u4 : shE false S W up k = 0
  u5 : shV false S W a (j + k) = all
  u6 : shE false S W a (j + k) = 0
  u7 : shV false S W a (-j) = down
  u8 : shE false S W a (-j) = 0
  u9 : shV false S W down (-k) = low
  u10 : shE false S W down (-k) = 0
  u11 : shV false S W a (-j - k) = low
  u12 : shE false S W a (-j - k) = 0
  u13 : shV false S W down j = back
  u14 : shE false S W down j = 0
  u15 : two 6 false S W a (cut false S W (2 ^ j.toNat)) = up
  u16 : bits .andNot .u64 a (2 ^ j.toNat - 1) = back
  u17 : shE false S W a (-63) = 0
  u18 : valOk false S W a = true → valOk false S W down = true ∧ valV false S W down = valV false S W a / 2 ^ j.toNat

theorem shift_facts {S : Bool} {W a j k : Int} (ha : isw false S W a = true) (j0 : 0 ≤ j) (j1 : j ≤ 31) (k0 : 0 ≤ k) (k1 : k ≤ 31) :
    ∃ up all down low back, ShiftF S W a j k up all down low back := by
  have hm := isw_may ha
  have hbd := may_bounds hm
  obtain ⟨-, -, a0, a1⟩ := isw_bd ha
  have hup : isw false S W (shV false S W a j) = true := by rw [sh_up ha j0 (by omega)]; exact mod_isw _ hm
  have hdn : isw false S W (shV false S W a (-j)) = true := by rw [sh_down ha j0 (by omega)]; exact mod_isw _ hm
  have ejk : (j + k).toNat = j.toNat + k.toNat := by omega
  refine ⟨_, _, _, _, _, ⟨rfl, sh_e ha (by omega) (by omega), rfl, sh_e hup (by omega) (by omega), ?_, sh_e ha (by omega) (by omega), rfl, sh_e ha (by omega) (by omega), rfl, sh_e hdn (by omega) (by omega), ?_, sh_e ha (by omega) (by omega), rfl, sh_e hdn (by omega) (by omega), ?_, ?_, sh_e ha (by omega) (by omega), ?_⟩⟩
  · rw [sh_up ha (by omega) (by omega), sh_up hup k0 (by omega), sh_up ha j0 (by omega), eml, ejk, Int.pow_add, Int.mul_assoc]
  · rw [show -j - k = -(j + k) by omega, sh_down ha (by omega) (by omega), sh_down hdn k0 (by omega), sh_down ha j0 (by omega), sval_div _ ha, ejk, Int.pow_add, Int.ediv_ediv_of_nonneg (Int.le_of_lt (pow_pos' _))]
  · rw [mul_eq ha (cut_isw hm), sh_up ha j0 (by omega)]
    unfold cut; rw [if_pos hm, emr]
  · rw [sh_up hdn j0 (by omega), sh_down ha j0 (by omega), sh_back _ ha, bits_andNot (isw_lt ha).1 (isw_lt ha).2 (by omega)]
  · intro hv
    have e1 : sval S W (shV false S W a (-j)) = sval S W a / 2 ^ j.toNat := by rw [sh_down ha j0 (by omega), sval_div _ ha]
    have hok : valOk false S W (shV false S W a (-j)) = true := by
      unfold valOk; rw [hdn]
      cases S with
      | true => rfl
      | false =>
        unfold valOk at hv; rw [ha] at hv; simp at hv
        simp
        have e2 : shV false false W a (-j) = a / 2 ^ j.toNat := e1
        rw [e2]
        have := ediv_range (l := 0) (u := 9223372036854775808) (show (1 : Int) ≤ 2 ^ j.toNat by have := pow_pos' j.toNat; omega) (Int.le_refl _) (by decide) a0 (by omega)
        omega
    refine ⟨hok, ?_⟩
    unfold valV; rw [if_pos hok, if_pos hv, e1]

/-- As many as there are, and more: nothing is left but the sign. -/
theorem shift_end {S : Bool} {W a : Int} (ha : isw false S W a = true) (hW : (W == 64) = false) :
    (S = false ∧ shV false S W a (-63) = 0) ∨ (S = true ∧ (shV false S W a (-63) = 0 ∨ ((shV false S W a (-63) == 0) = false ∧ shV false S W a (-63) = cut false S W 18446744073709551615))) := by
  have hm := isw_may ha
  have hbd := may_bounds hm
  obtain ⟨-, -, a0, a1⟩ := isw_bd ha
  have hW' : W.toNat ≤ 63 := by have := beq_eq_false_iff_ne.1 hW; omega
  have hp := pow_pos' W.toNat
  have hle : (2 : Int) ^ W.toNat ≤ 2 ^ 63 := by exact_mod_cast Nat.pow_le_pow_right (show 0 < 2 by decide) hW'
  have es := sh_down (k := 63) ha (by omega) (by omega)
  cases S with
  | false =>
    refine .inl ⟨rfl, ?_⟩
    rw [es]
    show (a / 2 ^ 63) % _ = 0
    rw [Int.ediv_eq_zero_of_lt a0 (by omega)]; rfl
  | true =>
    refine .inr ⟨rfl, ?_⟩
    have hs := sval_bd ha rfl
    have hp2 := two_pow_pred W.toNat (by omega)
    by_cases h0 : 0 ≤ sval true W a
    · left; rw [es]
      show (sval true W a / 2 ^ 63) % _ = 0
      rw [Int.ediv_eq_zero_of_lt h0 (by omega)]; rfl
    · have e1 : shV false true W a (-63) = 2 ^ W.toNat - 1 := by
        rw [es]
        show (sval true W a / 2 ^ 63) % _ = _
        have e2 : sval true W a / 2 ^ 63 = -1 := by
          have := Int.mul_ediv_add_emod (sval true W a) (2 ^ 63)
          have h5 := Int.emod_nonneg (sval true W a) (show (2 : Int) ^ 63 ≠ 0 by decide)
          have h6 := Int.emod_lt_of_pos (sval true W a) (show (0 : Int) < 2 ^ 63 by decide)
          omega
        rw [e2, ← Int.add_emod_right, Int.emod_eq_of_lt (by omega) (by omega)]; omega
      refine .inr ⟨beq_eq_false_iff_ne.2 (by omega), ?_⟩
      rw [e1]
      unfold cut; rw [if_pos hm]
      have e4 := pow_split W.toNat (by omega)
      have e2 : (18446744073709551615 : Int) = (2 ^ W.toNat - 1) + 2 ^ W.toNat * (2 ^ (64 - W.toNat) - 1) := by rw [Int.mul_sub, ← e4]; omega
      rw [e2, Int.add_mul_emod_self_left, Int.emod_eq_of_lt (by omega) (by omega)]

end Go.Proofs.Ytmieddcgnaddiaa
