/-
  Walks over the document's own answers for layer 1: words.
-/
import Derived.Test.YtmieddcgnaddiaaRefA
import Derived.Test.YtmieddcgnaddiaaWordR
import Derived.StillTailTactics
namespace Go.Proofs.Ytmieddcgnaddiaa
open Go.RowKit Bits

set_option maxHeartbeats 400000 in
theorem rmay_any (B S : Bool) (W : Int) (w : World) :
    Calls Try.prog 26 #[.agg #[.bool B, .bool S, .int .i64 W]] w fun e w' => e = .returned (.bool (may B S W)) ∧ Below w.heap.size w w' := by
  go_enter Try.func26, Try.ntmps26
  go_wp2
  all_goals (go_ret; refine ⟨?_, (Below.refl _ _).alloc (Nat.le_refl _) _⟩; simp [may, *]; try omega)

theorem bt_row (a k : Nat) : All01 (row k (bt a)) := row_01 (fun i _ => bt_01 a i)
theorem num_mod {a k : Nat} : num (row k (bt a)) = (a : Int) % 2 ^ k := by rw [num_bt]; push_cast; rfl

set_option maxHeartbeats 1000000 in
theorem ris_any (B S : Bool) (W : Int) (a : Nat) (ha : a < 18446744073709551616) (w : World) :
    Calls Try.prog 36 #[.agg #[.bool B, .bool S, .int .i64 W], .int .u64 a] w fun e w' => e = .returned (.bool (isw B S W a)) ∧ Below w.heap.size w w' := by
  by_cases hm : may B S W = true
  · have hbd := may_bounds hm
    obtain ⟨k, rfl⟩ := Int.eq_ofNat_of_zero_le (show 0 ≤ W by omega)
    have hfin : Hid (isw B S k a = (num (row k (bt a)) == (a : Int))) := by
      show _ = _; unfold isw cut; rw [hm, if_pos rfl, num_mod]; rfl
    have hk1 : 1 ≤ k := by omega
    have hk2 : k ≤ 64 := by omega
    clear hbd
    go_enter Try.func36, Try.ntmps36
    go_wp2_with (first
      | (go_at_call 26; refine (rmay_any _ _ _ _).mono ?_; rintro e w2 ⟨rfl, hb2⟩; have hn := box3 (T := 23) hb2; clear hb2; obtain ⟨hB, hz, c0, c1, c2⟩ := hn)
      | (go_at_call 28; refine (bits_any a k ha hk1 hk2 _).mono ?_; rintro e w2 ⟨g, rfl, hsl, hb2⟩; have hn := step3 hB hz (by omega) c0 c1 c2 hb2; clear hB hz c0 c1 c2 hb2; obtain ⟨hB, hz, c0, c1, c2⟩ := hn)
      | (go_at_call 27; refine (number_any _ k _ (row k (bt a)) (row_length _ _) (bt_row a k) hk1 hk2 _ hsl).mono ?_; rintro e w3 ⟨rfl, rfl⟩))
    go_ret
    exact ⟨ret_bool hfin.out.symm, hB⟩
  · simp at hm
    have hfin : Hid (isw B S W a = false) := by show _ = _; unfold isw; rw [hm]; rfl
    go_enter Try.func36, Try.ntmps36
    go_wp2_with (first
      | (go_at_call 26; refine (rmay_any _ _ _ _).mono ?_; rintro e w2 ⟨rfl, hb2⟩; have hn := box3 (T := 23) hb2; clear hb2; obtain ⟨hB, hz, c0, c1, c2⟩ := hn))
    go_ret
    exact ⟨ret_bool hfin.out.symm, hB⟩

set_option maxHeartbeats 1000000 in
theorem rcut_any (B S : Bool) (W : Int) (a : Nat) (ha : a < 18446744073709551616) (w : World) :
    Calls Try.prog 9 #[.agg #[.bool B, .bool S, .int .i64 W], .int .u64 a] w fun e w' => e = .returned (.int .u64 (cut B S W a)) ∧ Below w.heap.size w w' := by
  by_cases hm : may B S W = true
  · have hbd := may_bounds hm
    obtain ⟨k, rfl⟩ := Int.eq_ofNat_of_zero_le (show 0 ≤ W by omega)
    have hfin : Hid (cut B S k a = num (row k (bt a))) := by
      show _ = _; unfold cut; rw [hm, if_pos rfl, num_mod]; rfl
    have hk1 : 1 ≤ k := by omega
    have hk2 : k ≤ 64 := by omega
    clear hbd
    go_enter Try.func9, Try.ntmps9
    go_wp2_with (first
      | (go_at_call 26; refine (rmay_any _ _ _ _).mono ?_; rintro e w2 ⟨rfl, hb2⟩; have hn := box3 (T := 23) hb2; clear hb2; obtain ⟨hB, hz, c0, c1, c2⟩ := hn)
      | (go_at_call 28; refine (bits_any a k ha hk1 hk2 _).mono ?_; rintro e w2 ⟨g, rfl, hsl, hb2⟩; have hn := step3 hB hz (by omega) c0 c1 c2 hb2; clear hB hz c0 c1 c2 hb2; obtain ⟨hB, hz, c0, c1, c2⟩ := hn)
      | (go_at_call 27; refine (number_any _ k _ (row k (bt a)) (row_length _ _) (bt_row a k) hk1 hk2 _ hsl).mono ?_; rintro e w3 ⟨rfl, rfl⟩))
    go_ret
    exact ⟨ret_int hfin.out.symm, hB⟩
  · simp at hm
    have hfin : Hid (cut B S W a = 0) := by show _ = _; unfold cut; rw [hm]; rfl
    go_enter Try.func9, Try.ntmps9
    go_wp2_with (first
      | (go_at_call 26; refine (rmay_any _ _ _ _).mono ?_; rintro e w2 ⟨rfl, hb2⟩; have hn := box3 (T := 23) hb2; clear hb2; obtain ⟨hB, hz, c0, c1, c2⟩ := hn))
    go_ret
    exact ⟨ret_int hfin.out.symm, hB⟩

/-- All bits turned of nothing. -/
theorem ones_eq {B S : Bool} {k : Nat} (hm : may B S k = true) : num (row k (fun i => 1 - (row k (bt 0)).getD i 0)) = neutV 1 B S k := by
  have hbd := may_bounds hm
  have e : row k (fun i => 1 - (row k (bt 0)).getD i 0) = row k (fun i => 1 - bt 0 i) := row_congr (fun i hi => by rw [row_getD _ _ _ hi])
  rw [e, num_turn, num_mod]
  show _ = cut B S k 18446744073709551615
  unfold cut; rw [if_pos hm, Int.toNat_natCast]
  have es := pow_split k (by omega)
  have hp := pow_pos' k
  have e2 : (18446744073709551615 : Int) = (2 ^ k - 1) + 2 ^ k * (2 ^ (64 - k) - 1) := by rw [Int.mul_sub, ← es]; omega
  have e3 : (18446744073709551615 : Int) % 2 ^ k = 2 ^ k - 1 := by rw [e2, Int.add_mul_emod_self_left, Int.emod_eq_of_lt (by omega) (by omega)]
  have e4 : (((0 : Nat) : Int)) % 2 ^ k = 0 := by simp
  rw [e3, e4, Int.sub_zero]

theorem turn_01 {k : Nat} {l : List Int} (h : All01 l) : All01 (row k (fun i => 1 - l.getD i 0)) := row_01 (fun i _ => by have := getD_01 h i; omega)

set_option maxHeartbeats 1000000 in
theorem rone_any (B S : Bool) (W : Int) (hm : may B S W = true) (w : World) :
    Calls Try.prog 30 #[.int .i64 1, .agg #[.bool B, .bool S, .int .i64 W], .int .u64 0] w fun e w' => e = .returned (.tuple #[.int .u64 (neutV 1 B S W), .int .i64 0]) ∧ Below w.heap.size w w' := by
  have hbd := may_bounds hm
  obtain ⟨k, rfl⟩ := Int.eq_ofNat_of_zero_le (show 0 ≤ W by omega)
  have hfin := Lib.hid (ones_eq hm)
  have hi : isw B S k ((0 : Nat) : Int) = true := isw_mk hm (by decide) (by have := pow_pos' k; simpa using this)
  have hk1 : 1 ≤ k := by omega
  have hk2 : k ≤ 64 := by omega
  have hbits := Lib.hid (bits_any 0 k (by decide) hk1 hk2)
  have his := Lib.hid (ris_any B S k 0 (by decide))
  clear hbd
  go_enter Try.func30, Try.ntmps30
  go_wp2_with (first
    | (go_at_call 36; refine (his.out _).mono ?_; rintro e w2 ⟨rfl, hb2⟩; have hn := box3 (T := 23) hb2; clear hb2; obtain ⟨hB, hz, c0, c1, c2⟩ := hn; simp only [hi])
    | (go_at_call 28; refine (hbits.out _).mono ?_; rintro e w2 ⟨g, rfl, hsl, hb2⟩; have hn := step3 hB hz (by omega) c0 c1 c2 hb2; clear hB hz c0 c1 c2 hb2; obtain ⟨hB, hz, c0, c1, c2⟩ := hn)
    | (go_at_call 37; refine (turned_any _ k _ (row k (bt 0)) (row_length _ _) (bt_row 0 k) hk1 hk2 _ hsl).mono ?_; rintro e w2 ⟨g', cap', rfl, hsl2, hb2⟩; have hn := step3 hB hz (by omega) c0 c1 c2 hb2; clear hB hz c0 c1 c2 hb2; obtain ⟨hB, hz, c0, c1, c2⟩ := hn)
    | (go_at_call 27; refine (number_any _ k _ _ (row_length _ _) (turn_01 (bt_row 0 k)) hk1 hk2 _ hsl2).mono ?_; rintro e w3 ⟨rfl, rfl⟩))
  go_ret2
  exact ⟨ret_int2 hfin.out rfl, hB⟩
end Go.Proofs.Ytmieddcgnaddiaa
