/-
  The walk of LitNumbers.
-/
import Derived.Test.YtbpiccbjnagodaaLitG
import Derived.Outline
namespace Go.Proofs.Ytbpiccbjnagodaa
open Go.RowKit Bits

theorem num_turned (f : Nat → Int) (k : Nat) : num (row k (fun i => 1 - f i)) = 2 ^ k - 1 - num (row k f) := by
  induction k with
  | zero => simp [row, num]
  | succ k ih => rw [row_num_succ, row_num_succ, ih, Int.pow_succ, Int.mul_sub]; omega
theorem notV_bt (a i : Nat) : notV (bt a i) = 1 - bt a i := by
  unfold notV; rcases bt_01 a i with h | h <;> rw [h] <;> rfl
theorem lit_bt (a i : Nat) : IsLit (bt a i) := by unfold IsLit; have := bt_01 a i; omega
theorem row_lit {k : Nat} {f : Nat → Int} (h : ∀ i, IsLit (f i)) (i : Nat) : IsLit ((row k f).getD i 0) := by
  by_cases hi : i < k
  · rw [row_getD _ _ _ hi]; exact h i
  · rw [List.getD_eq_getElem?_getD, List.getElem?_eq_none (by rw [row_length]; omega)]; unfold IsLit; simp
theorem pow_big (k : Nat) (hk : k ≤ 64) : (1 : Int) ≤ 2 ^ k ∧ (2 : Int) ^ k ≤ 18446744073709551616 := by
  have h1 : 1 ≤ 2 ^ k := Nat.one_le_two_pow
  have h2 : 2 ^ k ≤ 2 ^ 64 := Nat.pow_le_pow_right (by decide) hk
  have e : ((2 : Int) ^ k) = ((2 ^ k : Nat) : Int) := by push_cast; rfl
  rw [e]
  generalize 2 ^ k = x at *
  omega

/-- What the walk is told: N the number's lowest bits, M all ones, Z the rest. -/
structure NumK (a k : Nat) (N M Z : Int) : Prop where
  k1 : ∀ w, Calls Try.prog 22 #[.int .u64 a, .int .i64 k] w fun e w' => e = .returned (.slice (some ⟨w.heap.size, 0, none⟩) k k) ∧ w'.ownsRow w.heap.size 24 1 (.slice (some ⟨w.heap.size, 0, none⟩) k k) k ((row k (bt a)).map (Value.int .u32)) ∧ Below w.heap.size w w'
  k2 : ∀ (w : World) (b : Nat), w.ownsRow b 24 1 (.slice (some ⟨b, 0, none⟩) k k) k ((row k (bt a)).map (Value.int .u32)) → Calls Try.prog 23 #[.slice (some ⟨b, 0, none⟩) k k] w fun e w' => e = .returned (.tuple #[.int .u64 N, .bool true]) ∧ w = w'
  k3 : ∀ (w : World) (b : Nat), w.ownsRow b 24 1 (.slice (some ⟨b, 0, none⟩) k k) k ((row k (bt a)).map (Value.int .u32)) → Calls Try.prog 21 #[.slice (some ⟨b, 0, none⟩) k k] w fun e w' => e = .returned (.slice (some ⟨w.heap.size, 0, none⟩) k k) ∧ w'.ownsRow w.heap.size 24 1 (.slice (some ⟨w.heap.size, 0, none⟩) k k) k ((row k (fun i => 1 - bt a i)).map (Value.int .u32)) ∧ Below w.heap.size w w'
  k4 : ∀ (w : World) (b : Nat), w.ownsRow b 24 1 (.slice (some ⟨b, 0, none⟩) k k) k ((row k (fun i => 1 - bt a i)).map (Value.int .u32)) → Calls Try.prog 23 #[.slice (some ⟨b, 0, none⟩) k k] w fun e w' => e = .returned (.tuple #[.int .u64 Z, .bool true]) ∧ w = w'
  k5 : ∀ (w : World) (b j : Nat) (z : Int), 2 ≤ z → z < 4294967296 → j < k → w.ownsRow b 24 1 (.slice (some ⟨b, 0, none⟩) k k) k (((row k (bt a)).map (Value.int .u32)).set j (.int .u32 z)) → Calls Try.prog 23 #[.slice (some ⟨b, 0, none⟩) k k] w fun e w' => e = .returned (.tuple #[.int .u64 0, .bool false]) ∧ w = w'
  k6 : bits .and .u64 a M = N
  k7 : IntKind.u64.wrap (IntKind.u64.wrap (2 ^ k) - 1) = M
  k8 : IntKind.u64.wrap (M - N) = Z

theorem num_k (a k : Nat) (ha : a < 18446744073709551616) (hk : k ≤ 64) : NumK a k ((a % 2 ^ k : Nat) : Int) (2 ^ k - 1) (2 ^ k - 1 - ((a % 2 ^ k : Nat) : Int)) := by
  have hp := pow_big k hk
  have hm : a % 2 ^ k < 2 ^ k := Nat.mod_lt _ (Nat.two_pow_pos k)
  have hmi : ((a % 2 ^ k : Nat) : Int) < 2 ^ k := by exact_mod_cast hm
  have hm0 : 0 ≤ ((a % 2 ^ k : Nat) : Int) := Int.natCast_nonneg _
  refine { k1 := fun w => const_any a k ha hk w, k2 := ?_, k3 := ?_, k4 := ?_, k5 := ?_, k6 := ?_, k7 := ?_, k8 := ?_ }
  · intro w b h
    have h2 := number_yes (some ⟨b, 0, none⟩) k k (row k (bt a)) (row_01 (fun i _ => bt_01 a i)) hk w (Row.of_own h (row_length _ _) (by omega))
    rwa [num_bt] at h2
  · intro w b h
    have h2 := turn_any (some ⟨b, 0, none⟩) k k (row k (bt a)) (row_lit (lit_bt a)) (by omega) w (Row.of_own h (row_length _ _) (by omega))
    have e : row k (fun i => notV ((row k (bt a)).getD i 0)) = row k (fun i => 1 - bt a i) := row_congr (fun i hi => by rw [row_getD _ _ _ hi, notV_bt])
    rwa [e] at h2
  · intro w b h
    have h2 := number_yes (some ⟨b, 0, none⟩) k k (row k (fun i => 1 - bt a i)) (row_01 (fun i _ => by have := bt_01 a i; omega)) hk w (Row.of_own h (row_length _ _) (by omega))
    rwa [num_turned, num_bt] at h2
  · intro w b j z h2 hz hj h
    have e : ((row k (bt a)).map (Value.int .u32)).set j (.int .u32 z) = ((row k (bt a)).set j z).map (Value.int .u32) := by rw [List.map_set]
    rw [e] at h
    have hl : ((row k (bt a)).set j z).length = k := by rw [List.length_set, row_length]
    refine number_no (some ⟨b, 0, none⟩) k k j ((row k (bt a)).set j z) ?_ hk hj ?_ w (Row.of_own h hl (by omega))
    · intro i
      rw [List.getD_eq_getElem?_getD, List.getElem?_set]
      split
      · split
        · simp; unfold IsLit; omega
        · simp; unfold IsLit; omega
      · rw [← List.getD_eq_getElem?_getD]; exact row_lit (lit_bt a) i
    · rw [List.getD_eq_getElem?_getD, List.getElem?_set, if_pos rfl, if_pos (by rw [row_length]; exact hj)]; exact h2
  · rw [Num.and64 (by omega) (by omega) (by omega) (by omega)]
    have e : ((2 : Int) ^ k - 1).toNat = 2 ^ k - 1 := by
      have : ((2 : Int) ^ k) = ((2 ^ k : Nat) : Int) := by push_cast; rfl
      omega
    rw [e, Int.toNat_natCast, Nat.and_two_pow_sub_one_eq_mod]
  · rw [Num.w64, Num.w64]
    by_cases h : k = 64
    · subst h; decide
    · have h2 : (2 : Int) ^ k ≤ 2 ^ 63 := by exact_mod_cast Nat.pow_le_pow_right (show 0 < 2 by decide) (show k ≤ 63 by omega)
      omega
  · rw [Num.w64]; omega

set_option maxRecDepth 100000 in
set_option maxHeartbeats 4000000 in
theorem numbers_0 (a wd : Nat) (od at_ : Int) (HK : Hid (NumK a 0 0 0 0)) (hwd : (wd : Int) % 65 = 0) (hd : wd ≤ 255) (w : World) :
    Calls Try.prog 6 #[.int .u64 a, .int .u8 wd, .int .u32 od, .int .u8 at_] w fun e w' => e = .returned (.bool true) ∧ Below w.heap.size w w' := by
  have h6 := HK.out.k6
  have h00 : IntKind.u64.wrap 1 = 1 := rfl
  have h01 : IntKind.u64.wrap 0 = 0 := rfl
  go_enter Try.func6, Try.ntmps6
  go_wp2_with fail
  refine (HK.out.k1 _).mono ?_
  rintro e w2 ⟨rfl, ho0, hb⟩
  have ho := Lib.hid ho0
  clear ho0
  go_wp2_with fail
  refine (HK.out.k2 _ _ ho.out).mono ?_
  rintro e w3 ⟨rfl, rfl⟩
  go_wp2_with fail
  refine (HK.out.k3 _ _ ho.out).mono ?_
  rintro e w3 ⟨rfl, ho20, hb2⟩
  have ho2 := Lib.hid ho20
  have hB := nextw hb hb2
  clear ho20 hb hb2
  go_wp2_with fail
  refine (HK.out.k4 _ _ ho2.out).mono ?_
  rintro e w4 ⟨rfl, rfl⟩
  go_wp2_with fail
  go_wp2_with (go_at_call 19; refine (tells_any _).mono ?_; rintro e w4 ⟨rfl, hb2⟩)
  go_ret
  exact ⟨rfl, nextw hB hb2⟩

set_option maxRecDepth 100000 in
set_option maxHeartbeats 4000000 in
theorem numbers_any (a wd k j : Nat) (od at_ : Int) (N M Z : Int) (HK : Hid (NumK a k N M Z)) (hwd : (wd : Int) % 65 = k) (hk : k ≤ 64) (hk1 : 1 ≤ k) (hd : wd ≤ 255) (hod : od < 4294967296) (hat0 : 0 ≤ at_) (hat1 : at_ ≤ 255) (hj : at_ % (k : Int) = j) (hjk : j < k) (w : World) :
    Calls Try.prog 6 #[.int .u64 a, .int .u8 wd, .int .u32 od, .int .u8 at_] w fun e w' => e = .returned (.bool true) ∧ Below w.heap.size w w' := by
  have h6 := HK.out.k6
  have h7 := HK.out.k7
  have h8 := HK.out.k8
  have hk0 : ((k : Int) == 0) = false := by simp; omega
  by_cases ho2 : 2 ≤ od
  · go_enter Try.func6, Try.ntmps6
    go_wp2_with fail
    refine (HK.out.k1 _).mono ?_
    rintro e w2 ⟨rfl, ho0, hb⟩
    have ho := Lib.hid ho0
    clear ho0
    go_wp2_with fail
    refine (HK.out.k2 _ _ ho.out).mono ?_
    rintro e w3 ⟨rfl, rfl⟩
    go_wp2_with fail
    refine (HK.out.k3 _ _ ho.out).mono ?_
    rintro e w3 ⟨rfl, ho20, hb2⟩
    have ho2 := Lib.hid ho20
    have hB := nextw hb hb2
    have hoo := own_below ho.out hb2
    have hlt0 := own_lt hoo
    have hfr := hoo.frozenAt j
    obtain ⟨u, hu⟩ := own_some hoo (j := j) hjk
    have ho := Lib.hid hoo
    clear ho20 hb hb2 hoo
    go_wp2_with fail
    refine (HK.out.k4 _ _ ho2.out).mono ?_
    rintro e w4 ⟨rfl, rfl⟩
    go_wp2_with fail
    all_goals (refine (HK.out.k5 _ w.heap.size j od (by omega) (by omega) hjk (ho.out.stored j (.int .u32 od)).1).mono ?_; rintro e w4 ⟨rfl, rfl⟩)
    go_wp2_with (go_at_call 19; refine (tells_any _).mono ?_; rintro e w4 ⟨rfl, hb2⟩)
    all_goals go_ret
    all_goals exact ⟨rfl, nextw (hB.setCell (Nat.le_refl _) _) hb2⟩
  · have ho3 : od < 2 := by omega
    clear ho2
    go_enter Try.func6, Try.ntmps6
    go_wp2_with fail
    refine (HK.out.k1 _).mono ?_
    rintro e w2 ⟨rfl, ho0, hb⟩
    have ho := Lib.hid ho0
    clear ho0
    go_wp2_with fail
    refine (HK.out.k2 _ _ ho.out).mono ?_
    rintro e w3 ⟨rfl, rfl⟩
    go_wp2_with fail
    refine (HK.out.k3 _ _ ho.out).mono ?_
    rintro e w3 ⟨rfl, ho20, hb2⟩
    have ho2 := Lib.hid ho20
    have hB := nextw hb hb2
    have hoo := own_below ho.out hb2
    have hlt0 := own_lt hoo
    have hfr := hoo.frozenAt j
    obtain ⟨u, hu⟩ := own_some hoo (j := j) hjk
    have ho := Lib.hid hoo
    clear ho20 hb hb2 hoo
    go_wp2_with fail
    refine (HK.out.k4 _ _ ho2.out).mono ?_
    rintro e w4 ⟨rfl, rfl⟩
    go_wp2_with fail
    all_goals (refine (HK.out.k5 _ w.heap.size j 2 (by omega) (by omega) hjk (ho.out.stored j (.int .u32 2)).1).mono ?_; rintro e w4 ⟨rfl, rfl⟩)
    go_wp2_with (go_at_call 19; refine (tells_any _).mono ?_; rintro e w4 ⟨rfl, hb2⟩)
    all_goals go_ret
    all_goals exact ⟨rfl, nextw (hB.setCell (Nat.le_refl _) _) hb2⟩
end Go.Proofs.Ytbpiccbjnagodaa
