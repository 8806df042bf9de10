/-
  Package trace: a reader's digits, numbers, names.
-/
import Derived.Test.YtnhpjacodhdpeaaDoorTrH
namespace Go.Proofs.YtnhpjacodhdpeaaDoor
open Go.RowKit Go.Maps Bits
set_option maxRecDepth 100000

theorem digP_lt (c : UInt8) : (digP c).1 < 16 := by
  unfold digP; split
  · simp; omega
  · split <;> simp; omega
theorem digit_any (c : UInt8) (w : World) :
    Calls Tryd.prog 175 #[.int .u8 (c.toNat : Int)] w fun e w' => e = .returned (.tuple #[.int .u64 ((digP c).1 : Int), .bool (digP c).2]) ∧ w = w' := by
  have hc : c.toNat < 256 := c.toNat_lt
  unfold digP
  generalize c.toNat = x at *
  by_cases h1 : 48 ≤ x ∧ x ≤ 57
  · rw [if_pos h1]
    have g1 : (48 : Int) ≤ x := by omega
    have g2 : (x : Int) ≤ 57 := by omega
    have g3 : IntKind.u8.wrap ((x : Int) - 48) = ((x - 48 : Nat) : Int) := by simp [IntKind.wrap, IntKind.bits, IntKind.signed]; omega
    have g4 : IntKind.u64.wrap ((x - 48 : Nat) : Int) = ((x - 48 : Nat) : Int) := Num.nat64 (by omega)
    generalize x - 48 = y at *
    go_enter Tryd.func175, Tryd.ntmps175
    go_wp2
    go_ret2
    exact ⟨rfl, rfl⟩
  rw [if_neg h1]
  by_cases h2 : 97 ≤ x ∧ x ≤ 102
  · rw [if_pos h2]
    have g0 : ¬ (x : Int) ≤ 57 := by omega
    have g1 : (97 : Int) ≤ x := by omega
    have g2 : (x : Int) ≤ 102 := by omega
    have g3 : IntKind.u8.wrap ((x : Int) - 97) = ((x - 97 : Nat) : Int) := by simp [IntKind.wrap, IntKind.bits, IntKind.signed]; omega
    have g4 : IntKind.u64.wrap ((x - 97 : Nat) : Int) = ((x - 97 : Nat) : Int) := Num.nat64 (by omega)
    have g5 : IntKind.u64.wrap (((x - 97 : Nat) : Int) + 10) = ((x - 87 : Nat) : Int) := by rw [Num.w64]; omega
    generalize x - 97 = y at *
    generalize x - 87 = z at *
    have g6 : (48 : Int) ≤ x := by omega
    go_enter Tryd.func175, Tryd.ntmps175
    go_wp2
    go_ret2
    exact ⟨rfl, rfl⟩
  rw [if_neg h2]
  go_enter Tryd.func175, Tryd.ntmps175
  go_wp2
  all_goals first | (exfalso; omega) | (go_ret2; exact ⟨rfl, rfl⟩)

/-- What a step of a number is, case by case. -/
theorem numP_end {base least most k n : Nat} {c : UInt8} {l : List UInt8} (h : (digP c).2 = false ∨ base ≤ (digP c).1) : numP base least most k n (c :: l) = if 0 < k then .ok ((n, c), l) else .error 5 := by
  rw [numP, if_pos h]
theorem numP_go {base least most k n : Nat} {c : UInt8} {l : List UInt8} (h : ¬ ((digP c).2 = false ∨ base ≤ (digP c).1)) (h2 : (k = 0 ∨ 0 < n) ∧ ((digP c).1 ≤ most ∧ n ≤ (most - (digP c).1) / base) ∧ least ≤ n * base + (digP c).1) :
    numP base least most k n (c :: l) = numP base least most (k + 1) (n * base + (digP c).1) l := by
  rw [numP, if_neg h, if_pos h2]
theorem numP_no {base least most k n : Nat} {c : UInt8} {l : List UInt8} (h : ¬ ((digP c).2 = false ∨ base ≤ (digP c).1)) (h2 : ¬ ((k = 0 ∨ 0 < n) ∧ ((digP c).1 ≤ most ∧ n ≤ (most - (digP c).1) / base) ∧ least ≤ n * base + (digP c).1)) :
    numP base least most k n (c :: l) = .error 5 := by
  rw [numP, if_neg h, if_neg h2]
def NumV (x : Nat × UInt8) (e : Ending) (_ : World) : Prop := e = .returned (.tuple #[.int .u64 (x.1 : Int), .int .u8 (x.2.toNat : Int)])
theorem PO.bad {α : Type} {w w' : World} {r : Nat} {x : Except Nat (α × List UInt8)} {V : α → Ending → World → Prop} {n : Nat} (h : KR r w w') (hx : x = .error n) : PO w r x V (.panicked (WP n)) w' := by
  subst hx; exact ⟨h, rfl⟩
theorem PO.good {α : Type} {w w' : World} {r : Nat} {x : Except Nat (α × List UInt8)} {V : α → Ending → World → Prop} {v : α} {l : List UInt8} {e : Ending} (h : KR r w w') (hx : x = .ok (v, l)) (hr : Rd w' r l) (hv : V v e w') : PO w r x V e w' := by
  subst hx; exact ⟨h, hr, hv⟩

set_option maxHeartbeats 8000000 in
theorem number_any {w : World} {r : Nat} {l : List UInt8} (h : Rd w r l) (base least most : Nat) (hb1 : 2 ≤ base) (hb2 : base ≤ 16) (hm : most < 18446744073709551616) (hl : least < 18446744073709551616) (hlen : l.length ≤ 9223372036854775000) :
    Calls Tryd.prog 166 #[.pointer (some ⟨r, 0, none⟩), .int .u64 base, .int .u64 least, .int .u64 most] w fun e w' => PO w r (numP base least most 0 0 l) NumV e w' := by
  have hyes := Lib.hid (fun w => must_yes w)
  have hno := Lib.hid (fun w => must_no w)
  have hdg := Lib.hid (fun c w => digit_any c w)
  have H := Lib.hid h
  generalize hP : numP base least most 0 0 l = P
  have hP := Lib.hid hP
  clear h
  go_enter Tryd.func166, Tryd.ntmps166
  go_wp2
  go_loopw [10, 8] (fun i x wr => ∃ (k n : Nat) (l2 : List UInt8), i = .int .i64 k ∧ x = .int .u64 n ∧ k + l2.length = l.length ∧ n ≤ most ∧ Hid (KR r w wr) ∧ Hid (Rd wr r l2) ∧ Hid (numP base least most k n l2 = P)) (fun i _ _ => l.length - (intOf i).toNat)
  case atStart => exact ⟨0, 0, l, rfl, rfl, by omega, by omega, Lib.hid (KR.refl _ _), H, hP⟩
  case round =>
    clear hP H
    obtain ⟨k, n, l2, rfl, rfl, hk, hn, hK, hR, hP⟩ := hrel
    have hnx := Lib.hid (next_any hR.out)
    cases l2 with
    | nil =>
      have hbad : Hid (P = .error 4) := Lib.hid hP.out.symm
      clear hP hR
      go_wp2_with (go_at_call 174; (with_reducible refine hnx.out.mono ?_); rintro e w2 ⟨hk2, he⟩; obtain rfl : e = .panicked (WP 4) := he)
      exact ⟨rfl, PO.bad (hK.out.trans hk2) hbad.out⟩
    | cons c l2 =>
      have hdc := Lib.hid (hdg.out c)
      have hd16 := digP_lt c
      have hkl : k + 1 ≤ l.length := by simp at hk; omega
      have hend := Lib.hid (fun h => (numP_end (base := base) (least := least) (most := most) (k := k) (n := n) (c := c) (l := l2) h).symm.trans hP.out)
      have hgo := Lib.hid (fun h h2 => (numP_go (base := base) (least := least) (most := most) (k := k) (n := n) (c := c) (l := l2) h h2).symm.trans hP.out)
      have hbd := Lib.hid (fun h h2 => (numP_no (base := base) (least := least) (most := most) (k := k) (n := n) (c := c) (l := l2) h h2).symm.trans hP.out)
      clear hP hdg hR
      generalize (digP c).1 = d at *
      generalize (digP c).2 = is at *
      go_upto_region 5 with (first
        | (go_at_call 174; (with_reducible refine hnx.out.mono ?_); rintro e w2 ⟨hk2, hr2, he⟩; obtain rfl : e = .returned (.int .u8 (c.toNat : Int)) := he; have hK2 := Lib.hid (hK.out.trans hk2); have hR2 := Lib.hid hr2; clear hk2 hr2)
        | (go_at_call 175; (with_reducible refine (hdc.out _).mono ?_); rintro e w3 ⟨rfl, rfl⟩))
      clear hnx hdc hK
      by_cases hE : is = false ∨ base ≤ d
      · have r := Lib.hid (hend.out hE)
        clear hend hgo hbd
        have hg : (!is || decide ((base : Int) ≤ d)) = true := by
          rcases hE with h | h
          · simp [h]
          · simp; right; omega
        by_cases hk0 : 0 < k
        · have hkI : (0 : Int) < k := by omega
          rw [if_pos hk0] at r
          rcases hE with rfl | hE
          · go_wp2_with (go_at_call 138; (with_reducible refine (hyes.out _).mono ?_); rintro e w4 ⟨rfl, rfl⟩)
            go_ret2
            exact PO.good hK2.out r.out.symm hR2.out rfl
          · have hEI : (base : Int) ≤ d := by omega
            cases is
            · go_wp2_with (go_at_call 138; (with_reducible refine (hyes.out _).mono ?_); rintro e w4 ⟨rfl, rfl⟩)
              go_ret2
              exact PO.good hK2.out r.out.symm hR2.out rfl
            · go_wp2_with (go_at_call 138; (with_reducible refine (hyes.out _).mono ?_); rintro e w4 ⟨rfl, rfl⟩)
              go_ret2
              exact PO.good hK2.out r.out.symm hR2.out rfl
        · obtain rfl : k = 0 := by omega
          rw [if_neg hk0] at r
          rcases hE with rfl | hE
          · go_wp2_with (go_at_call 138; (with_reducible refine (hno.out _).mono ?_); rintro e w4 ⟨rfl, rfl⟩)
            exact ⟨rfl, PO.bad hK2.out r.out.symm⟩
          · have hEI : (base : Int) ≤ d := by omega
            cases is
            · go_wp2_with (go_at_call 138; (with_reducible refine (hno.out _).mono ?_); rintro e w4 ⟨rfl, rfl⟩)
              exact ⟨rfl, PO.bad hK2.out r.out.symm⟩
            · go_wp2_with (go_at_call 138; (with_reducible refine (hno.out _).mono ?_); rintro e w4 ⟨rfl, rfl⟩)
              exact ⟨rfl, PO.bad hK2.out r.out.symm⟩
      · have hbd2 := Lib.hid (hbd.out hE)
        have hgo2 := Lib.hid (hgo.out hE)
        clear hend hgo hbd
        obtain rfl : is = true := by cases is <;> simp_all
        have hdb : d < base := by omega
        have hdbI : ¬ (base : Int) ≤ d := by omega
        clear hE
        by_cases hZ : ¬ (k = 0 ∨ 0 < n)
        · have r := Lib.hid (hbd2.out (fun h => hZ h.1))
          have e1 : ¬ (k : Int) = 0 := by omega
          have e2 : ¬ (0 : Int) < n := by omega
          have e3 : ¬ k = 0 := by omega
          have e6 : ¬ 0 < n := by omega
          have e8 : ((k : Int) == 0) = false := by simp; omega
          clear hbd2 hgo2
          go_wp2_with (first | (go_at_call 138; (with_reducible refine (hyes.out _).mono ?_); rintro e w4 ⟨rfl, rfl⟩) | (go_at_call 138; (with_reducible refine (hno.out _).mono ?_); rintro e w4 ⟨rfl, rfl⟩))
          exact ⟨rfl, PO.bad hK2.out r.out.symm⟩
        have hZ' : k = 0 ∨ 0 < n := by omega
        clear hZ
        by_cases hM1 : most < d
        · have r := Lib.hid (hbd2.out (fun h => by omega))
          have e3 : ¬ (d : Int) ≤ most := by omega
          clear hbd2 hgo2
          rcases hZ' with e1 | e1
          · have e2 : (k : Int) = 0 := by omega
            go_wp2_with (first | (go_at_call 138; (with_reducible refine (hyes.out _).mono ?_); rintro e w4 ⟨rfl, rfl⟩) | (go_at_call 138; (with_reducible refine (hno.out _).mono ?_); rintro e w4 ⟨rfl, rfl⟩))
            exact ⟨rfl, PO.bad hK2.out r.out.symm⟩
          · have e2 : ¬ (k : Int) = 0 ∨ (k : Int) = 0 := by omega
            have e4 : (0 : Int) < n := by omega
            rcases e2 with e2 | e2
            · have e5 : ¬ k = 0 := by omega
              have e6 : 0 < n := by omega
              go_wp2_with (first | (go_at_call 138; (with_reducible refine (hyes.out _).mono ?_); rintro e w4 ⟨rfl, rfl⟩) | (go_at_call 138; (with_reducible refine (hno.out _).mono ?_); rintro e w4 ⟨rfl, rfl⟩))
              exact ⟨rfl, PO.bad hK2.out r.out.symm⟩
            · have e5 : k = 0 := by omega
              go_wp2_with (first | (go_at_call 138; (with_reducible refine (hyes.out _).mono ?_); rintro e w4 ⟨rfl, rfl⟩) | (go_at_call 138; (with_reducible refine (hno.out _).mono ?_); rintro e w4 ⟨rfl, rfl⟩))
              exact ⟨rfl, PO.bad hK2.out r.out.symm⟩
        have hM1' : (d : Int) ≤ most := by omega
        have hM1n : d ≤ most := by omega
        obtain ⟨md, hmd⟩ : ∃ md, md = most - d := ⟨_, rfl⟩
        rw [← hmd] at hbd2 hgo2
        have f1 : IntKind.u64.wrap ((most : Int) - d) = md := by rw [Num.w64]; omega
        obtain ⟨q, hq⟩ : ∃ q, q = md / base := ⟨_, rfl⟩
        rw [← hq] at hbd2 hgo2
        have f2 : (md : Int).tdiv base = q := by rw [Int.tdiv_eq_ediv_of_nonneg (by omega), hq]; rfl
        have f2' : IntKind.u64.wrap (q : Int) = q := Num.nat64 (by have := Nat.div_le_self md base; omega)
        have f3 : ¬ (base : Int) = 0 := by omega
        have f4 : ¬ base = 0 := by omega
        by_cases hM2 : ¬ n ≤ q
        · have r := Lib.hid (hbd2.out (fun h => hM2 h.2.1.2))
          have e3 : ¬ (n : Int) ≤ q := by omega
          clear hbd2 hgo2 hmd hq hM1
          rcases (show (k : Int) = 0 ∨ (¬ (k : Int) = 0 ∧ (0 : Int) < n) by omega) with e2 | ⟨e2, e4⟩
          · have e5 : k = 0 := by omega
            go_wp2_with (first | (go_at_call 138; (with_reducible refine (hyes.out _).mono ?_); rintro e w4 ⟨rfl, rfl⟩) | (go_at_call 138; (with_reducible refine (hno.out _).mono ?_); rintro e w4 ⟨rfl, rfl⟩))
            exact ⟨rfl, PO.bad hK2.out r.out.symm⟩
          · have e5 : ¬ k = 0 := by omega
            have e6 : 0 < n := by omega
            go_wp2_with (first | (go_at_call 138; (with_reducible refine (hyes.out _).mono ?_); rintro e w4 ⟨rfl, rfl⟩) | (go_at_call 138; (with_reducible refine (hno.out _).mono ?_); rintro e w4 ⟨rfl, rfl⟩))
            exact ⟨rfl, PO.bad hK2.out r.out.symm⟩
        have hM2' : n ≤ q := by omega
        have hM2I : (n : Int) ≤ q := by omega
        obtain ⟨nb, hnb⟩ : ∃ nb, nb = n * base := ⟨_, rfl⟩
        have hnbl : nb ≤ md := by
          rw [hnb]
          have h1 : n * base ≤ q * base := Nat.mul_le_mul_right _ hM2'
          have h2 : q * base ≤ md := by rw [hq]; exact Nat.div_mul_le_self md base
          omega
        have f5 : (n : Int) * base = nb := by rw [hnb]; push_cast; rfl
        have f6 : IntKind.u64.wrap (nb : Int) = nb := Num.nat64 (by omega)
        obtain ⟨z, hz⟩ : ∃ z, z = nb + d := ⟨_, rfl⟩
        have f7 : (nb : Int) + d = z := by omega
        have f8 : IntKind.u64.wrap (z : Int) = z := Num.nat64 (by omega)
        rw [← hnb, ← hz] at hbd2 hgo2
        have hzm : z ≤ most := by omega
        by_cases hL : ¬ least ≤ z
        · have r := Lib.hid (hbd2.out (fun h => hL h.2.2))
          have e3 : ¬ (least : Int) ≤ z := by omega
          clear hbd2 hgo2 hmd hq hM1 hM2 hnb hz
          rcases (show (k : Int) = 0 ∨ (¬ (k : Int) = 0 ∧ (0 : Int) < n) by omega) with e2 | ⟨e2, e4⟩
          · have e5 : k = 0 := by omega
            go_wp2_with (first | (go_at_call 138; (with_reducible refine (hyes.out _).mono ?_); rintro e w4 ⟨rfl, rfl⟩) | (go_at_call 138; (with_reducible refine (hno.out _).mono ?_); rintro e w4 ⟨rfl, rfl⟩))
            exact ⟨rfl, PO.bad hK2.out r.out.symm⟩
          · have e5 : ¬ k = 0 := by omega
            have e6 : 0 < n := by omega
            go_wp2_with (first | (go_at_call 138; (with_reducible refine (hyes.out _).mono ?_); rintro e w4 ⟨rfl, rfl⟩) | (go_at_call 138; (with_reducible refine (hno.out _).mono ?_); rintro e w4 ⟨rfl, rfl⟩))
            exact ⟨rfl, PO.bad hK2.out r.out.symm⟩
        have r := Lib.hid (hgo2.out ⟨hZ', ⟨hM1n, hM2'⟩, Decidable.not_not.1 hL⟩)
        have e3 : (least : Int) ≤ z := by have := Decidable.not_not.1 hL; omega
        have e3' : least ≤ z := Decidable.not_not.1 hL
        have hkr : (k + 1) + l2.length = l.length := by simp at hk; omega
        clear hbd2 hgo2 hmd hq hM1 hM2 hnb hz hL hk
        rcases (show (k : Int) = 0 ∨ (¬ (k : Int) = 0 ∧ (0 : Int) < n) by omega) with e2 | ⟨e2, e4⟩
        · have e5 : k = 0 := by omega
          go_wp2_with (first | (go_at_call 138; (with_reducible refine (hyes.out _).mono ?_); rintro e w4 ⟨rfl, rfl⟩) | (go_at_call 138; (with_reducible refine (hno.out _).mono ?_); rintro e w4 ⟨rfl, rfl⟩))
          exact ⟨⟨k + 1, z, l2, by go_num, rfl, hkr, hzm, hK2, hR2, Lib.hid r.out⟩, by simp [intOf]; omega⟩
        · have e5 : ¬ k = 0 := by omega
          have e6 : 0 < n := by omega
          go_wp2_with (first | (go_at_call 138; (with_reducible refine (hyes.out _).mono ?_); rintro e w4 ⟨rfl, rfl⟩) | (go_at_call 138; (with_reducible refine (hno.out _).mono ?_); rintro e w4 ⟨rfl, rfl⟩))
          exact ⟨⟨k + 1, z, l2, by go_num, rfl, hkr, hzm, hK2, hR2, Lib.hid r.out⟩, by simp [intOf]; omega⟩
end Go.Proofs.YtnhpjacodhdpeaaDoor
