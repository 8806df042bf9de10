/-
  Pack, Set, Fill: what the package and the document answer, told alike.
-/
import Derived.Test.YtgbhhmmllbanlaaRlE
namespace Go.Proofs.Ytgbhhmmllbanlaa
open Go.RowKit
set_option maxRecDepth 100000

/-- A row and an error. -/
def Ans (w : World) (e : Ending) (w' : World) (m : Nat) (er : Int) (F : Nat → Nat) : Prop :=
  ∃ a2 c2, e = .returned (.tuple #[.slice a2 m c2, .int .i64 er]) ∧ WRow w' a2 m F ∧ Below w.heap.size w w'
def AnsO (w : World) (e : Ending) (w' : World) (m : Nat) (er : Int) (F : Nat → Nat) : Prop :=
  ∃ a2 c2, e = .returned (.tuple #[.slice a2 m c2, .int .i64 er]) ∧ WOwn w' w.heap.size a2 m F ∧ Below w.heap.size w w'
theorem AnsO.ans {w w' : World} {e : Ending} {m : Nat} {er : Int} {F : Nat → Nat} (h : AnsO w e w' m er F) : Ans w e w' m er F := by
  obtain ⟨a2, c2, he, hr, hb⟩ := h; exact ⟨a2, c2, he, hr.row, hb⟩
theorem ans_no {w w' : World} {e : Ending} {F : Nat → Nat} (h : e = .returned (.tuple #[.slice none 0 0, .int .i64 1]) ∧ Below w.heap.size w w') : AnsO w e w' 0 1 F := ⟨none, 0, h.1, WOwn.nil _ _ _ _, h.2⟩
theorem Made.ans {w w' : World} {a : Option Addr} {n c : Nat} {f : Nat → Nat} (h : Made w w' a n c f) (hn : n ≤ 9223372036854775807) : AnsO w (.returned (.tuple #[.slice a n c, .int .i64 0])) w' n 0 f := ⟨a, c, rfl, h.wown hn, h.below⟩

def packOk (W : Int) (n : Nat) (f : Nat → Nat) : Bool := decide (n ≤ 64) && mayH W n f
theorem packOk_width {W : Int} {n : Nat} {f : Nat → Nat} (h : packOk W n f = true) : n ≤ 64 ∧ 1 ≤ W ∧ W ≤ 64 ∧ mayH W n f = true := by
  unfold packOk at h
  rw [Bool.and_eq_true, decide_eq_true_eq] at h
  obtain ⟨h1, h2⟩ := h
  have h3 : may false false W = true := by unfold mayH at h2; rw [Bool.and_eq_true] at h2; exact h2.1
  have := (may_iff W).1 h3
  exact ⟨h1, this.1, this.2, h2⟩
theorem lpack_ans {w : World} {a : Option Addr} {n c : Nat} {f : Nat → Nat} (W : Int) (hs : WRow w a n f) :
    Calls Try.prog 13 #[.int .i64 W, .slice a n c] w fun e w' => AnsO w e w' (if packOk W n f then W.toNat else 0) (if packOk W n f then 0 else 1) (turn (cutAt n f)) := by
  cases h : packOk W n f with
  | true =>
    obtain ⟨h1, h2, h3, h4⟩ := packOk_width h
    obtain ⟨m, rfl⟩ : ∃ m : Nat, W = m := ⟨W.toNat, by omega⟩
    refine (pack_yes (c := c) hs h1 h4).mono ?_
    rintro e w' ⟨a2, c2, rfl, hM⟩
    exact hM.ans (by omega)
  | false =>
    refine (pack_no (c := c) W hs ?_).mono fun e w' h => ans_no h
    unfold packOk at h
    rw [Bool.and_eq_false_iff, decide_eq_false_iff_not] at h
    rcases h with h | h
    · exact .inl (by omega)
    · exact .inr h

set_option maxHeartbeats 1000000 in
theorem rpack_out {w : World} {a : Option Addr} {n c : Nat} (W : Int) (h : W < 1 ∨ 64 < W ∨ 64 < n) (hn : n ≤ 9223372036854775807) :
    Calls Try.prog 14 #[.int .i64 W, .slice a n c] w fun e w' => e = .returned (.tuple #[.slice none 0 0, .int .i64 1]) ∧ w = w' := by
  by_cases h1 : W < 1
  · clear h
    go_enter Try.func14, Try.ntmps14
    go_wp2
    go_ret2
    exact ⟨rfl, rfl⟩
  · by_cases h2 : 64 < W
    · clear h
      go_enter Try.func14, Try.ntmps14
      go_wp2
      go_ret2
      exact ⟨rfl, rfl⟩
    · have h3 : 64 < (n : Int) := by omega
      clear h
      go_enter Try.func14, Try.ntmps14
      go_wp2
      go_ret2
      exact ⟨rfl, rfl⟩
theorem rpack_ans {w : World} {a : Option Addr} {n c : Nat} {f : Nat → Nat} (W : Int) (hs : WRow w a n f) (hf : ∀ i, i < n → f i < 18446744073709551616) :
    Calls Try.prog 14 #[.int .i64 W, .slice a n c] w fun e w' => Ans w e w' (if packOk W n f then W.toNat else 0) (if packOk W n f then 0 else 1) (turn (cutAt n f)) := by
  by_cases hin : n ≤ 64 ∧ 1 ≤ W ∧ W ≤ 64
  · obtain ⟨hn, h1, h2⟩ := hin
    obtain ⟨m, rfl⟩ : ∃ m : Nat, W = m := ⟨W.toNat, by omega⟩
    have hp : packOk (m : Int) n f = mayH (m : Int) n f := by simp [packOk, hn]
    rw [hp]
    refine (rpack_in (c := c) hs hf hn (by omega) (by omega)).mono ?_
    rintro e w' ⟨hB, ⟨hm, a2, c2, rfl, hR⟩ | ⟨hm, rfl⟩⟩
    · rw [hm]; exact ⟨a2, c2, rfl, hR, hB⟩
    · rw [hm]; exact ⟨none, 0, rfl, WRow.nil _ _ _, hB⟩
  · have hp : packOk W n f = false := by
      cases h : packOk W n f with
      | false => rfl
      | true => obtain ⟨h1, h2, h3, -⟩ := packOk_width h; exact absurd ⟨h1, h2, h3⟩ hin
    rw [hp]
    refine (rpack_out (a := a) (c := c) (n := n) W (by omega) hs.1).mono ?_
    rintro e w' ⟨rfl, rfl⟩
    exact ⟨none, 0, rfl, WRow.nil _ _ _, Below.refl _ _⟩

def setOk (n : Nat) (L : Int) (x : Nat) : Bool := decide (0 ≤ L) && decide (L < 64) && mayH n 1 (fun _ => x)
theorem lset_ans {w : World} {a : Option Addr} {n c : Nat} {f : Nat → Nat} (L : Int) (x : Nat) (hx : x < 18446744073709551616) (hs : WRow w a n f) (hf : ∀ i, i < n → f i < 18446744073709551616) :
    Calls Try.prog 19 #[.slice a n c, .int .i64 L, .int .u64 (x : Nat)] w fun e w' => AnsO w e w' (if setOk n L x then n else 0) (if setOk n L x then 0 else 1) (setN f L.toNat x) := by
  cases h : setOk n L x with
  | true =>
    unfold setOk at h
    rw [Bool.and_eq_true, Bool.and_eq_true, decide_eq_true_eq, decide_eq_true_eq] at h
    obtain ⟨⟨h1, h2⟩, h3⟩ := h
    obtain ⟨l, rfl⟩ : ∃ l : Nat, L = l := ⟨L.toNat, by omega⟩
    refine (set_yes (c := c) (l := l) hs hf hx h3 (by omega)).mono ?_
    rintro e w' ⟨a2, c2, rfl, hM⟩
    exact hM.ans hs.1
  | false =>
    refine (set_no (c := c) L x hs ?_).mono fun e w' h => ans_no h
    unfold setOk at h
    rw [Bool.and_eq_false_iff, Bool.and_eq_false_iff, decide_eq_false_iff_not, decide_eq_false_iff_not] at h
    rcases h with (h | h) | h
    · exact .inr (by omega)
    · exact .inr (by omega)
    · exact .inl h
theorem lfill_ans {w : World} (W : Int) (x : Nat) (hx : x < 18446744073709551616) :
    Calls Try.prog 21 #[.int .i64 W, .int .u64 (x : Nat)] w fun e w' => AnsO w e w' (if mayH W 1 (fun _ => x) then W.toNat else 0) (if mayH W 1 (fun _ => x) then 0 else 1) (fillN x) := by
  cases h : mayH W 1 (fun _ => x) with
  | true =>
    have hw : may false false W = true := by unfold mayH at h; rw [Bool.and_eq_true] at h; exact h.1
    have := (may_iff W).1 hw
    obtain ⟨m, rfl⟩ : ∃ m : Nat, W = m := ⟨W.toNat, by omega⟩
    refine (fill_yes hx h).mono ?_
    rintro e w' ⟨a2, c2, rfl, hM⟩
    exact hM.ans (by omega)
  | false => exact (fill_no W x h).mono fun e w' h => ans_no h

theorem mayH_same (W : Int) (n : Nat) (x : Nat) (hn : 0 < n) : mayH W n (fun _ => x) = mayH W 1 (fun _ => x) := by
  unfold mayH
  congr 1
  rw [Bool.eq_iff_iff, List.all_eq_true, List.all_eq_true]
  exact ⟨fun h i _ => h 0 (by simpa using hn), fun h i _ => h 0 (by simp)⟩
theorem fill_lane {x i : Nat} (hx : x < 18446744073709551616) (hi : i < 64) : turn (cutAt 64 (fun _ => x)) i = fillN x i := by
  refine word_ext (turn_lt (cutAt_lt (fun _ _ => hx)) i) (fillN_lt x i) (fun j hj => ?_)
  rw [turn_bit _ hi hj, cutAt_bit]
  unfold fillN
  rw [bit_shift]
  have h1 : (18446744073709551615 : Nat).testBit j = true := by revert j; decide
  cases x.testBit i <;> simp [hj, h1]

set_option maxHeartbeats 1000000 in
theorem rfill_ans {w : World} (W : Int) (x : Nat) (hx : x < 18446744073709551616) :
    Calls Try.prog 22 #[.int .i64 W, .int .u64 (x : Nat)] w fun e w' => Ans w e w' (if mayH W 1 (fun _ => x) then W.toNat else 0) (if mayH W 1 (fun _ => x) then 0 else 1) (fillN x) := by
  obtain ⟨i0, hi, hz0, hz1, hz2⟩ := info_parts info_u64
  have hp : Hid (∀ (wk : World) (a : Option Addr) (c : Nat), WRow wk a 64 (fun _ => x) → Calls Try.prog 14 #[.int .i64 W, .slice a 64 c] wk fun e w' => Ans wk e w' (if mayH W 1 (fun _ => x) then W.toNat else 0) (if mayH W 1 (fun _ => x) then 0 else 1) (fillN x)) := Lib.hid (fun wk a c h => by
    refine (rpack_ans (c := c) W h (fun _ _ => hx)).mono ?_
    rintro e w' ⟨a2, c2, he, hR, hB⟩
    have hk : packOk W 64 (fun _ => x) = mayH W 1 (fun _ => x) := by rw [← mayH_same W 64 x (by decide)]; simp [packOk]
    rw [hk] at he hR
    refine ⟨a2, c2, he, hR.congr (fun i hi => fill_lane hx ?_), hB⟩
    split at hi
    · rename_i hm
      have := packOk_width (hk.trans hm)
      omega
    · omega)
  generalize (if mayH W 1 (fun _ => x) then W.toNat else 0) = m at *
  generalize (if mayH W 1 (fun _ => x) then (0 : Int) else 1) = er at *
  generalize fillN x = R at *
  clear hx
  go_enter Try.func22, Try.ntmps22
  go_wp2
  go_loopw [6, 7] (fun v i wr => ∃ j : Nat, j ≤ 64 ∧ i = .int .i64 j ∧ wr.ownsRow w.heap.size 22 1 v j (wl j (fun _ => x)) ∧ Below w.heap.size w wr) (fun _ i _ => 64 - (intOf i).toNat)
  case atStart => exact ⟨0, by omega, rfl, ⟨rfl, .inl ⟨rfl, rfl⟩⟩, Below.refl _ _⟩
  case round =>
    obtain ⟨j, hj, rfl, hown, hB⟩ := hrel
    by_cases hlt : j < 64
    · have hj64 : (j : Int) < 64 := by omega
      have hsn := Lib.hid (wl_snoc j (fun _ => x))
      have hsz := hB.size
      clear hp
      go_wp2_with (at_builtin; refine wpList_append_own _ rfl _ _ 27 rfl w.heap.size 22 i0 (.int .u64 0) 1 8 Try.underlying27 hi hz0 hz1 hz2 rfl (by decide) _ _ _ rfl (hown.alloc _) ⟨wr.heap.size, 0, none⟩ 1 1 [.int .u64 (x : Nat)] rfl rfl (news1 _ _ _) (by simp [Value.oneCell']) (by unfold maxLen; omega) (by omega) (by simp; omega) ?_; intro v' w1 hown' hgrow _)
      go_roundw
      case rel =>
        refine ⟨j + 1, by omega, by go_num, ?_, ?_⟩
        · rw [hsn.out]; exact hown'
        · exact (hB.alloc hsz _).grown hgrow (by simp; omega) (own_ge hown)
      case measure => simp [intOf]; omega
    · obtain rfl : j = 64 := by omega
      obtain ⟨a3, c3, rfl⟩ := own_slice hown
      have hR := Lib.hid (WRow.of_own hown (by decide))
      have hB := Lib.hid hB
      clear hown hi hz0 hz1 hz2 i0
      go_wp2_with (go_at_call 14; (with_reducible refine (hp.out _ _ _ hR.out).mono ?_); rintro e w2 ⟨a2, c2, rfl, hR2, hn⟩)
      go_ret2
      exact ⟨a2, c2, rfl, hR2, nextw hB.out hn⟩
end Go.Proofs.Ytgbhhmmllbanlaa
