/-
  Package trace: where two tables differ.
-/
import Derived.Test.YtnhpjacodhdpeaaDoorTrR
namespace Go.Proofs.YtnhpjacodhdpeaaDoor
open Go.RowKit Go.Maps Bits
set_option maxRecDepth 100000

def AgR (R S : List (List Int)) (i k : Nat) : Prop := colF R k i = colF S k i
def okD (L K : List TB) (R S : List (List Int)) : Bool := sameB L K && mayT L R && mayT K S
/-- Where two tables differ, in order. -/
def DifP (L : List TB) (R : List (List Int)) (K : List TB) (S : List (List Int)) (r b : Int) (is : Bool) : Prop :=
  (okD L K R S = false ∧ r = 0 ∧ b = 0 ∧ is = true) ∨
  (okD L K R S = true ∧ ∃ i k : Nat, i < R.length ∧ i < S.length ∧ k < L.length ∧ r = i ∧ b = k ∧ is = true ∧ ¬ AgR R S i k ∧ (∀ k', k' < k → AgR R S i k') ∧ ∀ i', i' < i → ∀ k', k' < L.length → AgR R S i' k') ∨
  (okD L K R S = true ∧ (∀ i', i' < R.length → i' < S.length → ∀ k', k' < L.length → AgR R S i' k') ∧ ((R.length ≠ S.length ∧ r = ((min R.length S.length : Nat) : Int) ∧ b = 0 ∧ is = true) ∨ (R.length = S.length ∧ r = 0 ∧ b = 0 ∧ is = false)))
def DifOk (L : List TB) (R : List (List Int)) (K : List TB) (S : List (List Int)) (e : Ending) : Prop := ∃ r b is, e = .returned (.tuple #[.int .i64 r, .int .i64 b, .bool is]) ∧ DifP L R K S r b is

set_option maxHeartbeats 8000000 in
theorem Differ_any {w : World} {a a2 b b2 : Option Addr} {n n2 m m2 : Nat} {L K : List TB} {R S : List (List Int)} (h : BsR w a n L) (h2 : RRk .u64 w a2 n2 R) (k : BsR w b m K) (k2 : RRk .u64 w b2 m2 S) (c c2 d d2 : Nat) (hc : n ≤ c) (hd : m ≤ d) :
    Calls Tryd.prog 16 #[.agg #[.slice a n c, .slice a2 n2 c2], .agg #[.slice b m d, .slice b2 m2 d2]] w fun e w' => DifOk L R K S e ∧ Below w.heap.size w w' := by
  have hx : Below w.heap.size w ((w.alloc (.cells #[.slice a n c, .slice a2 n2 c2] 25)).alloc (.cells #[.slice b m d, .slice b2 m2 d2] 25)) := ((Below.refl _ _).alloc (Nat.le_refl _) _).alloc (by simp) _
  have hE := Lib.hid (fun w3 (hb : Below w.heap.size w w3) => eqB_any (h.step hb) (k.step hb) c d)
  have hM1 := Lib.hid (fun w3 (hb : Below w.heap.size w w3) => May_any (h.step hb) (h2.step hb) c c2 hc)
  have hM2 := Lib.hid (fun w3 (hb : Below w.heap.size w w3) => May_any (k.step hb) (k2.step hb) d d2 hd)
  have box2 : ∀ x, x = (w.alloc (.cells #[.slice a n c, .slice a2 n2 c2] 25)).alloc (.cells #[.slice b m d, .slice b2 m2 d2] 25) → Below w.heap.size w x ∧ w.heap.size + 1 < x.heap.size ∧ x.cell? ⟨w.heap.size, 0, none⟩ = some (.slice a n c) ∧ x.cell? ⟨w.heap.size, 1, none⟩ = some (.slice a2 n2 c2) ∧ x.cell? ⟨w.heap.size + 1, 0, none⟩ = some (.slice b m d) ∧ x.cell? ⟨w.heap.size + 1, 1, none⟩ = some (.slice b2 m2 d2) := by
    rintro x rfl; exact ⟨hx, by simp, by simp [go_sem], by simp [go_sem], by simp [go_sem], by simp [go_sem]⟩
  have HR := Lib.hid h2
  have HS := Lib.hid k2
  have l1 := h2.1
  have l2 := k2.1
  have l3 := h.len
  have l4 := k.len
  have z1 := h2.2.1
  have z2 := k2.2.1
  clear h h2 k k2 hx
  have hbx := box2 _ rfl
  clear box2
  rcases (show okD L K R S = false ∨ okD L K R S = true by cases okD L K R S <;> simp) with hok | hok
  · have hfin : Hid (∀ e, e = .returned (.tuple #[.int .i64 0, .int .i64 0, .bool true]) → DifOk L R K S e) := Lib.hid (by rintro e rfl; exact ⟨_, _, _, rfl, .inl ⟨hok, rfl, rfl, rfl⟩⟩)
    have hcs : (sameB L K = false) ∨ (sameB L K = true ∧ mayT L R = false) ∨ (sameB L K = true ∧ mayT L R = true ∧ mayT K S = false) := by
      unfold okD at hok
      cases h1 : sameB L K <;> cases h2 : mayT L R <;> cases h3 : mayT K S <;> simp [h1, h2, h3] at hok ⊢
    clear hok
    go_enter Tryd.func16, Tryd.ntmps16
    go_upto_region 1 with fail
    generalize (w.alloc (.cells #[.slice a n c, .slice a2 n2 c2] 25)).alloc (.cells #[.slice b m d, .slice b2 m2 d2] 25) = wb at *
    obtain ⟨hb0, hz0, c0, c1, c2', c3⟩ := hbx
    have hz0' : w.heap.size < wb.heap.size := by omega
    have hb0 := Lib.hid hb0
    have hE := Lib.hid (hE.out wb hb0.out)
    rcases hcs with e | ⟨e, e2⟩ | ⟨e, e2, e3⟩
    · rw [e] at hE
      clear e
      go_wp2_with (first
        | (go_at_call 47; (with_reducible refine hE.out.mono ?_); rintro e w5 ⟨rfl, hb5⟩; have hB5 := Lib.hid (nextw hb0.out hb5); clear hb5))
      go_ret3
      exact ⟨hfin.out _ rfl, hB5.out⟩
    · rw [e] at hE
      rw [e2] at hM1
      clear e e2
      go_wp2_with (first
        | (go_at_call 47; (with_reducible refine hE.out.mono ?_); rintro e w5 ⟨rfl, hb5⟩; have hB5 := Lib.hid (nextw hb0.out hb5); have d0 := stepc hb5 hz0' c0; have d1 := stepc hb5 hz0' c1; have hm1 := Lib.hid (hM1.out w5 hB5.out); clear hb5 c0 c1)
        | (go_at_call 20; (with_reducible refine hm1.out.mono ?_); rintro e w6 ⟨rfl, hb6⟩; have hB6 := Lib.hid (nextw hB5.out hb6); clear hb6))
      go_ret3
      exact ⟨hfin.out _ rfl, hB6.out⟩
    · rw [e] at hE
      rw [e2] at hM1
      rw [e3] at hM2
      clear e e2 e3
      go_wp2_with (first
        | (go_at_call 47; (with_reducible refine hE.out.mono ?_); rintro e w5 ⟨rfl, hb5⟩; have hB5 := Lib.hid (nextw hb0.out hb5); have d0 := stepc hb5 hz0' c0; have d1 := stepc hb5 hz0' c1; have d2 := stepc hb5 hz0 c2'; have d3 := stepc hb5 hz0 c3; have hz5 := Nat.lt_of_lt_of_le hz0 hb5.size; have hm1 := Lib.hid (hM1.out w5 hB5.out); clear hb5 c0 c1 c2' c3)
        | (go_at_call 20; (with_reducible refine hm1.out.mono ?_); rintro e w6 ⟨rfl, hb6⟩; have hB6 := Lib.hid (nextw hB5.out hb6); have d2' := stepc hb6 hz5 d2; have d3' := stepc hb6 hz5 d3; have hm2 := Lib.hid (hM2.out w6 hB6.out); clear hb6 d0 d1 d2 d3 hm1)
        | (go_at_call 20; (with_reducible refine hm2.out.mono ?_); rintro e w7 ⟨rfl, hb7⟩; have hB7 := Lib.hid (nextw hB6.out hb7); clear hb7))
      go_ret3
      exact ⟨hfin.out _ rfl, hB7.out⟩
  · have hcs : sameB L K = true ∧ mayT L R = true ∧ mayT K S = true := by
      have := hok
      unfold okD at this
      simp only [Bool.and_eq_true] at this
      exact ⟨this.1.1, this.1.2, this.2⟩
    obtain ⟨e, e2, e3⟩ := hcs
    have hKL : K.length = L.length := by
      have := e
      unfold sameB at this
      simp only [Bool.and_eq_true, decide_eq_true_eq] at this
      exact this.1.symm
    have hlR := Lib.hid (fun i (hi : i < n2) => ((mayT_of e2).2.2 i (by omega)).1)
    have hlS := Lib.hid (fun i (hi : i < m2) => (((mayT_of e3).2.2 i (by omega)).1).trans hKL)
    have u2 := (mayT_of e2).2.1
    have u3 := (mayT_of e3).2.1
    have hF := Lib.hid (show ∀ i k, (R.getD i []).getD k 0 = colF R k i from fun i k => rfl)
    have hG := Lib.hid (show ∀ i k, (S.getD i []).getD k 0 = colF S k i from fun i k => rfl)
    have hok := Lib.hid hok
    go_enter Tryd.func16, Tryd.ntmps16
    go_upto_region 1 with fail
    generalize (w.alloc (.cells #[.slice a n c, .slice a2 n2 c2] 25)).alloc (.cells #[.slice b m d, .slice b2 m2 d2] 25) = wb at *
    obtain ⟨hb0, hz0, c0, c1, c2', c3⟩ := hbx
    have hz0' : w.heap.size < wb.heap.size := by omega
    have hb0 := Lib.hid hb0
    have hE := Lib.hid (hE.out wb hb0.out)
    rw [e] at hE
    rw [e2] at hM1
    rw [e3] at hM2
    clear e e2 e3
    go_upto_region 3 with (first
      | (go_at_call 47; (with_reducible refine hE.out.mono ?_); rintro e w5 ⟨rfl, hb5⟩; have hB5 := Lib.hid (nextw hb0.out hb5); have d0 := stepc hb5 hz0' c0; have d1 := stepc hb5 hz0' c1; have d2 := stepc hb5 hz0 c2'; have d3 := stepc hb5 hz0 c3; have hz5 := Nat.lt_of_lt_of_le hz0 hb5.size; have hz5' := Nat.lt_of_lt_of_le hz0' hb5.size; have hm1 := Lib.hid (hM1.out w5 hB5.out); clear hb5 c0 c1 c2' c3)
      | (go_at_call 20; (with_reducible refine hm1.out.mono ?_); rintro e w6 ⟨rfl, hb6⟩; have hB6 := Lib.hid (nextw hB5.out hb6); have q1 := stepc hb6 hz5' d1; have d2' := stepc hb6 hz5 d2; have d3' := stepc hb6 hz5 d3; have hz6 := Nat.lt_of_lt_of_le hz5 hb6.size; have hz6' := Nat.lt_of_lt_of_le hz5' hb6.size; have hm2 := Lib.hid (hM2.out w6 hB6.out); clear hb6 d0 d1 d2 d3 hm1)
      | (go_at_call 20; (with_reducible refine hm2.out.mono ?_); rintro e w7 ⟨rfl, hb7⟩; have hB7 := Lib.hid (nextw hB6.out hb7); have q1' := stepc hb7 hz6' q1; have q3' := stepc hb7 hz6 d3'; have hz7 := Nat.lt_of_lt_of_le hz6 hb7.size; have hz7' := Nat.lt_of_lt_of_le hz6' hb7.size; clear hb7 q1 d2' d3' hm2))
    clear hE hM1 hM2
    obtain ⟨M, hM⟩ : ∃ M : Nat, M = min n2 m2 := ⟨_, rfl⟩
    have hM1 : M ≤ n2 := by omega
    have hM2 : M ≤ m2 := by omega
    have hNle : L.length ≤ 9223372036854775807 := by have := hlR.out; have := hok.out; unfold okD mayT at this; simp only [Bool.and_eq_true] at this; have := (busesT_of this.1.2.1.1).2.1; omega
    generalize hN : L.length = N at *
    rcases (show (M = m2 ∧ m2 < n2 ∧ (m2 : Int) < n2) ∨ (M = n2 ∧ ¬ m2 < n2 ∧ ¬ (m2 : Int) < n2) by omega) with ⟨hMM, hq, hqi⟩ | ⟨hMM, hq, hqi⟩
    all_goals
      have hmn := Lib.hid hM
      clear hM
      subst hMM
      go_wp2
      clear hqi
      go_loopw [35] (fun i wr => ∃ j : Nat, j ≤ M ∧ i = .int .i64 j ∧ Hid (Below w7.heap.size w7 wr) ∧ Hid (∀ i', i' < j → ∀ k', k' < N → AgR R S i' k')) (fun i _ => M - (intOf i).toNat)
      case atStart => exact ⟨0, Nat.zero_le _, rfl, Lib.hid (Below.refl _ _), Lib.hid (fun i' hi => by omega)⟩
      case round =>
        obtain ⟨j, hj, rfl, hw, hag⟩ := hrel
        have c1 := stepc hw.out hz7' q1'
        have c3 := stepc hw.out hz7 q3'
        by_cases hlt : j < M
        · have hlti : (j : Int) < M := by omega
          have hB8 := nextw hB7.out hw.out
          obtain ⟨g1, o1, rfl, hg1, hcell1⟩ := (HR.out.step hB8).at (by omega)
          obtain ⟨g2, o2, rfl, hg2, hcell2⟩ := (HS.out.step hB8).at (by omega)
          obtain ⟨x1, y1, r1, -, -, r4⟩ := hcell1 j (by omega)
          obtain ⟨x2, y2, s1, -, -, s4⟩ := hcell2 j (by omega)
          have e1 := hlR.out j (by omega)
          have e2 := hlS.out j (by omega)
          rw [e1] at r1 r4
          rw [e2] at s1 s4
          have r4 := Lib.hid r4
          have s4 := Lib.hid s4
          have hjn : (j : Int) < R.length := by omega
          have hjm : (j : Int) < S.length := by omega
          rw [l1] at hjn
          rw [l2] at hjm
          clear hcell1 hcell2 e1 e2 hB8
          go_wp2
          go_loopw [44] (fun i wr2 => ∃ q : Nat, q ≤ N ∧ i = .int .i64 q ∧ Hid (Below wr.heap.size wr wr2) ∧ Hid (∀ k', k' < q → AgR R S j k')) (fun i _ => N - (intOf i).toNat)
          case atStart => exact ⟨0, Nat.zero_le _, rfl, Lib.hid (Below.refl _ _), Lib.hid (fun i' hi => by omega)⟩
          case round =>
            obtain ⟨q, hqq, rfl, hw2, hag2⟩ := hrel
            have c3' := stepc hw2.out (Nat.lt_of_lt_of_le hz7 hw.out.size) c3
            by_cases hlq : q < N
            · have hlqi : (q : Int) < N := by omega
              obtain ⟨v1, v2, rfl, -, p1'⟩ := (r4.out.step hw2.out).at (by omega)
              obtain ⟨v3, v4, rfl, -, p2'⟩ := (s4.out.step hw2.out).at (by omega)
              have p1 := p1' q hlq
              have p2 := p2' q hlq
              clear p1' p2'
              have hs1 := stepc hw2.out hg2 s1
              rw [hF.out j q] at p1
              rw [hG.out j q] at p2
              by_cases hA : AgR R S j q
              · have hAi : colF R q j = colF S q j := hA
                have hA := Lib.hid hA
                generalize colF R q j = A at *
                generalize colF S q j = B at *
                subst hAi
                have hbb : (A != A) = false := bnef0 rfl
                go_wp2
                exact ⟨⟨q + 1, by omega, by go_num, hw2, Lib.hid (fun k' hk' => by
                  by_cases e : k' = q
                  · rw [e]; exact hA.out
                  · exact hag2.out k' (by omega))⟩, by simp [intOf]; omega⟩
              · have hAi : ¬ colF R q j = colF S q j := hA
                have hA := Lib.hid hA
                generalize colF R q j = A at *
                generalize colF S q j = B at *
                have hbb : (A != B) = true := bnet hAi
                go_wp2
                go_ret3
                exact ⟨⟨_, _, _, rfl, .inr (.inl ⟨hok.out, j, q, by omega, by omega, by omega, rfl, rfl, rfl, hA.out, hag2.out, by rw [hN]; exact hag.out⟩)⟩, nextw hB7.out (nextw hw.out hw2.out)⟩
            · obtain rfl : q = N := by omega
              go_wp2
              exact ⟨⟨j + 1, by omega, by go_num, Lib.hid (nextw hw.out hw2.out), Lib.hid (fun i' hi' => by
                by_cases e : i' = j
                · rw [e]; exact hag2.out
                · exact hag.out i' (by omega))⟩, by simp [intOf]; omega⟩
        · obtain rfl : j = M := by omega
          by_cases hRS : R.length = S.length
          · have hfin : Hid (DifP L R K S 0 0 false) := Lib.hid (.inr (.inr ⟨hok.out, fun i' h1 h2 => by rw [hN]; exact hag.out i' (by omega), .inr ⟨hRS, rfl, rfl, rfl⟩⟩))
            have hRi : (R.length : Int) = S.length := by omega
            rw [l1, l2] at hRi
            have hnn := bnef0 hRi
            clear hRi
            first
              | (exfalso; omega)
              | (go_wp2
                 go_ret3
                 exact ⟨⟨_, _, _, rfl, hfin.out⟩, nextw hB7.out hw.out⟩)
          · have hfin : Hid (DifP L R K S j 0 true) := Lib.hid (.inr (.inr ⟨hok.out, fun i' h1 h2 => by rw [hN]; exact hag.out i' (by omega), .inl ⟨hRS, by rw [l1, l2, ← hmn.out], rfl, rfl⟩⟩))
            have hRi : (R.length : Int) ≠ S.length := by omega
            rw [l1, l2] at hRi
            have hnn := bnet hRi
            go_wp2
            go_ret3
            exact ⟨⟨_, _, _, rfl, hfin.out⟩, nextw hB7.out hw.out⟩
end Go.Proofs.YtnhpjacodhdpeaaDoor
