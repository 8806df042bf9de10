/-
  Copies of netlists.
-/
import Derived.Test.YtjdebancpgpebaaNetE
import Derived.Test.YtjdebancpgpebaaCpy
namespace Go.Proofs.Ytjdebancpgpebaa
open Go.RowKit Go.Maps Bits
set_option maxRecDepth 100000

def bv0 : BV := ⟨ByteArray.empty, none, 0, 0⟩
theorem made_pair (x y : Value) (n : Nat) : (madeCells #[x, y] (n * 2)).toList = (List.replicate n [x, y]).flatten := by
  induction n with
  | zero => simp [madeCells]
  | succ n ih =>
    rw [List.replicate_succ', List.flatten_append, ← ih]
    unfold madeCells
    simp only [Array.toList_map, Array.toList_range]
    rw [show (n + 1) * 2 = n * 2 + 1 + 1 by omega, List.range_succ, List.range_succ]
    simp [show n * 2 % 2 = 0 by omega, show (n * 2 + 1) % 2 = 1 by omega]
theorem made_bv (n : Nat) : (madeCells (Value.agg #[.string ByteArray.empty, .slice none 0 0]).cells (n * 2)).toList = bvCells (List.replicate n bv0) := by
  rw [show (Value.agg #[.string ByteArray.empty, .slice none 0 0]).cells = #[.string ByteArray.empty, .slice none 0 0] from rfl, made_pair]
  unfold bvCells
  rw [List.flatMap_def]
  simp [bvc, bv0]
theorem bvCells_set (K : List BV) (i : Nat) (k : BV) (h : i < K.length) : bvCells (K.set i k) = ((bvCells K).set (i * 2) (.string k.name)).set (i * 2 + 1) (.slice k.a k.n k.c) := by
  induction K generalizing i with
  | nil => simp at h
  | cons r R ih =>
    cases i with
    | zero => simp [bvCells, bvc]
    | succ i =>
      rw [List.set_cons_succ, show bvCells (r :: R.set i k) = bvc r ++ bvCells (R.set i k) from rfl, ih i (by simpa using h), show bvCells (r :: R) = bvc r ++ bvCells R from rfl]
      rw [List.set_append_right _ _ (by simp [bvc]; omega), List.set_append_right _ _ (by simp [bvc]; omega)]
      rw [show (i + 1) * 2 - (bvc r).length = i * 2 by simp [bvc]; omega, show (i + 1) * 2 + 1 - (bvc r).length = i * 2 + 1 by simp [bvc]; omega]
theorem own_some' {w : World} {base e size k g cap : Nat} {xs : List Value} (h : w.ownsRow base e size (.slice (some ⟨g, 0, none⟩) k cap) k xs) {i : Nat} (hj : i < k * size) : ∃ u, w.cell? ⟨g, i, none⟩ = some u := by
  have hl : xs.length = k * size := h.1
  have hc := h.cellAt i hj
  exact ⟨xs[i]'(by omega), by rw [hc]; exact List.getElem?_eq_getElem _⟩
/-- A copy of buses that is being made. -/
structure CopT (w wr : World) (g n j : Nat) (L : List Bus) (K : List BV) : Prop where
  len : K.length = j
  own : wr.ownsRow w.heap.size 46 2 (.slice (some ⟨g, 0, none⟩) n n) n (bvCells (K ++ List.replicate (n - j) bv0))
  row : ∀ (i : Nat) (k : BV) (b : Bus), K[i]? = some k → L[i]? = some b → k.name = b.name ∧ LRow wr k.a k.n k.c b.lits
theorem CopT.step {w wr w2 : World} {g n j : Nat} {L : List Bus} {K : List BV} (h : CopT w wr g n j L K) (hb : Below wr.heap.size wr w2) : CopT w w2 g n j L K :=
  ⟨h.len, own_below h.own hb, fun i k b e1 e2 => ⟨(h.row i k b e1 e2).1, (h.row i k b e1 e2).2.below hb⟩⟩
theorem CopT.next {w wr : World} {g n j : Nat} {L : List Bus} {K : List BV} (h : CopT w wr g n j L K) (hj : j < n) {b : Bus} (hb : L[j]? = some b) {a : Option Addr} {c : Nat} (hl : LRow wr a b.lits.length c b.lits) :
    CopT w ((wr.setCell ⟨g, j * 2, none⟩ (.string b.name)).setCell ⟨g, j * 2 + 1, none⟩ (.slice a b.lits.length c)) g n (j + 1) L (K ++ [⟨b.name, a, b.lits.length, c⟩])
      ∧ (∀ k, k < w.heap.size → ((wr.setCell ⟨g, j * 2, none⟩ (.string b.name)).setCell ⟨g, j * 2 + 1, none⟩ (.slice a b.lits.length c)).heap[k]? = wr.heap[k]?) := by
  have h1 := h.own.stored (j * 2) (.string b.name)
  have h2 := h1.1.stored (j * 2 + 1) (.slice a b.lits.length c)
  have hg2 := h1.2.trans h2.2
  have hge := own_ge h.own g rfl
  have hglt := own_lt h.own
  have hk : Kept (fun k => k = g) wr ((wr.setCell ⟨g, j * 2, none⟩ (.string b.name)).setCell ⟨g, j * 2 + 1, none⟩ (.slice a b.lits.length c)) :=
    ⟨hg2.os, hg2.tape, hg2.output, hg2.size, fun k hlt hn => hg2.block k hlt (fun e => hn (by simpa using e))⟩
  have hN : NoLits wr (fun k => k = g) := by
    intro k cur fz e hh
    subst e
    obtain ⟨c2, hc2⟩ := own_type h.own (k := k) rfl
    rw [hc2] at hh; simp at hh
  have hlen := h.len
  have e : (K ++ List.replicate (n - j) bv0).set j ⟨b.name, a, b.lits.length, c⟩ = K ++ [⟨b.name, a, b.lits.length, c⟩] ++ List.replicate (n - (j + 1)) bv0 := by
    rw [show n - j = n - (j + 1) + 1 by omega, List.replicate_succ, List.set_append_right _ _ (by omega), hlen]
    simp
  refine ⟨⟨by simp [hlen], ?_, ?_⟩, fun k hlt => hk.block k (by omega) (by omega)⟩
  · have := h2.1
    rw [← bvCells_set _ j ⟨b.name, a, b.lits.length, c⟩ (by simp; omega), e] at this
    exact this
  · intro i k bb e1 e2
    by_cases hi : i < K.length
    · rw [List.getElem?_append_left hi] at e1
      obtain ⟨r1, r2⟩ := h.row i k bb e1 e2
      exact ⟨r1, r2.keptF hk hN⟩
    · have hi2 := (List.getElem?_eq_some_iff.1 e1).1
      simp at hi2
      have ei : i = j := by omega
      subst ei
      rw [← hlen, List.getElem?_append_right (Nat.le_refl _)] at e1
      simp at e1
      subst e1
      rw [hb] at e2
      cases e2
      exact ⟨rfl, hl.keptF hk hN⟩
set_option maxHeartbeats 1000000 in
theorem copied_any {w : World} {a : Option Addr} {n c : Nat} {L : List Bus} (h : BusRow w (.slice a n c) L) (hn : n = L.length) (hw : ∀ b ∈ L, b.lits.length ≤ 64) (hm : n ≤ 10000) :
    Calls Try.prog 24 #[.slice a n c] w fun e w' => ∃ (a2 : Option Addr) (c2 : Nat), e = .returned (.slice a2 n c2) ∧ BusRow w' (.slice a2 n c2) L ∧ (∀ x, a2 = some x → w.heap.size ≤ x.block) ∧ Below w.heap.size w w' := by
  obtain ⟨i0, hi, hz0, hz1, hz2⟩ := info_parts info_bus
  have HI := Lib.hid (made_bv n)
  have H := Lib.hid h
  have HN := Lib.hid hn
  have HW := Lib.hid hw
  clear h hn hw
  go_enter Try.func24, Try.ntmps24
  go_wp2_with (at_make; refine wpList_make_full _ rfl _ _ 30 rfl w.heap.size 46 i0 (.agg #[.string ByteArray.empty, .slice none 0 0]) 2 Try.underlying30 hi hz0 hz1 .i64 .i64 n n n rfl rfl rfl rfl (by rw [hz2]; omega) (by unfold maxLen; omega) (Nat.le_refl _) ?_; intro w3 hown hg)
  rw [HI.out] at hown
  have hb3 := Lib.hid ((Below.refl w.heap.size w).grown hg (Nat.le_refl _) (fun _ h => by cases h))
  have hF : Hid (CopT w w3 w.heap.size n 0 L []) := Lib.hid ⟨rfl, hown, fun i k b e => by simp at e⟩
  have hz3 : Hid (w.heap.size < w3.heap.size) := Lib.hid (own_lt hown)
  clear HI hown hg
  go_loopw [11] (fun i wr => ∃ (j : Nat) (K : List BV), j ≤ n ∧ i = .int .i64 j ∧ Hid (CopT w wr w.heap.size n j L K) ∧ Hid (Below w.heap.size w wr)) (fun i _ => n - (intOf i).toNat)
  case atStart => exact ⟨0, [], Nat.zero_le _, rfl, hF, hb3⟩
  case round =>
    clear hF hb3 hz3
    obtain ⟨j, K, hj, rfl, hF, hB⟩ := hrel
    by_cases hlt : j < n
    · have hjL : j < L.length := by rw [← HN.out]; exact hlt
      obtain ⟨g2, la, lc, rfl, hgl, b0, b1, hr⟩ := H.out.at hjL
      have c0 := stepc hB.out hgl b0
      have c1 := stepc hB.out hgl b1
      have hr := Lib.hid (hr.below hB.out)
      have h64 := HW.out _ (List.getElem_mem hjL)
      have hLj : L[j]? = some L[j] := List.getElem?_eq_getElem hjL
      clear b0 b1
      generalize L[j] = B at *
      have hLj := Lib.hid hLj
      have hb4 : Hid (Below wr.heap.size wr (wr.alloc (.cells #[.string B.name, .slice la B.lits.length lc] 46))) := Lib.hid ((Below.refl _ _).alloc (Nat.le_refl _) _)
      have d0 : (wr.alloc (.cells #[.string B.name, .slice la B.lits.length lc] 46)).cell? ⟨wr.heap.size, 0, none⟩ = some (.string B.name) := by simp [go_sem]
      have d1 : (wr.alloc (.cells #[.string B.name, .slice la B.lits.length lc] 46)).cell? ⟨wr.heap.size, 1, none⟩ = some (.slice la B.lits.length lc) := by simp [go_sem]
      have hz4 : wr.heap.size < (wr.alloc (.cells #[.string B.name, .slice la B.lits.length lc] 46)).heap.size := by simp
      have hcl := Lib.hid (fun w2 (hb2 : Below wr.heap.size wr w2) => clone_lit (c := lc) (hr.out.below hb2).row (by omega))
      have hFs := Lib.hid (fun w2 (hb2 : Below wr.heap.size wr w2) => hF.out.step hb2)
      have hs0 := own_some' hF.out.own (i := j * 2) (by omega)
      have hs1 := own_some' hF.out.own (i := j * 2 + 1) (by omega)
      obtain ⟨u0, hu0⟩ := hs0
      obtain ⟨u1, hu1⟩ := hs1
      have hfz := hF.out.own.frozenAt
      have hgw := own_lt hF.out.own
      have f0 := hfz (j * 2)
      have f1 := hfz (j * 2 + 1)
      clear hr hfz hF
      generalize hll : B.lits.length = ll at *
      generalize hnm : B.name = nm at *
      have hll := Lib.hid hll
      have hnm := Lib.hid hnm
      go_upto_region 5 with fail
      generalize wr.alloc (.cells #[.string nm, .slice la ll lc] 46) = w4 at *
      have e0 := stepc hb4.out hgw hu0
      have e1 := stepc hb4.out hgw hu1
      clear c0 c1
      go_region_law (first
        | (go_simp; go_at_call 43; (with_reducible refine (hcl.out _ hb4.out.drew).mono ?_); rintro e w6 ⟨a2, c2, rfl, hM⟩; have hM := Lib.hid hM; have hb5 := nextw ((Below.refl w4.heap.size w4).drew) hM.out.below; have k0 := stepc hb5 hz4 d0; have k1 := stepc hb5 hz4 d1; have m0 := stepc hb5 (Nat.lt_of_lt_of_le hgw hb4.out.size) e0; have m1 := stepc hb5 (Nat.lt_of_lt_of_le hgw hb4.out.size) e1; have hb6 := nextw hb4.out hb5; have n0 := ((bcell hb6).2 _ (j * 2) hgw).trans f0; have n1 := ((bcell hb6).2 _ (j * 2 + 1) hgw).trans f1; have hb6 := Lib.hid hb6; clear hb5))
      all_goals go_wp2
      all_goals
        have hC := hFs.out _ hb6.out
        have hnx := hC.next hlt hLj.out (a := a2) (c := c2) (by rw [hll.out]; exact hM.out.lrow)
        rw [hll.out, hnm.out] at hnx
        exact ⟨⟨j + 1, _, by omega, by go_num, Lib.hid hnx.1, Lib.hid (((nextw hB.out hb6.out).setCell (Nat.le_refl _) _).setCell (Nat.le_refl _) _)⟩, by simp [intOf]; omega⟩
    · obtain rfl : j = n := by omega
      go_wp2
      go_ret
      exact ⟨some ⟨w.heap.size, 0, none⟩, j, rfl, ⟨K, by rw [← HN.out]; have := hF.out.own; simp only [Nat.sub_self, List.replicate_zero, List.append_nil] at this; exact own_base this (Nat.zero_le _), by rw [hF.out.len, HN.out], hF.out.row⟩, fun x hx => by cases hx; exact Nat.le_refl _, hB.out⟩
end Go.Proofs.Ytjdebancpgpebaa
