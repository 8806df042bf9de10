/-
  Package trace: the same buses, the same rows.
-/
import Derived.Test.YtnhpjacodhdpeaaDoorTrC
namespace Go.Proofs.YtnhpjacodhdpeaaDoor
open Go.RowKit Go.Maps Bits
set_option maxRecDepth 100000

theorem sameS_iff {s t : ByteArray} : sameS s t = true ↔ s = t := by
  unfold sameS
  rw [ByteArray.toList_eq, ByteArray.toList_eq]
  constructor
  · intro h; exact WideShapes.bytes_inj (by simpa using h)
  · rintro rfl; simp
theorem part_str (xs : Array Value) (W : World) {i : Nat} {v : Value} (h : xs[i]? = some v) : (part 9 xs i).run Tryd.prog W = .ok v W := run_part_plain W (by kernel_rfl) h
theorem part_int (xs : Array Value) (W : World) {i : Nat} {v : Value} (h : xs[i]? = some v) : (part 3 xs i).run Tryd.prog W = .ok v W := run_part_plain W (by kernel_rfl) h
theorem bus_eqIn (s t : ByteArray) (x y : Int) (W : World) : (Op.equalIn 10000 69 (.agg #[.string s, .int .i64 x]) (.agg #[.string t, .int .i64 y])).run Tryd.prog W = .ok (sameS s t && decide (x = y)) W := by
  rw [run_equalIn_agg W 9999 _ _ _ (by kernel_rfl) (by kernel_rfl)]
  have p0 := part_str #[.string s, .int .i64 x] W (i := 0) (v := .string s) rfl
  have p1 := part_int #[.string s, .int .i64 x] W (i := 1) (v := .int .i64 x) rfl
  have q0 := part_str #[.string t, .int .i64 y] W (i := 0) (v := .string t) rfl
  have q1 := part_int #[.string t, .int .i64 y] W (i := 1) (v := .int .i64 y) rfl
  have e0 := run_equalIn_string (P := Tryd.prog) W 9998 9 s t Tryd.underlying9
  have e1 := run_equalIn_int (P := Tryd.prog) W 9998 3 .i64 .i64 x y Tryd.underlying3
  generalize hX : #[Value.string s, .int .i64 x] = X at *
  generalize hY : #[Value.string t, .int .i64 y] = Y at *
  clear hX hY
  simp only [Program.fieldsOf, Tryd.underlying69]
  unfold sameS
  cases h : (s.toList == t.toList)
  · rw [h] at e0
    simp [Op.eqFields, p0, p1, q0, q1, e0]
  · rw [h] at e0
    simp [Op.eqFields, p0, p1, q0, q1, e0, e1]
    by_cases hxy : x = y <;> simp [hxy]
def sameB (L K : List TB) : Bool := decide (L.length = K.length) && (List.range L.length).all (fun i => sameS (L.getD i tb0).name (K.getD i tb0).name && decide ((L.getD i tb0).width = (K.getD i tb0).width))

set_option maxHeartbeats 2000000 in
theorem eqB_any {w : World} {a a2 : Option Addr} {n m : Nat} {L K : List TB} (h1 : BsR w a n L) (h2 : BsR w a2 m K) (c c2 : Nat) :
    Calls Tryd.prog 47 #[.slice a n c, .slice a2 m c2] w fun e w' => e = .returned (.bool (sameB L K)) ∧ Below w.heap.size w w' := by
  have H1 := Lib.hid h1
  have H2 := Lib.hid h2
  have hle := h1.le
  have hle2 := h2.le
  have e1 := h1.len
  have e2 := h2.len
  clear h1 h2
  by_cases hnm : n ≠ m
  · have r : Hid (sameB L K = false) := Lib.hid (by unfold sameB; simp; omega)
    have g := bnet (a := (n : Int)) (b := m) (by omega)
    rw [r.out]
    clear r
    go_enter Tryd.func47, Tryd.ntmps47
    go_wp2
    go_ret
    exact ⟨rfl, Below.refl _ _⟩
  obtain rfl : n = m := by simpa using hnm
  clear hnm
  have g := bnef0 (a := (n : Int)) (b := n) rfl
  go_enter Tryd.func47, Tryd.ntmps47
  go_wp2
  go_loopw [13] (fun i wr => ∃ j : Nat, j ≤ n ∧ i = .int .i64 j ∧ Hid (Below w.heap.size w wr) ∧ Hid (∀ i, i < j → (sameS (L.getD i tb0).name (K.getD i tb0).name && decide ((L.getD i tb0).width = (K.getD i tb0).width)) = true)) (fun i _ => n - (intOf i).toNat)
  case atStart => exact ⟨0, Nat.zero_le _, rfl, Lib.hid (Below.refl _ _), Lib.hid (fun i hi => by omega)⟩
  case round =>
    obtain ⟨j, hj, rfl, hw, hy⟩ := hrel
    by_cases hlt : j < n
    · obtain ⟨b, off, rfl, hb, hcell⟩ := H1.out.at (by omega)
      obtain ⟨b2, off2, rfl, hb2, hcell2⟩ := H2.out.at (by omega)
      have c1 := stepc hw.out hb (hcell j hlt).1
      have c1' := stepc hw.out hb (hcell j hlt).2
      have c2 := stepc hw.out hb2 (hcell2 j hlt).1
      have c2' := stepc hw.out hb2 (hcell2 j hlt).2
      have hjn : (j : Int) < n := by omega
      have hBn := Lib.hid (fun q => nextw hw.out (below_drewN wr q))
      clear hcell hcell2
      generalize e3 : (L.getD j tb0).name = s at *
      generalize e4 : (K.getD j tb0).name = t at *
      generalize e5 : (L.getD j tb0).width = x at *
      generalize e6 : (K.getD j tb0).width = y at *
      have hK0 : Hid ((sameS (L.getD j tb0).name (K.getD j tb0).name && decide ((L.getD j tb0).width = (K.getD j tb0).width)) = (sameS s t && decide (x = y))) := Lib.hid (by show _ = _; rw [e3, e4, e5, e6])
      clear e3 e4 e5 e6
      have hxx0 := fun W => bus_eqIn s t x y W
      have hK3 : Hid ((sameS s t && decide (x = y)) = false → sameB L K = false) := Lib.hid (fun h => by unfold sameB; rw [range_not (i := j) (by omega) (hK0.out.trans h)]; simp)
      have hK2 : Hid ((sameS s t && decide (x = y)) = true → ∀ i, i < j + 1 → (sameS (L.getD i tb0).name (K.getD i tb0).name && decide ((L.getD i tb0).width = (K.getD i tb0).width)) = true) := Lib.hid (fun h i hi => by
        by_cases e : i = j
        · rw [e]; exact hK0.out.trans h
        · exact hy.out i (by omega))
      clear hK0 hy
      rcases (show (sameS s t && decide (x = y)) = false ∨ (sameS s t && decide (x = y)) = true by cases (sameS s t && decide (x = y)) <;> simp) with e | e
      · rw [e] at hxx0
        have r := Lib.hid (hK3.out e)
        have hxx := hxx0
        clear hK2 hK3 e hxx0
        go_wp2
        go_quiet (fail)
        go_wp2
        go_ret
        exact ⟨ret_bool r.out.symm, hBn.out _⟩
      · rw [e] at hxx0
        have r := Lib.hid (hK2.out e)
        have hxx := hxx0
        clear hK2 hK3 e hxx0
        go_wp2
        go_quiet (fail)
        go_wp2
        exact ⟨⟨j + 1, by omega, by go_num, Lib.hid (hBn.out _), r⟩, by simp [intOf]; omega⟩
    · obtain rfl : j = n := by omega
      have r : Hid (sameB L K = true) := Lib.hid (by unfold sameB; rw [range_all (fun i hi => hy.out i (by omega))]; simp; omega)
      go_wp2
      go_ret
      exact ⟨ret_bool r.out.symm, hw.out⟩

def sameL (l k : List Int) : Bool := decide (l.length = k.length) && (List.range l.length).all (fun i => decide (l.getD i 0 = k.getD i 0))
def sameR (R S : List (List Int)) : Bool := decide (R.length = S.length) && (List.range R.length).all (fun i => sameL (R.getD i []) (S.getD i []))
set_option maxHeartbeats 2000000 in
theorem eqU_any {w : World} {a a2 : Option Addr} {n m : Nat} {l k : List Int} (h1 : Row .u64 w a n l) (h2 : Row .u64 w a2 m k) (c c2 : Nat) :
    Calls Tryd.prog 19 #[.slice a n c, .slice a2 m c2] w fun e w' => e = .returned (.bool (sameL l k)) ∧ Below w.heap.size w w' := by
  have H1 := Lib.hid h1
  have H2 := Lib.hid h2
  have hle := h1.le
  have hle2 := h2.le
  have e1 := h1.len
  have e2 := h2.len
  clear h1 h2
  by_cases hnm : n ≠ m
  · have r : Hid (sameL l k = false) := Lib.hid (by unfold sameL; simp; omega)
    have g := bnet (a := (n : Int)) (b := m) (by omega)
    rw [r.out]
    clear r
    go_enter Tryd.func19, Tryd.ntmps19
    go_wp2
    go_ret
    exact ⟨rfl, Below.refl _ _⟩
  obtain rfl : n = m := by simpa using hnm
  clear hnm
  have g := bnef0 (a := (n : Int)) (b := n) rfl
  go_enter Tryd.func19, Tryd.ntmps19
  go_wp2
  go_loopw [13] (fun i wr => ∃ j : Nat, j ≤ n ∧ i = .int .i64 j ∧ Hid (Below w.heap.size w wr) ∧ Hid (∀ i, i < j → decide (l.getD i 0 = k.getD i 0) = true)) (fun i _ => n - (intOf i).toNat)
  case atStart => exact ⟨0, Nat.zero_le _, rfl, Lib.hid (Below.refl _ _), Lib.hid (fun i hi => by omega)⟩
  case round =>
    obtain ⟨j, hj, rfl, hw, hy⟩ := hrel
    by_cases hlt : j < n
    · obtain ⟨b, off, rfl, hb, hcell⟩ := H1.out.at (by omega)
      obtain ⟨b2, off2, rfl, hb2, hcell2⟩ := H2.out.at (by omega)
      have c1 := stepc hw.out hb (hcell j hlt)
      have c2 := stepc hw.out hb2 (hcell2 j hlt)
      have hjn : (j : Int) < n := by omega
      have hBn := Lib.hid (fun q => nextw hw.out (below_drewN wr q))
      have hK3 : Hid (decide (l.getD j 0 = k.getD j 0) = false → sameL l k = false) := Lib.hid (fun h => by unfold sameL; rw [range_not (i := j) (by omega) h]; simp)
      have hK2 : Hid (decide (l.getD j 0 = k.getD j 0) = true → ∀ i, i < j + 1 → decide (l.getD i 0 = k.getD i 0) = true) := Lib.hid (fun h i hi => by
        by_cases e : i = j
        · rw [e]; exact h
        · exact hy.out i (by omega))
      clear hcell hcell2 hy
      generalize l.getD j 0 = x at *
      generalize k.getD j 0 = y at *
      by_cases e : x = y
      · have g2 := bnef0 e
        have r := Lib.hid (hK2.out (by simpa using e))
        clear hK2 hK3 e
        go_wp2
        go_quiet (fail)
        go_wp2
        exact ⟨⟨j + 1, by omega, by go_num, Lib.hid (hBn.out _), r⟩, by simp [intOf]; omega⟩
      · have g2 := bnet e
        have r := Lib.hid (hK3.out (by simpa using e))
        clear hK2 hK3 e
        go_wp2
        go_quiet (fail)
        go_wp2
        go_ret
        exact ⟨ret_bool r.out.symm, hBn.out _⟩
    · obtain rfl : j = n := by omega
      have r : Hid (sameL l k = true) := Lib.hid (by unfold sameL; rw [range_all (fun i hi => hy.out i (by omega))]; simp; omega)
      go_wp2
      go_ret
      exact ⟨ret_bool r.out.symm, hw.out⟩

set_option maxHeartbeats 2000000 in
theorem eqRows_any {w : World} {a a2 : Option Addr} {n m : Nat} {R S : List (List Int)} (h1 : RRk .u64 w a n R) (h2 : RRk .u64 w a2 m S) (c c2 : Nat) :
    Calls Tryd.prog 27 #[.slice a n c, .slice a2 m c2, .func (.func 19) #[] #[]] w fun e w' => e = .returned (.bool (sameR R S)) ∧ Below w.heap.size w w' := by
  have H1 := Lib.hid h1
  have H2 := Lib.hid h2
  have hle := h1.2.1
  have hle2 := h2.2.1
  have e1 := h1.1
  have e2 := h2.1
  clear h1 h2
  by_cases hnm : n ≠ m
  · have r : Hid (sameR R S = false) := Lib.hid (by unfold sameR; simp; omega)
    have g := bnet (a := (n : Int)) (b := m) (by omega)
    rw [r.out]
    clear r
    go_enter Tryd.func27, Tryd.ntmps27
    go_wp2
    go_ret
    exact ⟨rfl, Below.refl _ _⟩
  obtain rfl : n = m := by simpa using hnm
  clear hnm
  have g := bnef0 (a := (n : Int)) (b := n) rfl
  go_enter Tryd.func27, Tryd.ntmps27
  go_wp2
  go_loopw [17] (fun i wr => ∃ j : Nat, j ≤ n ∧ i = .int .i64 j ∧ Hid (Below w.heap.size w wr) ∧ Hid (∀ i, i < j → sameL (R.getD i []) (S.getD i []) = true)) (fun i _ => n - (intOf i).toNat)
  case atStart => exact ⟨0, Nat.zero_le _, rfl, Lib.hid (Below.refl _ _), Lib.hid (fun i hi => by omega)⟩
  case round =>
    obtain ⟨j, hj, rfl, hw, hy⟩ := hrel
    by_cases hlt : j < n
    · obtain ⟨b, off, rfl, hb, hcell⟩ := H1.out.at (by omega)
      obtain ⟨b2, off2, rfl, hb2, hcell2⟩ := H2.out.at (by omega)
      obtain ⟨ai, ci, r1, r2, r3, r4⟩ := hcell j hlt
      obtain ⟨bi, di, s1, s2, s3, s4⟩ := hcell2 j hlt
      have c1 := stepc hw.out hb r1
      have c2 := stepc hw.out hb2 s1
      have hjn : (j : Int) < n := by omega
      have hf := Lib.hid (eqU_any (r4.step hw.out) (s4.step hw.out) ci di)
      have hK3 : Hid (sameL (R.getD j []) (S.getD j []) = false → sameR R S = false) := Lib.hid (fun h => by unfold sameR; rw [range_not (i := j) (by omega) h]; simp)
      have hK2 : Hid (sameL (R.getD j []) (S.getD j []) = true → ∀ i, i < j + 1 → sameL (R.getD i []) (S.getD i []) = true) := Lib.hid (fun h i hi => by
        by_cases e : i = j
        · rw [e]; exact h
        · exact hy.out i (by omega))
      clear hcell hcell2 hy r1 s1 r4 s4
      generalize (R.getD j []).length = l1 at *
      generalize (S.getD j []).length = l2 at *
      rcases (show sameL (R.getD j []) (S.getD j []) = false ∨ sameL (R.getD j []) (S.getD j []) = true by cases sameL (R.getD j []) (S.getD j []) <;> simp) with e | e
      · rw [e] at hf
        have r := Lib.hid (hK3.out e)
        clear hK2 hK3 e
        go_wp2_with (go_at_call 19; (with_reducible refine hf.out.mono ?_); rintro e w5 ⟨rfl, hb5⟩)
        go_ret
        exact ⟨ret_bool r.out.symm, nextw hw.out hb5⟩
      · rw [e] at hf
        have r := Lib.hid (hK2.out e)
        clear hK2 hK3 e
        go_wp2_with (go_at_call 19; (with_reducible refine hf.out.mono ?_); rintro e w5 ⟨rfl, hb5⟩)
        exact ⟨⟨j + 1, by omega, by go_num, Lib.hid (nextw hw.out hb5), r⟩, by simp [intOf]; omega⟩
    · obtain rfl : j = n := by omega
      have r : Hid (sameR R S = true) := Lib.hid (by unfold sameR; rw [range_all (fun i hi => hy.out i (by omega))]; simp; omega)
      go_wp2
      go_ret
      exact ⟨ret_bool r.out.symm, hw.out⟩

/-- A box of a table, and what is behind it. -/
theorem tbox {w : World} {u v : Value} : ∀ x, x = w.alloc (.cells #[u, v] 25) → Below w.heap.size w x ∧ w.heap.size < x.heap.size ∧ x.cell? ⟨w.heap.size, 0, none⟩ = some u ∧ x.cell? ⟨w.heap.size, 1, none⟩ = some v := by
  rintro x rfl
  exact ⟨(Below.refl _ _).alloc (Nat.le_refl _) _, by simp, by simp [go_sem], by simp [go_sem]⟩
set_option maxHeartbeats 2000000 in
theorem Same_any {w : World} {a a2 b b2 : Option Addr} {n n2 m m2 : Nat} {L K : List TB} {R S : List (List Int)} (h : BsR w a n L) (h2 : RRk .u64 w a2 n2 R) (k : BsR w b m K) (k2 : RRk .u64 w b2 m2 S) (c c2 d d2 : Nat) :
    Calls Tryd.prog 22 #[.agg #[.slice a n c, .slice a2 n2 c2], .agg #[.slice b m d, .slice b2 m2 d2]] w fun e w' => e = .returned (.bool (sameB L K && sameR R S)) ∧ Below w.heap.size w w' := by
  have hx : Below w.heap.size w ((w.alloc (.cells #[.slice a n c, .slice a2 n2 c2] 25)).alloc (.cells #[.slice b m d, .slice b2 m2 d2] 25)) := ((Below.refl _ _).alloc (Nat.le_refl _) _).alloc (by simp) _
  have hE := Lib.hid (eqB_any (h.step hx) (k.step hx) c d)
  have hR := Lib.hid (fun w3 (hb : Below w.heap.size w w3) => eqRows_any (h2.step hb) (k2.step hb) c2 d2)
  have box2 : Hid (∀ w2, Below ((w.alloc (.cells #[.slice a n c, .slice a2 n2 c2] 25)).alloc (.cells #[.slice b m d, .slice b2 m2 d2] 25)).heap.size ((w.alloc (.cells #[.slice a n c, .slice a2 n2 c2] 25)).alloc (.cells #[.slice b m d, .slice b2 m2 d2] 25)) w2 →
      w2.cell? ⟨w.heap.size, 1, none⟩ = some (.slice a2 n2 c2) ∧ w2.cell? ⟨w.heap.size + 1, 1, none⟩ = some (.slice b2 m2 d2)) :=
    Lib.hid (fun w2 hb => ⟨stepc hb (by simp; omega) (by simp [go_sem]), stepc hb (by simp) (by simp [go_sem])⟩)
  have hx := Lib.hid hx
  clear h h2 k k2
  rcases (show sameB L K = false ∨ sameB L K = true by cases sameB L K <;> simp) with e | e
  · rw [e] at hE ⊢
    go_enter Tryd.func22, Tryd.ntmps22
    go_wp2_with (go_at_call 47; (with_reducible refine hE.out.mono ?_); rintro e w5 ⟨rfl, hb5⟩; have hB5 := Lib.hid (nextw hx.out hb5); clear hb5)
    go_ret
    exact ⟨rfl, hB5.out⟩
  · rw [e] at hE ⊢
    rw [Bool.true_and]
    generalize sameR R S = v at *
    go_enter Tryd.func22, Tryd.ntmps22
    go_wp2_with (first
      | (go_at_call 47; (with_reducible refine hE.out.mono ?_); rintro e w5 ⟨rfl, hb5⟩; obtain ⟨d1, d3⟩ := box2.out _ hb5; have hB5 := Lib.hid (nextw hx.out hb5); clear hb5 box2)
      | (go_at_call 27; (with_reducible refine (hR.out _ hB5.out).mono ?_); rintro e w6 ⟨rfl, hb6⟩; have hB6 := Lib.hid (nextw hB5.out hb6); clear hb6))
    go_ret
    exact ⟨rfl, hB6.out⟩
end Go.Proofs.YtnhpjacodhdpeaaDoor
