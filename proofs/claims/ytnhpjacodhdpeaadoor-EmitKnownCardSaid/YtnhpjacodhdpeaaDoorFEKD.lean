/-
  Package trace: the greatest numbers; a row held against them; May.
  Package trace: the same buses, the same rows.
  Numbers as text: two digits of base 10; base 16.
-/
import Derived.Test.YtnhpjacodhdpeaaDoorFEKC
import Derived.Lib.AppendStr
import Derived.Deep.AppendLies
section
namespace Go.Proofs.YtnhpjacodhdpeaaDoor
open Go.RowKit Go.Maps Bits
set_option maxRecDepth 100000

theorem info_u64t : (Tryd.prog.info? 46).map (fun i => (i.zero, i.size, i.bytes)) = some (some (.int .u64 0), 1, 8) := by kernel_rfl
theorem tops_row {L : List TB} {n : Nat} (h : L.length = n) : tops L = row n (fun i => topT (L.getD i tb0).width) := by
  apply List.ext_getElem
  · simp [tops, row, h]
  · intro i h1 h2
    have hi : i < L.length := by simpa [tops] using h1
    simp [tops, row, List.getD, hi]

/-- The next number of a row that is being filled. -/
theorem fill_put {w : World} {base T k b j : Nat} {F : Nat → Int} {kd : IntKind} (ho : w.ownsRow base T 1 (.slice (some ⟨b, 0, none⟩) k k) k ((fillF F k j).map (Value.int kd))) (hj : j < k) :
    (∃ u, w.cell? ⟨b, j, none⟩ = some u) ∧ w.frozen? ⟨b, j, none⟩ = false ∧ (w.setCell ⟨b, j, none⟩ (.int kd (F j))).ownsRow base T 1 (.slice (some ⟨b, 0, none⟩) k k) k ((fillF F k (j + 1)).map (Value.int kd)) ∧ Below base w (w.setCell ⟨b, j, none⟩ (.int kd (F j))) := by
  have hb := own_ge ho b rfl
  refine ⟨own_some ho hj, ho.frozenAt j, ?_, (Below.refl _ _).setCell (p := ⟨b, j, none⟩) hb _⟩
  rw [← fillK_set]
  exact (ho.stored j _).1

set_option maxHeartbeats 2000000 in
theorem greatest_any {w : World} {a : Option Addr} {n : Nat} {L : List TB} (h : BsR w a n L) (c : Nat) (hn : n ≤ 512) :
    Calls Tryd.prog 50 #[.slice a n c] w fun e w' => e = .returned (.slice (some ⟨w.heap.size, 0, none⟩) n n) ∧ w'.ownsRow w.heap.size 46 1 (.slice (some ⟨w.heap.size, 0, none⟩) n n) n ((tops L).map (Value.int .u64)) ∧ Below w.heap.size w w' := by
  obtain ⟨i0, hin, hz0, hz1, hz2⟩ := info_parts info_u64t
  have hle := h.le
  have H := Lib.hid h
  have HL := Lib.hid h.len
  rw [tops_row h.len]
  have hF := Lib.hid (show ∀ i, (fun i => topT (L.getD i tb0).width) i = cut false false (L.getD i tb0).width 18446744073709551615 from fun i => rfl)
  generalize (fun i => topT (L.getD i tb0).width) = F at *
  clear h
  have HZ := Lib.hid (fillK_zero .u64 F n)
  go_enter Tryd.func50, Tryd.ntmps50
  go_wp2_with (at_make; refine wpList_make_full _ rfl _ _ 37 rfl w.heap.size 46 i0 (.int .u64 0) 1 Tryd.underlying37 hin hz0 hz1 .i64 .i64 n n n rfl rfl rfl rfl (by rw [hz2]; omega) (by unfold maxLen; omega) (Nat.le_refl _) ?_; intro w3 hown hg)
  go_loopw [11] (fun i wr => ∃ j : Nat, j ≤ n ∧ i = .int .i64 j ∧ Hid (wr.ownsRow w.heap.size 46 1 (.slice (some ⟨w.heap.size, 0, none⟩) n n) n ((fillF F n j).map (Value.int .u64))) ∧ Hid (Below w.heap.size w wr)) (fun i _ => n - (intOf i).toNat)
  case atStart => exact ⟨0, Nat.zero_le _, rfl, Lib.hid (by rw [← HZ.out]; exact hown), Lib.hid ((Below.refl _ _).grown hg (Nat.le_refl _) (fun _ h => by cases h))⟩
  case round =>
    clear hown hg HZ
    obtain ⟨j, hj, rfl, hown, hw⟩ := hrel
    by_cases hlt : j < n
    · obtain ⟨g, off, rfl, hg, hcell⟩ := H.out.at (by omega)
      obtain ⟨b0, b1⟩ := hcell j hlt
      have c0 := stepc hw.out hg b0
      have c1 := stepc hw.out hg b1
      have hjn : (j : Int) < n := by omega
      have hFj := Lib.hid (hF.out j)
      clear b0 b1 hcell
      generalize (L.getD j tb0).name = nm at *
      generalize (L.getD j tb0).width = wd at *
      have hcut := Lib.hid (fun w => cut_any false false wd 18446744073709551615 w)
      rw [← hFj.out] at hcut
      have hbox : ∀ x, x = wr.alloc (.cells #[.string nm, .int .i64 wd] 69) → Below wr.heap.size wr x ∧ wr.heap.size < x.heap.size ∧ x.cell? ⟨wr.heap.size, 0, none⟩ = some (.string nm) ∧ x.cell? ⟨wr.heap.size, 1, none⟩ = some (.int .i64 wd) := by
        rintro x rfl
        exact ⟨(Below.refl _ _).alloc (Nat.le_refl _) _, by simp, by simp [go_sem], by simp [go_sem]⟩
      have hbox := Lib.hid hbox
      clear hFj
      go_upto_region 5 with fail
      generalize hwa : wr.alloc (.cells #[.string nm, .int .i64 wd] 69) = wa
      obtain ⟨hba, hza, d0, d1⟩ := hbox.out wa hwa.symm
      clear hbox hwa
      have hown2 := Lib.hid (own_below hown.out hba)
      have hB2 := Lib.hid (nextw hw.out hba)
      clear hown hw hba
      have hjj : j < n := hlt
      go_wp2_with (go_at_call 90; (with_reducible refine (hcut.out _).mono ?_); rintro e w5 ⟨rfl, hb5⟩; have hp := fill_put (own_below hown2.out hb5) hjj; obtain ⟨⟨u, hu⟩, hfz, hst, hbs⟩ := hp; have hst := Lib.hid hst; have hbs := Lib.hid hbs; have hb5 := Lib.hid hb5)
      exact ⟨⟨j + 1, by omega, by go_num, Lib.hid hst.out, Lib.hid ((nextw hB2.out hb5.out).trans hbs.out)⟩, by simp [intOf]; omega⟩
    · obtain rfl : j = n := by omega
      rw [fillF_full] at hown
      go_wp2
      go_ret
      exact ⟨rfl, hown.out, hw.out⟩

theorem fits_any (x y : Int) (w : World) :
    Calls Tryd.prog 52 #[.int .u64 x, .int .u64 y] w fun e w' => e = .returned (.bool (decide (x ≤ y))) ∧ w = w' := by
  go_enter Tryd.func52, Tryd.ntmps52
  go_wp2
  go_ret
  exact ⟨rfl, rfl⟩
theorem bnetT {a b : Int} (h : a ≠ b) : (a != b) = true := by simp [h]
theorem bnef0 {a b : Int} (h : a = b) : (a != b) = false := by simp [h]
set_option maxHeartbeats 2000000 in
theorem eqf_any {w : World} {a a2 : Option Addr} {n m : Nat} {l k : List Int} (h1 : Row .u64 w a n l) (h2 : Row .u64 w a2 m k) (c c2 : Nat) :
    Calls Tryd.prog 51 #[.slice a n c, .slice a2 m c2, .func (.func 52) #[] #[]] w fun e w' => e = .returned (.bool (fitsL l k)) ∧ Below w.heap.size w w' := by
  have H1 := Lib.hid h1
  have H2 := Lib.hid h2
  have hle := h1.le
  have hle2 := h2.le
  have e1 := h1.len
  have e2 := h2.len
  clear h1 h2
  by_cases hnm : n ≠ m
  · have r : Hid (fitsL l k = false) := Lib.hid (by unfold fitsL; simp; omega)
    have g := bnetT (a := (n : Int)) (b := m) (by omega)
    rw [r.out]
    clear r
    go_enter Tryd.func51, Tryd.ntmps51
    go_wp2
    go_ret
    exact ⟨rfl, Below.refl _ _⟩
  obtain rfl : n = m := by simpa using hnm
  clear hnm
  have g := bnef0 (a := (n : Int)) (b := n) rfl
  go_enter Tryd.func51, Tryd.ntmps51
  go_wp2
  go_loopw [17] (fun i wr => ∃ j : Nat, j ≤ n ∧ i = .int .i64 j ∧ Hid (Below w.heap.size w wr) ∧ Hid (∀ i, i < j → decide (l.getD i 0 ≤ k.getD i 0) = true)) (fun i _ => n - (intOf i).toNat)
  case atStart => exact ⟨0, Nat.zero_le _, rfl, Lib.hid (Below.refl _ _), Lib.hid (fun i hi => by omega)⟩
  case round =>
    obtain ⟨j, hj, rfl, hw, hy⟩ := hrel
    by_cases hlt : j < n
    · obtain ⟨b, off, rfl, hb, hcell⟩ := H1.out.at (by omega)
      obtain ⟨b2, off2, rfl, hb2, hcell2⟩ := H2.out.at (by omega)
      have c1 := stepc hw.out hb (hcell j hlt)
      have c2 := stepc hw.out hb2 (hcell2 j hlt)
      have hjn : (j : Int) < n := by omega
      have hf := Lib.hid (fun w => fits_any (l.getD j 0) (k.getD j 0) w)
      have hK3 : Hid (decide (l.getD j 0 ≤ k.getD j 0) = false → fitsL l k = false) := Lib.hid (fun h => by unfold fitsL; rw [range_not (i := j) (by omega) h]; simp)
      have hK2 : Hid (decide (l.getD j 0 ≤ k.getD j 0) = true → ∀ i, i < j + 1 → decide (l.getD i 0 ≤ k.getD i 0) = true) := Lib.hid (fun h i hi => by
        by_cases e : i = j
        · rw [e]; exact h
        · exact hy.out i (by omega))
      clear hcell hcell2 hy
      generalize l.getD j 0 = x at *
      generalize k.getD j 0 = y at *
      rcases (show decide (x ≤ y) = false ∨ decide (x ≤ y) = true by cases decide (x ≤ y) <;> simp) with e | e
      · rw [e] at hf
        have r := Lib.hid (hK3.out e)
        clear hK2 hK3 e
        go_wp2_with (go_at_call 52; (with_reducible refine (hf.out _).mono ?_); rintro e w5 ⟨rfl, rfl⟩)
        go_ret
        exact ⟨ret_bool r.out.symm, hw.out⟩
      · rw [e] at hf
        have r := Lib.hid (hK2.out e)
        clear hK2 hK3 e
        go_wp2_with (go_at_call 52; (with_reducible refine (hf.out _).mono ?_); rintro e w5 ⟨rfl, rfl⟩)
        exact ⟨⟨j + 1, by omega, by go_num, hw, r⟩, by simp [intOf]; omega⟩
    · obtain rfl : j = n := by omega
      have r : Hid (fitsL l k = true) := Lib.hid (by unfold fitsL; rw [range_all (fun i hi => hy.out i (by omega))]; simp; omega)
      go_wp2
      go_ret
      exact ⟨ret_bool r.out.symm, hw.out⟩

theorem own_rows {w : World} {base T : Nat} {v : Value} {n : Nat} {l : List Int} (h : w.ownsRow base T 1 v n (l.map (Value.int .u64))) (hl : l.length = n) (hn : n ≤ 9223372036854775807) : ∃ a c, v = .slice a n c ∧ Row .u64 w a n l := by
  obtain ⟨a, c, rfl⟩ := own_slice h
  exact ⟨a, c, rfl, Row.of_own h hl hn⟩

set_option maxHeartbeats 2000000 in
theorem May_any {w : World} {a a2 : Option Addr} {n m : Nat} {L : List TB} {R : List (List Int)} (h : BsR w a n L) (h2 : RRk .u64 w a2 m R) (c c2 : Nat) (hc : n ≤ c) :
    Calls Tryd.prog 20 #[.agg #[.slice a n c, .slice a2 m c2]] w fun e w' => e = .returned (.bool (mayT L R)) ∧ Below w.heap.size w w' := by
  have hbx : Below w.heap.size w (w.alloc (.cells #[.slice a n c, .slice a2 m c2] 25)) := (Below.refl _ _).alloc (Nat.le_refl _) _
  have hmb := Lib.hid (mayBuses_any (h.step hbx) c hc)
  have hle2 := h2.2.1
  have e1 := h.len
  have e2 := h2.1
  have hbx := Lib.hid hbx
  have box2 : Hid (∀ w2, Below (w.alloc (.cells #[.slice a n c, .slice a2 m c2] 25)).heap.size (w.alloc (.cells #[.slice a n c, .slice a2 m c2] 25)) w2 → w.heap.size < w2.heap.size ∧ w2.cell? ⟨w.heap.size, 0, none⟩ = some (.slice a n c) ∧ w2.cell? ⟨w.heap.size, 1, none⟩ = some (.slice a2 m c2)) :=
    Lib.hid (fun w2 hb => ⟨by have := hb.size; simp at this; omega, stepc hb (by simp) (by simp [go_sem]), stepc hb (by simp) (by simp [go_sem])⟩)
  rcases (show busesT L = false ∨ busesT L = true by cases busesT L <;> simp) with k1 | k1
  · rw [k1] at hmb
    rw [show mayT L R = false by unfold mayT; rw [k1]; rfl]
    clear h h2
    go_enter Tryd.func20, Tryd.ntmps20
    go_wp2_with (go_at_call 49; (with_reducible refine hmb.out.mono ?_); rintro e w5 ⟨rfl, hb5⟩; have hB5 := Lib.hid (nextw hbx.out hb5); clear hb5)
    go_ret
    exact ⟨rfl, hB5.out⟩
  rw [k1] at hmb
  have hn512 : n ≤ 512 := by unfold busesT at k1; simp at k1; omega
  by_cases k2 : 4096 < m
  · have g2 : decide (4096 < (m : Int)) = true := by simp; omega
    rw [show mayT L R = false by unfold mayT; simp; omega]
    clear h h2
    go_enter Tryd.func20, Tryd.ntmps20
    go_wp2_with (go_at_call 49; (with_reducible refine hmb.out.mono ?_); rintro e w5 ⟨rfl, hb5⟩; obtain ⟨hz, d0, d1⟩ := box2.out _ hb5; have hB5 := Lib.hid (nextw hbx.out hb5); clear hb5 box2)
    go_ret
    exact ⟨rfl, hB5.out⟩
  have g2 : decide (4096 < (m : Int)) = false := by simp; omega
  have HL := Lib.hid h
  have HR := Lib.hid h2
  have hM : Hid (mayT L R = (List.range m).all (fun i => fitsL (R.getD i []) (tops L))) := Lib.hid (by show _ = _; unfold mayT; rw [k1, e2]; simp; omega)
  rw [hM.out]
  clear h h2 hM
  go_enter Tryd.func20, Tryd.ntmps20
  go_wp2_with (first
    | (go_at_call 49; (with_reducible refine hmb.out.mono ?_); rintro e w5 ⟨rfl, hb5⟩; obtain ⟨hz, d0, d1⟩ := box2.out _ hb5; have hB5 := Lib.hid (nextw hbx.out hb5); have hG := Lib.hid (greatest_any (HL.out.step hB5.out) c hn512); clear hb5 box2 hmb)
    | (go_at_call 50; (with_reducible refine hG.out.mono ?_); rintro e w6 ⟨rfl, ho6, hb6⟩; have d0' := stepc hb6 hz d0; have d1' := stepc hb6 hz d1; have hT := Lib.hid (Row.of_own ho6 (by rw [tops_len]; exact e1) (by omega)); have hB6 := Lib.hid (nextw hB5.out hb6); clear d0 d1 hb6 ho6 hG))
  go_loopw [22] (fun i wr => ∃ j : Nat, j ≤ m ∧ i = .int .i64 j ∧ Hid (Below w6.heap.size w6 wr) ∧ Hid (∀ i, i < j → fitsL (R.getD i []) (tops L) = true)) (fun i _ => m - (intOf i).toNat)
  case atStart => exact ⟨0, Nat.zero_le _, rfl, Lib.hid (Below.refl _ _), Lib.hid (fun i hi => by omega)⟩
  case round =>
    obtain ⟨j, hj, rfl, hw, hy⟩ := hrel
    by_cases hlt : j < m
    · obtain ⟨b, off, rfl, hb, hcell⟩ := (HR.out.step hB6.out).at (by omega)
      obtain ⟨ai, ci, r1, r2, r3, r4⟩ := hcell j hlt
      have c1 := stepc hw.out hb r1
      have hjn : (j : Int) < m := by omega
      have hf := Lib.hid (eqf_any (r4.step hw.out) (hT.out.step hw.out) ci n)
      have hK2 : Hid (fitsL (R.getD j []) (tops L) = true → ∀ i, i < j + 1 → fitsL (R.getD i []) (tops L) = true) := Lib.hid (fun h i hi => by
        by_cases e : i = j
        · rw [e]; exact h
        · exact hy.out i (by omega))
      have hK3 : Hid (fitsL (R.getD j []) (tops L) = false → (List.range m).all (fun i => fitsL (R.getD i []) (tops L)) = false) := Lib.hid (fun h => range_not hlt h)
      clear hcell hy r1 r4
      generalize (R.getD j []).length = len at *
      rcases (show fitsL (R.getD j []) (tops L) = false ∨ fitsL (R.getD j []) (tops L) = true by cases fitsL (R.getD j []) (tops L) <;> simp) with e | e
      · rw [e] at hf
        have r := Lib.hid (hK3.out e)
        clear hK2 hK3 e
        go_wp2_with (go_at_call 51; (with_reducible refine hf.out.mono ?_); rintro e w7 ⟨rfl, hb7⟩)
        go_ret
        exact ⟨ret_bool r.out.symm, nextw (nextw hB6.out hw.out) hb7⟩
      · rw [e] at hf
        have r := Lib.hid (hK2.out e)
        clear hK2 hK3 e
        go_wp2_with (go_at_call 51; (with_reducible refine hf.out.mono ?_); rintro e w7 ⟨rfl, hb7⟩)
        exact ⟨⟨j + 1, by omega, by go_num, Lib.hid (nextw hw.out hb7), r⟩, by simp [intOf]; omega⟩
    · obtain rfl : j = m := by omega
      go_wp2
      go_ret
      exact ⟨ret_bool (range_all hy.out).symm, nextw hB6.out hw.out⟩
end Go.Proofs.YtnhpjacodhdpeaaDoor
end

section
namespace Go.Proofs.YtnhpjacodhdpeaaDoor
open Go.RowKit Go.Maps Bits
set_option maxRecDepth 100000

theorem sameS_iff {s t : ByteArray} : sameS s t = true ↔ s = t := by
  unfold sameS
  rw [ByteArray.toList_eq, ByteArray.toList_eq]
  constructor
  · intro h; exact WideShapes.bytes_inj (by simpa using h)
  · rintro rfl; simp
theorem part_str (xs : Array Value) (W : World) {i : Nat} {v : Value} (h : xs[i]? = some v) : (part 9 xs i).run Tryd.prog W = .ok v W := run_part_plain W (by kernel_rfl) h
theorem part_int (xs : Array Value) (W : World) {i : Nat} {v : Value} (h : xs[i]? = some v) : (part 3 xs i).run Tryd.prog W = .ok v W := run_part_plain W (by kernel_rfl) h
theorem bus_eqIn (s t : ByteArray) (x y : Int) (W : World) : (Op.equalIn 10000 69 (.agg #[.string s, .int .i64 x]) (.agg #[.string t, .int .i64 y])).run Tryd.prog W = .ok (sameS s t && decide (x = y)) W := by
  rw [run_equalIn_agg W 9999 _ _ _ (by kernel_rfl) (by kernel_rfl)]
  have p0 := part_str #[.string s, .int .i64 x] W (i := 0) (v := .string s) rfl
  have p1 := part_int #[.string s, .int .i64 x] W (i := 1) (v := .int .i64 x) rfl
  have q0 := part_str #[.string t, .int .i64 y] W (i := 0) (v := .string t) rfl
  have q1 := part_int #[.string t, .int .i64 y] W (i := 1) (v := .int .i64 y) rfl
  have e0 := run_equalIn_string (P := Tryd.prog) W 9998 9 s t Tryd.underlying9
  have e1 := run_equalIn_int (P := Tryd.prog) W 9998 3 .i64 .i64 x y Tryd.underlying3
  generalize hX : #[Value.string s, .int .i64 x] = X at *
  generalize hY : #[Value.string t, .int .i64 y] = Y at *
  clear hX hY
  simp only [Program.fieldsOf, Tryd.underlying69]
  unfold sameS
  cases h : (s.toList == t.toList)
  · rw [h] at e0
    simp [Op.eqFields, p0, p1, q0, q1, e0]
  · rw [h] at e0
    simp [Op.eqFields, p0, p1, q0, q1, e0, e1]
    by_cases hxy : x = y <;> simp [hxy]
def sameB (L K : List TB) : Bool := decide (L.length = K.length) && (List.range L.length).all (fun i => sameS (L.getD i tb0).name (K.getD i tb0).name && decide ((L.getD i tb0).width = (K.getD i tb0).width))

set_option maxHeartbeats 2000000 in
theorem eqB_any {w : World} {a a2 : Option Addr} {n m : Nat} {L K : List TB} (h1 : BsR w a n L) (h2 : BsR w a2 m K) (c c2 : Nat) :
    Calls Tryd.prog 47 #[.slice a n c, .slice a2 m c2] w fun e w' => e = .returned (.bool (sameB L K)) ∧ Below w.heap.size w w' := by
  have H1 := Lib.hid h1
  have H2 := Lib.hid h2
  have hle := h1.le
  have hle2 := h2.le
  have e1 := h1.len
  have e2 := h2.len
  clear h1 h2
  by_cases hnm : n ≠ m
  · have r : Hid (sameB L K = false) := Lib.hid (by unfold sameB; simp; omega)
    have g := bnetT (a := (n : Int)) (b := m) (by omega)
    rw [r.out]
    clear r
    go_enter Tryd.func47, Tryd.ntmps47
    go_wp2
    go_ret
    exact ⟨rfl, Below.refl _ _⟩
  obtain rfl : n = m := by simpa using hnm
  clear hnm
  have g := bnef0 (a := (n : Int)) (b := n) rfl
  go_enter Tryd.func47, Tryd.ntmps47
  go_wp2
  go_loopw [13] (fun i wr => ∃ j : Nat, j ≤ n ∧ i = .int .i64 j ∧ Hid (Below w.heap.size w wr) ∧ Hid (∀ i, i < j → (sameS (L.getD i tb0).name (K.getD i tb0).name && decide ((L.getD i tb0).width = (K.getD i tb0).width)) = true)) (fun i _ => n - (intOf i).toNat)
  case atStart => exact ⟨0, Nat.zero_le _, rfl, Lib.hid (Below.refl _ _), Lib.hid (fun i hi => by omega)⟩
  case round =>
    obtain ⟨j, hj, rfl, hw, hy⟩ := hrel
    by_cases hlt : j < n
    · obtain ⟨b, off, rfl, hb, hcell⟩ := H1.out.at (by omega)
      obtain ⟨b2, off2, rfl, hb2, hcell2⟩ := H2.out.at (by omega)
      have c1 := stepc hw.out hb (hcell j hlt).1
      have c1' := stepc hw.out hb (hcell j hlt).2
      have c2 := stepc hw.out hb2 (hcell2 j hlt).1
      have c2' := stepc hw.out hb2 (hcell2 j hlt).2
      have hjn : (j : Int) < n := by omega
      have hBn := Lib.hid (fun q => nextw hw.out (below_drewN wr q))
      clear hcell hcell2
      generalize e3 : (L.getD j tb0).name = s at *
      generalize e4 : (K.getD j tb0).name = t at *
      generalize e5 : (L.getD j tb0).width = x at *
      generalize e6 : (K.getD j tb0).width = y at *
      have hK0 : Hid ((sameS (L.getD j tb0).name (K.getD j tb0).name && decide ((L.getD j tb0).width = (K.getD j tb0).width)) = (sameS s t && decide (x = y))) := Lib.hid (by show _ = _; rw [e3, e4, e5, e6])
      clear e3 e4 e5 e6
      have hxx0 := fun W => bus_eqIn s t x y W
      have hK3 : Hid ((sameS s t && decide (x = y)) = false → sameB L K = false) := Lib.hid (fun h => by unfold sameB; rw [range_not (i := j) (by omega) (hK0.out.trans h)]; simp)
      have hK2 : Hid ((sameS s t && decide (x = y)) = true → ∀ i, i < j + 1 → (sameS (L.getD i tb0).name (K.getD i tb0).name && decide ((L.getD i tb0).width = (K.getD i tb0).width)) = true) := Lib.hid (fun h i hi => by
        by_cases e : i = j
        · rw [e]; exact hK0.out.trans h
        · exact hy.out i (by omega))
      clear hK0 hy
      rcases (show (sameS s t && decide (x = y)) = false ∨ (sameS s t && decide (x = y)) = true by cases (sameS s t && decide (x = y)) <;> simp) with e | e
      · rw [e] at hxx0
        have r := Lib.hid (hK3.out e)
        have hxx := hxx0
        clear hK2 hK3 e hxx0
        go_wp2
        go_quiet (fail)
        go_wp2
        go_ret
        exact ⟨ret_bool r.out.symm, hBn.out _⟩
      · rw [e] at hxx0
        have r := Lib.hid (hK2.out e)
        have hxx := hxx0
        clear hK2 hK3 e hxx0
        go_wp2
        go_quiet (fail)
        go_wp2
        exact ⟨⟨j + 1, by omega, by go_num, Lib.hid (hBn.out _), r⟩, by simp [intOf]; omega⟩
    · obtain rfl : j = n := by omega
      have r : Hid (sameB L K = true) := Lib.hid (by unfold sameB; rw [range_all (fun i hi => hy.out i (by omega))]; simp; omega)
      go_wp2
      go_ret
      exact ⟨ret_bool r.out.symm, hw.out⟩

def sameL (l k : List Int) : Bool := decide (l.length = k.length) && (List.range l.length).all (fun i => decide (l.getD i 0 = k.getD i 0))
def sameR (R S : List (List Int)) : Bool := decide (R.length = S.length) && (List.range R.length).all (fun i => sameL (R.getD i []) (S.getD i []))
set_option maxHeartbeats 2000000 in
theorem eqU_any {w : World} {a a2 : Option Addr} {n m : Nat} {l k : List Int} (h1 : Row .u64 w a n l) (h2 : Row .u64 w a2 m k) (c c2 : Nat) :
    Calls Tryd.prog 19 #[.slice a n c, .slice a2 m c2] w fun e w' => e = .returned (.bool (sameL l k)) ∧ Below w.heap.size w w' := by
  have H1 := Lib.hid h1
  have H2 := Lib.hid h2
  have hle := h1.le
  have hle2 := h2.le
  have e1 := h1.len
  have e2 := h2.len
  clear h1 h2
  by_cases hnm : n ≠ m
  · have r : Hid (sameL l k = false) := Lib.hid (by unfold sameL; simp; omega)
    have g := bnetT (a := (n : Int)) (b := m) (by omega)
    rw [r.out]
    clear r
    go_enter Tryd.func19, Tryd.ntmps19
    go_wp2
    go_ret
    exact ⟨rfl, Below.refl _ _⟩
  obtain rfl : n = m := by simpa using hnm
  clear hnm
  have g := bnef0 (a := (n : Int)) (b := n) rfl
  go_enter Tryd.func19, Tryd.ntmps19
  go_wp2
  go_loopw [13] (fun i wr => ∃ j : Nat, j ≤ n ∧ i = .int .i64 j ∧ Hid (Below w.heap.size w wr) ∧ Hid (∀ i, i < j → decide (l.getD i 0 = k.getD i 0) = true)) (fun i _ => n - (intOf i).toNat)
  case atStart => exact ⟨0, Nat.zero_le _, rfl, Lib.hid (Below.refl _ _), Lib.hid (fun i hi => by omega)⟩
  case round =>
    obtain ⟨j, hj, rfl, hw, hy⟩ := hrel
    by_cases hlt : j < n
    · obtain ⟨b, off, rfl, hb, hcell⟩ := H1.out.at (by omega)
      obtain ⟨b2, off2, rfl, hb2, hcell2⟩ := H2.out.at (by omega)
      have c1 := stepc hw.out hb (hcell j hlt)
      have c2 := stepc hw.out hb2 (hcell2 j hlt)
      have hjn : (j : Int) < n := by omega
      have hBn := Lib.hid (fun q => nextw hw.out (below_drewN wr q))
      have hK3 : Hid (decide (l.getD j 0 = k.getD j 0) = false → sameL l k = false) := Lib.hid (fun h => by unfold sameL; rw [range_not (i := j) (by omega) h]; simp)
      have hK2 : Hid (decide (l.getD j 0 = k.getD j 0) = true → ∀ i, i < j + 1 → decide (l.getD i 0 = k.getD i 0) = true) := Lib.hid (fun h i hi => by
        by_cases e : i = j
        · rw [e]; exact h
        · exact hy.out i (by omega))
      clear hcell hcell2 hy
      generalize l.getD j 0 = x at *
      generalize k.getD j 0 = y at *
      by_cases e : x = y
      · have g2 := bnef0 e
        have r := Lib.hid (hK2.out (by simpa using e))
        clear hK2 hK3 e
        go_wp2
        go_quiet (fail)
        go_wp2
        exact ⟨⟨j + 1, by omega, by go_num, Lib.hid (hBn.out _), r⟩, by simp [intOf]; omega⟩
      · have g2 := bnetT e
        have r := Lib.hid (hK3.out (by simpa using e))
        clear hK2 hK3 e
        go_wp2
        go_quiet (fail)
        go_wp2
        go_ret
        exact ⟨ret_bool r.out.symm, hBn.out _⟩
    · obtain rfl : j = n := by omega
      have r : Hid (sameL l k = true) := Lib.hid (by unfold sameL; rw [range_all (fun i hi => hy.out i (by omega))]; simp; omega)
      go_wp2
      go_ret
      exact ⟨ret_bool r.out.symm, hw.out⟩

set_option maxHeartbeats 2000000 in
theorem eqRows_any {w : World} {a a2 : Option Addr} {n m : Nat} {R S : List (List Int)} (h1 : RRk .u64 w a n R) (h2 : RRk .u64 w a2 m S) (c c2 : Nat) :
    Calls Tryd.prog 27 #[.slice a n c, .slice a2 m c2, .func (.func 19) #[] #[]] w fun e w' => e = .returned (.bool (sameR R S)) ∧ Below w.heap.size w w' := by
  have H1 := Lib.hid h1
  have H2 := Lib.hid h2
  have hle := h1.2.1
  have hle2 := h2.2.1
  have e1 := h1.1
  have e2 := h2.1
  clear h1 h2
  by_cases hnm : n ≠ m
  · have r : Hid (sameR R S = false) := Lib.hid (by unfold sameR; simp; omega)
    have g := bnetT (a := (n : Int)) (b := m) (by omega)
    rw [r.out]
    clear r
    go_enter Tryd.func27, Tryd.ntmps27
    go_wp2
    go_ret
    exact ⟨rfl, Below.refl _ _⟩
  obtain rfl : n = m := by simpa using hnm
  clear hnm
  have g := bnef0 (a := (n : Int)) (b := n) rfl
  go_enter Tryd.func27, Tryd.ntmps27
  go_wp2
  go_loopw [17] (fun i wr => ∃ j : Nat, j ≤ n ∧ i = .int .i64 j ∧ Hid (Below w.heap.size w wr) ∧ Hid (∀ i, i < j → sameL (R.getD i []) (S.getD i []) = true)) (fun i _ => n - (intOf i).toNat)
  case atStart => exact ⟨0, Nat.zero_le _, rfl, Lib.hid (Below.refl _ _), Lib.hid (fun i hi => by omega)⟩
  case round =>
    obtain ⟨j, hj, rfl, hw, hy⟩ := hrel
    by_cases hlt : j < n
    · obtain ⟨b, off, rfl, hb, hcell⟩ := H1.out.at (by omega)
      obtain ⟨b2, off2, rfl, hb2, hcell2⟩ := H2.out.at (by omega)
      obtain ⟨ai, ci, r1, r2, r3, r4⟩ := hcell j hlt
      obtain ⟨bi, di, s1, s2, s3, s4⟩ := hcell2 j hlt
      have c1 := stepc hw.out hb r1
      have c2 := stepc hw.out hb2 s1
      have hjn : (j : Int) < n := by omega
      have hf := Lib.hid (eqU_any (r4.step hw.out) (s4.step hw.out) ci di)
      have hK3 : Hid (sameL (R.getD j []) (S.getD j []) = false → sameR R S = false) := Lib.hid (fun h => by unfold sameR; rw [range_not (i := j) (by omega) h]; simp)
      have hK2 : Hid (sameL (R.getD j []) (S.getD j []) = true → ∀ i, i < j + 1 → sameL (R.getD i []) (S.getD i []) = true) := Lib.hid (fun h i hi => by
        by_cases e : i = j
        · rw [e]; exact h
        · exact hy.out i (by omega))
      clear hcell hcell2 hy r1 s1 r4 s4
      generalize (R.getD j []).length = l1 at *
      generalize (S.getD j []).length = l2 at *
      rcases (show sameL (R.getD j []) (S.getD j []) = false ∨ sameL (R.getD j []) (S.getD j []) = true by cases sameL (R.getD j []) (S.getD j []) <;> simp) with e | e
      · rw [e] at hf
        have r := Lib.hid (hK3.out e)
        clear hK2 hK3 e
        go_wp2_with (go_at_call 19; (with_reducible refine hf.out.mono ?_); rintro e w5 ⟨rfl, hb5⟩)
        go_ret
        exact ⟨ret_bool r.out.symm, nextw hw.out hb5⟩
      · rw [e] at hf
        have r := Lib.hid (hK2.out e)
        clear hK2 hK3 e
        go_wp2_with (go_at_call 19; (with_reducible refine hf.out.mono ?_); rintro e w5 ⟨rfl, hb5⟩)
        exact ⟨⟨j + 1, by omega, by go_num, Lib.hid (nextw hw.out hb5), r⟩, by simp [intOf]; omega⟩
    · obtain rfl : j = n := by omega
      have r : Hid (sameR R S = true) := Lib.hid (by unfold sameR; rw [range_all (fun i hi => hy.out i (by omega))]; simp; omega)
      go_wp2
      go_ret
      exact ⟨ret_bool r.out.symm, hw.out⟩

/-- A box of a table, and what is behind it. -/
theorem tbox {w : World} {u v : Value} : ∀ x, x = w.alloc (.cells #[u, v] 25) → Below w.heap.size w x ∧ w.heap.size < x.heap.size ∧ x.cell? ⟨w.heap.size, 0, none⟩ = some u ∧ x.cell? ⟨w.heap.size, 1, none⟩ = some v := by
  rintro x rfl
  exact ⟨(Below.refl _ _).alloc (Nat.le_refl _) _, by simp, by simp [go_sem], by simp [go_sem]⟩
set_option maxHeartbeats 2000000 in
theorem Same_any {w : World} {a a2 b b2 : Option Addr} {n n2 m m2 : Nat} {L K : List TB} {R S : List (List Int)} (h : BsR w a n L) (h2 : RRk .u64 w a2 n2 R) (k : BsR w b m K) (k2 : RRk .u64 w b2 m2 S) (c c2 d d2 : Nat) :
    Calls Tryd.prog 22 #[.agg #[.slice a n c, .slice a2 n2 c2], .agg #[.slice b m d, .slice b2 m2 d2]] w fun e w' => e = .returned (.bool (sameB L K && sameR R S)) ∧ Below w.heap.size w w' := by
  have hx : Below w.heap.size w ((w.alloc (.cells #[.slice a n c, .slice a2 n2 c2] 25)).alloc (.cells #[.slice b m d, .slice b2 m2 d2] 25)) := ((Below.refl _ _).alloc (Nat.le_refl _) _).alloc (by simp) _
  have hE := Lib.hid (eqB_any (h.step hx) (k.step hx) c d)
  have hR := Lib.hid (fun w3 (hb : Below w.heap.size w w3) => eqRows_any (h2.step hb) (k2.step hb) c2 d2)
  have box2 : Hid (∀ w2, Below ((w.alloc (.cells #[.slice a n c, .slice a2 n2 c2] 25)).alloc (.cells #[.slice b m d, .slice b2 m2 d2] 25)).heap.size ((w.alloc (.cells #[.slice a n c, .slice a2 n2 c2] 25)).alloc (.cells #[.slice b m d, .slice b2 m2 d2] 25)) w2 →
      w2.cell? ⟨w.heap.size, 1, none⟩ = some (.slice a2 n2 c2) ∧ w2.cell? ⟨w.heap.size + 1, 1, none⟩ = some (.slice b2 m2 d2)) :=
    Lib.hid (fun w2 hb => ⟨stepc hb (by simp; omega) (by simp [go_sem]), stepc hb (by simp) (by simp [go_sem])⟩)
  have hx := Lib.hid hx
  clear h h2 k k2
  rcases (show sameB L K = false ∨ sameB L K = true by cases sameB L K <;> simp) with e | e
  · rw [e] at hE ⊢
    go_enter Tryd.func22, Tryd.ntmps22
    go_wp2_with (go_at_call 47; (with_reducible refine hE.out.mono ?_); rintro e w5 ⟨rfl, hb5⟩; have hB5 := Lib.hid (nextw hx.out hb5); clear hb5)
    go_ret
    exact ⟨rfl, hB5.out⟩
  · rw [e] at hE ⊢
    rw [Bool.true_and]
    generalize sameR R S = v at *
    go_enter Tryd.func22, Tryd.ntmps22
    go_wp2_with (first
      | (go_at_call 47; (with_reducible refine hE.out.mono ?_); rintro e w5 ⟨rfl, hb5⟩; obtain ⟨d1, d3⟩ := box2.out _ hb5; have hB5 := Lib.hid (nextw hx.out hb5); clear hb5 box2)
      | (go_at_call 27; (with_reducible refine (hR.out _ hB5.out).mono ?_); rintro e w6 ⟨rfl, hb6⟩; have hB6 := Lib.hid (nextw hB5.out hb6); clear hb6))
    go_ret
    exact ⟨rfl, hB6.out⟩
end Go.Proofs.YtnhpjacodhdpeaaDoor
end

section
namespace Go.Proofs.YtnhpjacodhdpeaaDoor
open Go.RowKit Go.Maps Bits
set_option maxRecDepth 100000

/-- Bytes as cells. -/
def bys (t : List UInt8) : List Value := t.map fun b => Value.int .u8 (b.toNat : Int)
theorem bys_len (t : List UInt8) : (bys t).length = t.length := by simp [bys]
theorem bys_app (s t : List UInt8) : bys (s ++ t) = bys s ++ bys t := by simp [bys]
theorem bys_one (t : List UInt8) : ∀ u ∈ bys t, u.oneCell' = true := by
  intro u hu; simp [bys] at hu; obtain ⟨b, -, rfl⟩ := hu; rfl
theorem strCells_bys (s : ByteArray) : Lib.strCells s = bys s.data.toList := rfl
/-- A text that a call has made. -/
def TX (w : World) (base : Nat) (v : Value) (t : List UInt8) : Prop := w.ownsRow base 5 1 v t.length (bys t)
theorem TX.step {w w' : World} {base : Nat} {v : Value} {t : List UInt8} (h : TX w base v t) (hb : Below w.heap.size w w') : TX w' base v t := own_below h hb

def hx (d : Nat) : UInt8 := UInt8.ofNat (if d < 10 then 48 + d else 87 + d)
def hexA : Nat → Nat → List UInt8
  | 0, _ => []
  | k + 1, u => hexA k (u / 16) ++ [hx (u % 16)]
def nHex (u : Nat) : Nat := if u < 16 then 1 else nHex (u / 16) + 1
def hexD (u : Nat) : List UInt8 := hexA (nHex u) u
theorem hexA_len (k u : Nat) : (hexA k u).length = k := by
  induction k generalizing u with
  | zero => rfl
  | succ k ih => simp [hexA, ih]
theorem hexA_front (k u : Nat) : hexA (k + 1) u = hx (u / 16 ^ k % 16) :: hexA k u := by
  induction k generalizing u with
  | zero => simp [hexA]
  | succ k ih =>
    rw [show hexA (k + 1 + 1) u = hexA (k + 1) (u / 16) ++ [hx (u % 16)] from rfl, ih, Nat.div_div_eq_div_mul, ← Nat.pow_succ']
    rfl
theorem nHex_small {u : Nat} (h : u < 16) : nHex u = 1 := by rw [nHex, if_pos h]
theorem nHex_big {u : Nat} (h : ¬ u < 16) : nHex u = nHex (u / 16) + 1 := by rw [nHex, if_neg h]

def decT (i : Nat) : List UInt8 := if i < 10 then [UInt8.ofNat (48 + i)] else [UInt8.ofNat (48 + i / 10), UInt8.ofNat (48 + i % 10)]

def digsB : ByteArray := ⟨((List.range 36).map hx).toArray⟩
def smallsB : ByteArray := ⟨((List.range 100).flatMap (fun i => [UInt8.ofNat (48 + i / 10), UInt8.ofNat (48 + i % 10)])).toArray⟩
theorem small_key1 : ∀ i, i < 10 → digsB.extract i (i + 1) = ⟨(decT i).toArray⟩ := by decide +kernel
theorem small_key2 : ∀ i, i < 100 → ¬ i < 10 → smallsB.extract (i * 2) (i * 2 + 2) = ⟨(decT i).toArray⟩ := by decide +kernel
theorem small_any (i : Nat) (hi : i < 100) (w : World) :
    Calls Tryd.prog 131 #[.int .i64 i] w fun e w' => e = .returned (.string ⟨(decT i).toArray⟩) ∧ w = w' := by
  by_cases h : i < 10
  · have h1 : decide ((i : Int) < 10) = true := by simp; omega
    go_enter Tryd.func131, Tryd.ntmps131
    go_wp2
    go_ret
    refine ⟨?_, rfl⟩
    rw [← small_key1 i h]
    exact congrArg (fun C => Ending.returned (.string (ByteArray.extract C i (i + 1)))) (by kernel_rfl)
  · have h1 : decide ((i : Int) < 10) = false := by simp; omega
    go_enter Tryd.func131, Tryd.ntmps131
    go_wp2
    go_ret
    refine ⟨?_, rfl⟩
    rw [← small_key2 i hi h]
    exact congrArg (fun C => Ending.returned (.string (ByteArray.extract C (i * 2) (i * 2 + 2)))) (by kernel_rfl)

theorem info_u8t : (Tryd.prog.info? 5).map (fun i => (i.zero, i.size, i.bytes)) = some (some (.int .u8 0), 1, 1) := by kernel_rfl
theorem decT_len (i : Nat) : (decT i).length ≤ 2 := by unfold decT; split <;> simp
set_option maxHeartbeats 2000000 in
theorem append10_any {w : World} {base : Nat} {v : Value} {t : List UInt8} (h : TX w base v t) (hb : base ≤ w.heap.size) (ht : t.length ≤ 100000000) (i : Nat) (hi : i < 100) :
    Calls Tryd.prog 42 #[v, .int .i64 i, .int .i64 10] w fun e w' => ∃ v', e = .returned v' ∧ TX w' base v' (t ++ decT i) ∧ Below base w w' := by
  obtain ⟨i0, hin, hz0, hz1, hz2⟩ := info_parts info_u8t
  have H := Lib.hid h
  have hs := Lib.hid (fun w => small_any i hi w)
  have hsz : (⟨(decT i).toArray⟩ : ByteArray).size = (decT i).length := rfl
  have hdl := decT_len i
  have hw : IntKind.u64.wrap (i : Int) = i := Num.nat64 (by omega)
  have g1 : decide ((i : Int) < 0) = false := by simp
  have g2 : decide ((i : Int) < 100) = true := by simp; omega
  have hA : Hid (Calls Tryd.prog 86 #[v, .int .u64 i, .int .i64 10] w fun e w' => ∃ v', e = .returned v' ∧ TX w' base v' (t ++ decT i) ∧ Below base w w') := by
    show Calls _ _ _ _ _
    generalize hD : (⟨(decT i).toArray⟩ : ByteArray) = D at *
    have hDD : Lib.strCells D = bys (decT i) := by rw [← hD]; rfl
    go_enter Tryd.func86, Tryd.ntmps86
    go_wp2_with (first
      | (go_at_call 131; (with_reducible refine (hs.out _).mono ?_); rintro e w2 ⟨rfl, rfl⟩)
      | (at_builtin; refine Lib.wpList_append_own_string _ rfl _ _ 31 9 rfl base 5 i0 Tryd.underlying31 Tryd.underlying9 hin hz0 hz1 hz2 _ _ _ rfl H.out D rfl (by rw [hsz]; unfold maxLen; omega) (by rw [hsz]; omega) hb ?_))
    intro v' w1 hown hgrow _
    go_wp2
    go_ret
    refine ⟨v', rfl, ?_, (Below.refl base w).grown hgrow hb (fun k hk => (H.out.lt k hk).1)⟩
    show World.ownsRow _ _ _ _ _ _ _
    rw [bys_app, List.length_append]; exact hown
  have hI : Hid (Calls Tryd.prog 85 #[v, .int .i64 i, .int .i64 10] w fun e w' => ∃ v', e = .returned v' ∧ TX w' base v' (t ++ decT i) ∧ Below base w w') := by
    show Calls _ _ _ _ _
    clear hs H h
    go_enter Tryd.func85, Tryd.ntmps85
    go_wp2_with (go_at_call 86; (with_reducible refine hA.out.mono ?_); rintro e w2 ⟨v', rfl, hT, hB⟩; have hT := Lib.hid hT; have hB := Lib.hid hB)
    go_ret
    exact ⟨v', rfl, hT.out, hB.out⟩
  clear hA hs H h
  go_enter Tryd.func42, Tryd.ntmps42
  go_wp2_with (go_at_call 85; (with_reducible refine hI.out.mono ?_); rintro e w2 ⟨v', rfl, hT, hB⟩; have hT := Lib.hid hT; have hB := Lib.hid hB)
  go_ret
  exact ⟨v', rfl, hT.out, hB.out⟩
end Go.Proofs.YtnhpjacodhdpeaaDoor
end
