/-
  Package trace: the greatest numbers; a row held against them; May.
-/
import Derived.Test.YtnhpjacodhdpeaaDoorTrB
namespace Go.Proofs.YtnhpjacodhdpeaaDoor
open Go.RowKit Go.Maps Bits
set_option maxRecDepth 100000

theorem info_u64t : (Tryd.prog.info? 46).map (fun i => (i.zero, i.size, i.bytes)) = some (some (.int .u64 0), 1, 8) := by kernel_rfl
theorem tops_row {L : List TB} {n : Nat} (h : L.length = n) : tops L = row n (fun i => topT (L.getD i tb0).width) := by
  apply List.ext_getElem
  · simp [tops, row, h]
  · intro i h1 h2
    have hi : i < L.length := by simpa [tops] using h1
    simp [tops, row, List.getD, hi]

/-- The next number of a row that is being filled. -/
theorem fill_put {w : World} {base T k b j : Nat} {F : Nat → Int} {kd : IntKind} (ho : w.ownsRow base T 1 (.slice (some ⟨b, 0, none⟩) k k) k ((fillF F k j).map (Value.int kd))) (hj : j < k) :
    (∃ u, w.cell? ⟨b, j, none⟩ = some u) ∧ w.frozen? ⟨b, j, none⟩ = false ∧ (w.setCell ⟨b, j, none⟩ (.int kd (F j))).ownsRow base T 1 (.slice (some ⟨b, 0, none⟩) k k) k ((fillF F k (j + 1)).map (Value.int kd)) ∧ Below base w (w.setCell ⟨b, j, none⟩ (.int kd (F j))) := by
  have hb := own_ge ho b rfl
  refine ⟨own_some ho hj, ho.frozenAt j, ?_, (Below.refl _ _).setCell (p := ⟨b, j, none⟩) hb _⟩
  rw [← fillK_set]
  exact (ho.stored j _).1

set_option maxHeartbeats 2000000 in
theorem greatest_any {w : World} {a : Option Addr} {n : Nat} {L : List TB} (h : BsR w a n L) (c : Nat) (hn : n ≤ 512) :
    Calls Tryd.prog 50 #[.slice a n c] w fun e w' => e = .returned (.slice (some ⟨w.heap.size, 0, none⟩) n n) ∧ w'.ownsRow w.heap.size 46 1 (.slice (some ⟨w.heap.size, 0, none⟩) n n) n ((tops L).map (Value.int .u64)) ∧ Below w.heap.size w w' := by
  obtain ⟨i0, hin, hz0, hz1, hz2⟩ := info_parts info_u64t
  have hle := h.le
  have H := Lib.hid h
  have HL := Lib.hid h.len
  rw [tops_row h.len]
  have hF := Lib.hid (show ∀ i, (fun i => topT (L.getD i tb0).width) i = cut false false (L.getD i tb0).width 18446744073709551615 from fun i => rfl)
  generalize (fun i => topT (L.getD i tb0).width) = F at *
  clear h
  have HZ := Lib.hid (fillK_zero .u64 F n)
  go_enter Tryd.func50, Tryd.ntmps50
  go_wp2_with (at_make; refine wpList_make_full _ rfl _ _ 37 rfl w.heap.size 46 i0 (.int .u64 0) 1 Tryd.underlying37 hin hz0 hz1 .i64 .i64 n n n rfl rfl rfl rfl (by rw [hz2]; omega) (by unfold maxLen; omega) (Nat.le_refl _) ?_; intro w3 hown hg)
  go_loopw [11] (fun i wr => ∃ j : Nat, j ≤ n ∧ i = .int .i64 j ∧ Hid (wr.ownsRow w.heap.size 46 1 (.slice (some ⟨w.heap.size, 0, none⟩) n n) n ((fillF F n j).map (Value.int .u64))) ∧ Hid (Below w.heap.size w wr)) (fun i _ => n - (intOf i).toNat)
  case atStart => exact ⟨0, Nat.zero_le _, rfl, Lib.hid (by rw [← HZ.out]; exact hown), Lib.hid ((Below.refl _ _).grown hg (Nat.le_refl _) (fun _ h => by cases h))⟩
  case round =>
    clear hown hg HZ
    obtain ⟨j, hj, rfl, hown, hw⟩ := hrel
    by_cases hlt : j < n
    · obtain ⟨g, off, rfl, hg, hcell⟩ := H.out.at (by omega)
      obtain ⟨b0, b1⟩ := hcell j hlt
      have c0 := stepc hw.out hg b0
      have c1 := stepc hw.out hg b1
      have hjn : (j : Int) < n := by omega
      have hFj := Lib.hid (hF.out j)
      clear b0 b1 hcell
      generalize (L.getD j tb0).name = nm at *
      generalize (L.getD j tb0).width = wd at *
      have hcut := Lib.hid (fun w => cut_any false false wd 18446744073709551615 w)
      rw [← hFj.out] at hcut
      have hbox : ∀ x, x = wr.alloc (.cells #[.string nm, .int .i64 wd] 69) → Below wr.heap.size wr x ∧ wr.heap.size < x.heap.size ∧ x.cell? ⟨wr.heap.size, 0, none⟩ = some (.string nm) ∧ x.cell? ⟨wr.heap.size, 1, none⟩ = some (.int .i64 wd) := by
        rintro x rfl
        exact ⟨(Below.refl _ _).alloc (Nat.le_refl _) _, by simp, by simp [go_sem], by simp [go_sem]⟩
      have hbox := Lib.hid hbox
      clear hFj
      go_upto_region 5 with fail
      generalize hwa : wr.alloc (.cells #[.string nm, .int .i64 wd] 69) = wa
      obtain ⟨hba, hza, d0, d1⟩ := hbox.out wa hwa.symm
      clear hbox hwa
      have hown2 := Lib.hid (own_below hown.out hba)
      have hB2 := Lib.hid (nextw hw.out hba)
      clear hown hw hba
      have hjj : j < n := hlt
      go_wp2_with (go_at_call 90; (with_reducible refine (hcut.out _).mono ?_); rintro e w5 ⟨rfl, hb5⟩; have hp := fill_put (own_below hown2.out hb5) hjj; obtain ⟨⟨u, hu⟩, hfz, hst, hbs⟩ := hp; have hst := Lib.hid hst; have hbs := Lib.hid hbs; have hb5 := Lib.hid hb5)
      exact ⟨⟨j + 1, by omega, by go_num, Lib.hid hst.out, Lib.hid ((nextw hB2.out hb5.out).trans hbs.out)⟩, by simp [intOf]; omega⟩
    · obtain rfl : j = n := by omega
      rw [fillF_full] at hown
      go_wp2
      go_ret
      exact ⟨rfl, hown.out, hw.out⟩

theorem fits_any (x y : Int) (w : World) :
    Calls Tryd.prog 52 #[.int .u64 x, .int .u64 y] w fun e w' => e = .returned (.bool (decide (x ≤ y))) ∧ w = w' := by
  go_enter Tryd.func52, Tryd.ntmps52
  go_wp2
  go_ret
  exact ⟨rfl, rfl⟩
theorem bnet {a b : Int} (h : a ≠ b) : (a != b) = true := by simp [h]
theorem bnef0 {a b : Int} (h : a = b) : (a != b) = false := by simp [h]
set_option maxHeartbeats 2000000 in
theorem eqf_any {w : World} {a a2 : Option Addr} {n m : Nat} {l k : List Int} (h1 : Row .u64 w a n l) (h2 : Row .u64 w a2 m k) (c c2 : Nat) :
    Calls Tryd.prog 51 #[.slice a n c, .slice a2 m c2, .func (.func 52) #[] #[]] w fun e w' => e = .returned (.bool (fitsL l k)) ∧ Below w.heap.size w w' := by
  have H1 := Lib.hid h1
  have H2 := Lib.hid h2
  have hle := h1.le
  have hle2 := h2.le
  have e1 := h1.len
  have e2 := h2.len
  clear h1 h2
  by_cases hnm : n ≠ m
  · have r : Hid (fitsL l k = false) := Lib.hid (by unfold fitsL; simp; omega)
    have g := bnet (a := (n : Int)) (b := m) (by omega)
    rw [r.out]
    clear r
    go_enter Tryd.func51, Tryd.ntmps51
    go_wp2
    go_ret
    exact ⟨rfl, Below.refl _ _⟩
  obtain rfl : n = m := by simpa using hnm
  clear hnm
  have g := bnef0 (a := (n : Int)) (b := n) rfl
  go_enter Tryd.func51, Tryd.ntmps51
  go_wp2
  go_loopw [17] (fun i wr => ∃ j : Nat, j ≤ n ∧ i = .int .i64 j ∧ Hid (Below w.heap.size w wr) ∧ Hid (∀ i, i < j → decide (l.getD i 0 ≤ k.getD i 0) = true)) (fun i _ => n - (intOf i).toNat)
  case atStart => exact ⟨0, Nat.zero_le _, rfl, Lib.hid (Below.refl _ _), Lib.hid (fun i hi => by omega)⟩
  case round =>
    obtain ⟨j, hj, rfl, hw, hy⟩ := hrel
    by_cases hlt : j < n
    · obtain ⟨b, off, rfl, hb, hcell⟩ := H1.out.at (by omega)
      obtain ⟨b2, off2, rfl, hb2, hcell2⟩ := H2.out.at (by omega)
      have c1 := stepc hw.out hb (hcell j hlt)
      have c2 := stepc hw.out hb2 (hcell2 j hlt)
      have hjn : (j : Int) < n := by omega
      have hf := Lib.hid (fun w => fits_any (l.getD j 0) (k.getD j 0) w)
      have hK3 : Hid (decide (l.getD j 0 ≤ k.getD j 0) = false → fitsL l k = false) := Lib.hid (fun h => by unfold fitsL; rw [range_not (i := j) (by omega) h]; simp)
      have hK2 : Hid (decide (l.getD j 0 ≤ k.getD j 0) = true → ∀ i, i < j + 1 → decide (l.getD i 0 ≤ k.getD i 0) = true) := Lib.hid (fun h i hi => by
        by_cases e : i = j
        · rw [e]; exact h
        · exact hy.out i (by omega))
      clear hcell hcell2 hy
      generalize l.getD j 0 = x at *
      generalize k.getD j 0 = y at *
      rcases (show decide (x ≤ y) = false ∨ decide (x ≤ y) = true by cases decide (x ≤ y) <;> simp) with e | e
      · rw [e] at hf
        have r := Lib.hid (hK3.out e)
        clear hK2 hK3 e
        go_wp2_with (go_at_call 52; (with_reducible refine (hf.out _).mono ?_); rintro e w5 ⟨rfl, rfl⟩)
        go_ret
        exact ⟨ret_bool r.out.symm, hw.out⟩
      · rw [e] at hf
        have r := Lib.hid (hK2.out e)
        clear hK2 hK3 e
        go_wp2_with (go_at_call 52; (with_reducible refine (hf.out _).mono ?_); rintro e w5 ⟨rfl, rfl⟩)
        exact ⟨⟨j + 1, by omega, by go_num, hw, r⟩, by simp [intOf]; omega⟩
    · obtain rfl : j = n := by omega
      have r : Hid (fitsL l k = true) := Lib.hid (by unfold fitsL; rw [range_all (fun i hi => hy.out i (by omega))]; simp; omega)
      go_wp2
      go_ret
      exact ⟨ret_bool r.out.symm, hw.out⟩

theorem own_rows {w : World} {base T : Nat} {v : Value} {n : Nat} {l : List Int} (h : w.ownsRow base T 1 v n (l.map (Value.int .u64))) (hl : l.length = n) (hn : n ≤ 9223372036854775807) : ∃ a c, v = .slice a n c ∧ Row .u64 w a n l := by
  obtain ⟨a, c, rfl⟩ := own_slice h
  exact ⟨a, c, rfl, Row.of_own h hl hn⟩

set_option maxHeartbeats 2000000 in
theorem May_any {w : World} {a a2 : Option Addr} {n m : Nat} {L : List TB} {R : List (List Int)} (h : BsR w a n L) (h2 : RRk .u64 w a2 m R) (c c2 : Nat) (hc : n ≤ c) :
    Calls Tryd.prog 20 #[.agg #[.slice a n c, .slice a2 m c2]] w fun e w' => e = .returned (.bool (mayT L R)) ∧ Below w.heap.size w w' := by
  have hbx : Below w.heap.size w (w.alloc (.cells #[.slice a n c, .slice a2 m c2] 25)) := (Below.refl _ _).alloc (Nat.le_refl _) _
  have hmb := Lib.hid (mayBuses_any (h.step hbx) c hc)
  have hle2 := h2.2.1
  have e1 := h.len
  have e2 := h2.1
  have hbx := Lib.hid hbx
  have box2 : Hid (∀ w2, Below (w.alloc (.cells #[.slice a n c, .slice a2 m c2] 25)).heap.size (w.alloc (.cells #[.slice a n c, .slice a2 m c2] 25)) w2 → w.heap.size < w2.heap.size ∧ w2.cell? ⟨w.heap.size, 0, none⟩ = some (.slice a n c) ∧ w2.cell? ⟨w.heap.size, 1, none⟩ = some (.slice a2 m c2)) :=
    Lib.hid (fun w2 hb => ⟨by have := hb.size; simp at this; omega, stepc hb (by simp) (by simp [go_sem]), stepc hb (by simp) (by simp [go_sem])⟩)
  rcases (show busesT L = false ∨ busesT L = true by cases busesT L <;> simp) with k1 | k1
  · rw [k1] at hmb
    rw [show mayT L R = false by unfold mayT; rw [k1]; rfl]
    clear h h2
    go_enter Tryd.func20, Tryd.ntmps20
    go_wp2_with (go_at_call 49; (with_reducible refine hmb.out.mono ?_); rintro e w5 ⟨rfl, hb5⟩; have hB5 := Lib.hid (nextw hbx.out hb5); clear hb5)
    go_ret
    exact ⟨rfl, hB5.out⟩
  rw [k1] at hmb
  have hn512 : n ≤ 512 := by unfold busesT at k1; simp at k1; omega
  by_cases k2 : 4096 < m
  · have g2 : decide (4096 < (m : Int)) = true := by simp; omega
    rw [show mayT L R = false by unfold mayT; simp; omega]
    clear h h2
    go_enter Tryd.func20, Tryd.ntmps20
    go_wp2_with (go_at_call 49; (with_reducible refine hmb.out.mono ?_); rintro e w5 ⟨rfl, hb5⟩; obtain ⟨hz, d0, d1⟩ := box2.out _ hb5; have hB5 := Lib.hid (nextw hbx.out hb5); clear hb5 box2)
    go_ret
    exact ⟨rfl, hB5.out⟩
  have g2 : decide (4096 < (m : Int)) = false := by simp; omega
  have HL := Lib.hid h
  have HR := Lib.hid h2
  have hM : Hid (mayT L R = (List.range m).all (fun i => fitsL (R.getD i []) (tops L))) := Lib.hid (by show _ = _; unfold mayT; rw [k1, e2]; simp; omega)
  rw [hM.out]
  clear h h2 hM
  go_enter Tryd.func20, Tryd.ntmps20
  go_wp2_with (first
    | (go_at_call 49; (with_reducible refine hmb.out.mono ?_); rintro e w5 ⟨rfl, hb5⟩; obtain ⟨hz, d0, d1⟩ := box2.out _ hb5; have hB5 := Lib.hid (nextw hbx.out hb5); have hG := Lib.hid (greatest_any (HL.out.step hB5.out) c hn512); clear hb5 box2 hmb)
    | (go_at_call 50; (with_reducible refine hG.out.mono ?_); rintro e w6 ⟨rfl, ho6, hb6⟩; have d0' := stepc hb6 hz d0; have d1' := stepc hb6 hz d1; have hT := Lib.hid (Row.of_own ho6 (by rw [tops_len]; exact e1) (by omega)); have hB6 := Lib.hid (nextw hB5.out hb6); clear d0 d1 hb6 ho6 hG))
  go_loopw [22] (fun i wr => ∃ j : Nat, j ≤ m ∧ i = .int .i64 j ∧ Hid (Below w6.heap.size w6 wr) ∧ Hid (∀ i, i < j → fitsL (R.getD i []) (tops L) = true)) (fun i _ => m - (intOf i).toNat)
  case atStart => exact ⟨0, Nat.zero_le _, rfl, Lib.hid (Below.refl _ _), Lib.hid (fun i hi => by omega)⟩
  case round =>
    obtain ⟨j, hj, rfl, hw, hy⟩ := hrel
    by_cases hlt : j < m
    · obtain ⟨b, off, rfl, hb, hcell⟩ := (HR.out.step hB6.out).at (by omega)
      obtain ⟨ai, ci, r1, r2, r3, r4⟩ := hcell j hlt
      have c1 := stepc hw.out hb r1
      have hjn : (j : Int) < m := by omega
      have hf := Lib.hid (eqf_any (r4.step hw.out) (hT.out.step hw.out) ci n)
      have hK2 : Hid (fitsL (R.getD j []) (tops L) = true → ∀ i, i < j + 1 → fitsL (R.getD i []) (tops L) = true) := Lib.hid (fun h i hi => by
        by_cases e : i = j
        · rw [e]; exact h
        · exact hy.out i (by omega))
      have hK3 : Hid (fitsL (R.getD j []) (tops L) = false → (List.range m).all (fun i => fitsL (R.getD i []) (tops L)) = false) := Lib.hid (fun h => range_not hlt h)
      clear hcell hy r1 r4
      generalize (R.getD j []).length = len at *
      rcases (show fitsL (R.getD j []) (tops L) = false ∨ fitsL (R.getD j []) (tops L) = true by cases fitsL (R.getD j []) (tops L) <;> simp) with e | e
      · rw [e] at hf
        have r := Lib.hid (hK3.out e)
        clear hK2 hK3 e
        go_wp2_with (go_at_call 51; (with_reducible refine hf.out.mono ?_); rintro e w7 ⟨rfl, hb7⟩)
        go_ret
        exact ⟨ret_bool r.out.symm, nextw (nextw hB6.out hw.out) hb7⟩
      · rw [e] at hf
        have r := Lib.hid (hK2.out e)
        clear hK2 hK3 e
        go_wp2_with (go_at_call 51; (with_reducible refine hf.out.mono ?_); rintro e w7 ⟨rfl, hb7⟩)
        exact ⟨⟨j + 1, by omega, by go_num, Lib.hid (nextw hw.out hb7), r⟩, by simp [intOf]; omega⟩
    · obtain rfl : j = m := by omega
      go_wp2
      go_ret
      exact ⟨ret_bool (range_all hy.out).symm, nextw hB6.out hw.out⟩
end Go.Proofs.YtnhpjacodhdpeaaDoor
