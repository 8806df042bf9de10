/-
  Package trace: Pack, the walk.
-/
import Derived.Test.YtnhpjacodhdpeaaDoorTpP
import Derived.Deep.RegionHeld3
namespace Go.Proofs.YtnhpjacodhdpeaaDoor
open Go.RowKit Go.Maps Bits
set_option maxRecDepth 100000
set_option linter.unusedVariables false

theorem info_rowq : (Tryd.prog.info? 37).map (fun i => (i.zero, i.size, i.bytes)) = some (some (.slice none 0 0), 1, 24) := by kernel_rfl

theorem numbers_any' {Ts : List TT} {n r b : Nat} (hg : ∀ i, i < n → goodT Ts i = true) (hn : n ≤ 64) (hr : r ≤ 4096) (hb : b < (Ts.getD 0 tt0).1.length) : ∀ {w : World} {a : Option Addr} {c : Nat}, TsR w a n Ts →
    Calls Tryd.prog 57 #[.int .i64 r, .int .i64 b, .slice a n c] w fun e w' => ∃ g : Nat, e = .returned (.slice (some ⟨g, 0, none⟩) n n) ∧ w'.ownsRow w.heap.size 46 1 (.slice (some ⟨g, 0, none⟩) n n) n ((row n (numT Ts r b)).map (Value.int .u64)) ∧ Below w.heap.size w w' :=
  fun h => numbers_any h hn hr (fun i hi hrl => good_rows hg hi hb hrl)

/-- A bus's numbers, and how they are packed. -/
theorem lane_row {Ts : List TT} {n r b c : Nat} (hg : ∀ i, i < n → goodT Ts i = true) (hnn : ∀ i, i < n → NN (Ts.getD i tt0).2) (h0 : 0 < n) (hn : n ≤ 64) (hr : r ≤ 4096) (hb : b < (Ts.getD 0 tt0).1.length) {w : World} {a : Option Addr} (h : TsR w a n Ts) :
    Calls Tryd.prog 57 #[.int .i64 r, .int .i64 b, .slice a n c] w fun e w' => ∃ g : Nat, e = .returned (.slice (some ⟨g, 0, none⟩) n n) ∧ Below w.heap.size w w' ∧
      Calls Tryd.prog 56 #[.int .i64 (wdT Ts b : Int), .slice (some ⟨g, 0, none⟩) n n] w' fun e w2 => ∃ a2 c2, e = .returned (.tuple #[.slice a2 (wdT Ts b) c2, .int .i64 0]) ∧ w2.ownsRow w.heap.size 46 1 (.slice a2 (wdT Ts b) c2) (wdT Ts b) (wl (wdT Ts b) (turn (cutAt n (nuT Ts r b)))) ∧ Below w'.heap.size w' w2 :=
  (numbers_any' (c := c) hg hn hr hb h).mono (fun e w' ⟨g, he, ho, hb'⟩ => by
    have e1 : (row n (numT Ts r b)).map (Value.int .u64) = wl n (nuT Ts r b) := by
      unfold row wl
      rw [List.map_map]
      apply List.map_congr_left
      intro k hk
      show Value.int .u64 (numT Ts r b k) = _
      rw [(good_num hg hnn h0 hb (by simpa using hk)).1]
    rw [e1] at ho
    obtain ⟨w1, w2, -⟩ := good_wide hg h0 hb
    refine ⟨g, he, hb', ?_⟩
    exact (pack_yes (WRow.of_own ho (by omega)) hn (mayH_iff.2 ⟨⟨w1, w2⟩, fun k hk => (good_num hg hnn h0 hb hk).2⟩)).mono (fun e2 w3 ⟨a2, c2, h1, h2⟩ => ⟨a2, c2, h1, own_base h2.own hb'.size, h2.below⟩))

set_option maxHeartbeats 8000000 in
theorem Pack_any {w : World} {a : Option Addr} {n c : Nat} {Ts : List TT} {r : Int} (h : TsR w a n Ts) (h0 : 0 < n) (hn : n ≤ 64) (hnn : ∀ i, i < n → NN (Ts.getD i tt0).2) (hr1 : -9223372036854775808 ≤ r) (hr2 : r ≤ 9223372036854775807) :
    Calls Tryd.prog 25 #[.int .i64 r, .slice a n c] w fun e w' => PackOk Ts n r w w' e ∧ Below w.heap.size w w' := by
  obtain ⟨i0, hin, hz0, hz1, hz2⟩ := info_parts info_rowq
  have hbad : Hid (∀ j, j < n → goodT Ts j = false → ∀ w', PackOk Ts n r w w' (.returned (.tuple #[.slice none 0 0, .int .i64 1]))) := Lib.hid (fun j hj hb w' => by
    have e : packE Ts n r = 1 := by unfold packE; rw [range_not hj hb]; simp
    unfold PackOk; rw [e]; simp)
  have hall : Hid ((∀ j, j < n → goodT Ts j = true) → (List.range n).all (goodT Ts) = true) := Lib.hid (fun h => range_all h)
  have hnone : Hid ((∀ j, j < n → goodT Ts j = true) → ¬ (0 ≤ r ∧ r < maxT Ts n) → ∀ w', PackOk Ts n r w w' (.returned (.tuple #[.slice none 0 0, .int .i64 6]))) := Lib.hid (fun h hx w' => by
    have e : packE Ts n r = 6 := by unfold packE; rw [hall.out h, if_neg (by simp), if_neg hx]
    unfold PackOk; rw [e]; simp)
  have hok : Hid ((∀ j, j < n → goodT Ts j = true) → (0 ≤ r ∧ r < maxT Ts n) → ∀ w' g, PR w' w.heap.size g (Ts.getD 0 tt0).1.length (wdT Ts) (nuT Ts r.toNat) n (Ts.getD 0 tt0).1.length → PackOk Ts n r w w' (.returned (.tuple #[.slice (some ⟨g, 0, none⟩) (Ts.getD 0 tt0).1.length (Ts.getD 0 tt0).1.length, .int .i64 0]))) := Lib.hid (fun h hx w' g hP => by
    have e : packE Ts n r = 0 := by unfold packE; rw [hall.out h, if_neg (by simp), if_pos hx]
    unfold PackOk; rw [e, if_pos rfl]; exact ⟨g, rfl, hP⟩)
  obtain ⟨tb, tf, rfl, htb, hcell⟩ := h.at h0
  obtain ⟨a0, c0, -, -, q0, -, hc0, hB0, -⟩ := hcell 0 h0
  have q0 : w.cell? ⟨tb, tf, none⟩ = some (.slice a0 (Ts.getD 0 tt0).1.length c0) := by simpa using q0
  have hle := h.2.1
  have HT := Lib.hid h
  have HB := Lib.hid hB0
  have hgd := Lib.hid (fun j => (show goodT Ts j = (sameB (Ts.getD j tt0).1 (Ts.getD 0 tt0).1 && mayT (Ts.getD j tt0).1 (Ts.getD j tt0).2) from rfl))
  have hnn := Lib.hid hnn
  clear h hcell hB0 hall
  generalize hL0 : (Ts.getD 0 tt0).1 = L0 at *
  have hL0 := Lib.hid hL0
  go_enter Tryd.func25, Tryd.ntmps25
  go_wp2
  clear q0
  go_loopw [7, 9, 29] (fun s7 _ i wr => ∃ j : Nat, j ≤ n ∧ i = .int .i64 j ∧ s7 = .int .i64 (maxT Ts j : Nat) ∧ Hid (∀ k, k < j → goodT Ts k = true) ∧ Hid (Below w.heap.size w wr)) (fun _ _ i _ => n - (intOf i).toNat)
  case atStart => exact ⟨0, Nat.zero_le _, rfl, rfl, Lib.hid (fun k hk => by omega), Lib.hid (Below.refl _ _)⟩
  case round =>
    obtain ⟨j, hj, rfl, rfl, hgs, hw⟩ := hrel
    by_cases hlj : j < n
    · obtain ⟨b, off, hbe, hb, hcell⟩ := (HT.out.step hw.out).at (by omega)
      cases hbe
      obtain ⟨a1, c1, a2, c2, t1, t2, hc1, hB1, hR1⟩ := hcell j hlj
      have hjn : (j : Int) < n := by omega
      have hj0 : (0 : Int) ≤ j := by omega
      have hgj := Lib.hid (hgd.out j)
      have hbj := Lib.hid (hbad.out j hlj)
      have hmxF : Hid (∀ x : Int, x = (if maxT Ts j < (Ts.getD j tt0).2.length then (((Ts.getD j tt0).2.length : Nat) : Int) else ((maxT Ts j : Nat) : Int)) → x = ((maxT Ts (j + 1) : Nat) : Int)) := Lib.hid (by rintro x rfl; simp only [maxT]; split <;> omega)
      have hstep : Hid (goodT Ts j = true → ∀ k, k < j + 1 → goodT Ts k = true) := Lib.hid (fun h k hk => by
        by_cases e : k = j
        · rw [e]; exact h
        · exact hgs.out k (by omega))
      clear hcell hgs
      obtain ⟨mx1, hmx1⟩ : ∃ m, maxT Ts (j + 1) = m := ⟨_, rfl⟩
      rw [hmx1] at hmxF
      generalize maxT Ts j = mx0 at *
      have hmx1 := Lib.hid hmx1
      generalize (Ts.getD j tt0).1 = L1 at *
      generalize (Ts.getD j tt0).2 = R1 at *
      have hbox : ∀ x, x = wr.alloc (.cells #[.slice a1 L1.length c1, .slice a2 R1.length c2] 25) → Below wr.heap.size wr x ∧ wr.heap.size < x.heap.size ∧ x.cell? ⟨wr.heap.size, 0, none⟩ = some (.slice a1 L1.length c1) ∧ x.cell? ⟨wr.heap.size, 1, none⟩ = some (.slice a2 R1.length c2) := by
        rintro x rfl
        exact ⟨(Below.refl _ _).alloc (Nat.le_refl _) _, by simp, by simp [go_sem], by simp [go_sem]⟩
      go_upto_region 8 with fail
      obtain ⟨hbx, hlt, e0, e1⟩ := hbox _ rfl
      have hw1 := Lib.hid (nextw hw.out hbx)
      generalize hwb : wr.alloc (.cells #[.slice a1 L1.length c1, .slice a2 R1.length c2] 25) = wb at *
      have hE := Lib.hid (eqB_any (hB1.step hbx) (HB.out.step hw1.out) c1 c0)
      have hM := Lib.hid (fun w3 (hb : Below wb.heap.size wb w3) => May_any ((hB1.step hbx).step hb) ((hR1.step hbx).step hb) c1 c2 hc1)
      generalize wr.heap.size = bb at *
      clear hbox hbx hwb hB1 hR1 hw t1 t2
      rcases (show sameB L1 L0 = false ∨ sameB L1 L0 = true by cases sameB L1 L0 <;> simp) with k1 | k1
      · rw [k1] at hE
        have hb1 := Lib.hid (hbj.out (by rw [hgj.out, k1]; rfl))
        clear hgj hstep hmxF hM hbj k1
        go_wp2_with (go_at_call 47; (with_reducible refine hE.out.mono ?_); rintro e w5 ⟨rfl, hb5⟩; have hB5 := Lib.hid (nextw hw1.out hb5); clear hb5 hE)
        go_ret2
        exact ⟨hb1.out _, hB5.out⟩
      · rw [k1] at hE
        rcases (show mayT L1 R1 = false ∨ mayT L1 R1 = true by cases mayT L1 R1 <;> simp) with k2 | k2
        · rw [k2] at hM
          have hb1 := Lib.hid (hbj.out (by rw [hgj.out, k1, k2]; rfl))
          clear hgj hstep hmxF hbj k1 k2
          go_wp2_with (first
            | (go_at_call 47; (with_reducible refine hE.out.mono ?_); rintro e w5 ⟨rfl, hb5⟩; have hB5 := Lib.hid (nextw hw1.out hb5); have g0 := stepc hb5 hlt e0; have g1 := stepc hb5 hlt e1; have hM5 := Lib.hid (hM.out _ hb5); clear hb5 hE e0 e1 hM)
            | (go_at_call 20; (with_reducible refine hM5.out.mono ?_); rintro e w6 ⟨rfl, hb6⟩; have hB6 := Lib.hid (nextw hB5.out hb6); clear hb6))
          go_ret2
          exact ⟨hb1.out _, hB6.out⟩
        · rw [k2] at hM
          have hgs := Lib.hid (hstep.out (by rw [hgj.out, k1, k2]; rfl))
          clear hgj hstep hbj k1 k2
          go_wp2_with (first
            | (go_at_call 47; (with_reducible refine hE.out.mono ?_); rintro e w5 ⟨rfl, hb5⟩; have hB5 := Lib.hid (nextw hw1.out hb5); have g0 := stepc hb5 hlt e0; have g1 := stepc hb5 hlt e1; have hlt5 := Nat.lt_of_lt_of_le hlt hb5.size; have hM5 := Lib.hid (hM.out _ hb5); clear hb5 hE e0 e1 hM)
            | (go_at_call 20; (with_reducible refine hM5.out.mono ?_); rintro e w6 ⟨rfl, hb6⟩; have h1 := stepc hb6 hlt5 g1; have hB6 := Lib.hid (nextw hB5.out hb6); clear hb6))
          exact ⟨⟨j + 1, by omega, by go_num, by rw [hmx1.out]; exact congrArg _ (hmxF.out _ rfl), hgs, hB6⟩, by simp [intOf]; omega⟩
    · obtain rfl : j = n := by omega
      clear hbad
      have hgg := hgs.out
      have hmx := good_max hgg (Nat.le_refl _)
      by_cases hr : 0 ≤ r ∧ r < maxT Ts j
      · obtain ⟨rn, rfl⟩ : ∃ rn : Nat, r = rn := ⟨r.toNat, by omega⟩
        have hrl : rn < maxT Ts j := by omega
        rw [Int.toNat_natCast] at hok
        have hok2 := Lib.hid (hok.out hgg hr)
        have hwide := Lib.hid (fun b hb => good_wide hgg h0 (b := b) hb)
        have hrow := Lib.hid (fun b hb w3 (hw3 : Below w.heap.size w w3) => lane_row (c := c) hgg hnn.out h0 hn (r := rn) (b := b) (by omega) hb (HT.out.step hw3))
        rw [hL0.out] at hwide hrow
        clear hok hnone hgs
        have g1 : ¬ (rn : Int) < 0 := by omega
        generalize maxT Ts j = mx at *
        have g2 : decide ((mx : Int) ≤ (rn : Int)) = false := by simp; omega
        have hL512 : L0.length ≤ 512 := by
          have := (mayT_of (good_at hgg h0).2).1
          rw [hL0.out] at this
          exact (busesT_of this).2.1
        obtain ⟨nb, hnb⟩ : ∃ nb, L0.length = nb := ⟨_, rfl⟩
        rw [hnb] at hwide hrow hok2 hL512 HB ⊢
        have hP0 : ∀ W f k (wx : World) g kv, wx.ownsRow w.heap.size 37 1 (.slice (some ⟨g, 0, none⟩) nb nb) nb kv → PR wx w.heap.size g nb W f k 0 := fun W f k wx g kv h => ⟨kv, h, fun i hi => by omega⟩
        have hP0 := Lib.hid hP0
        have hww := hw.out.size
        clear hgg hr hmx hnn HT hgd hL0 hnb q0
        generalize wdT Ts = W at *
        generalize nuT Ts rn = f at *
        go_wp2_with (at_make; refine wpList_make_full _ rfl _ _ 23 rfl w.heap.size 37 i0 (.slice none 0 0) 1 Tryd.underlying23 hin hz0 hz1 .i64 .i64 nb nb nb rfl rfl rfl rfl (by rw [hz2]; omega) (by unfold maxLen; omega) hww ?_; intro w10 hown hgw; have hb10 := Lib.hid ((Below.refl w.heap.size w).trans (hw.out.trans ((Below.refl w.heap.size _).grown hgw (by omega) (fun _ h => by cases h)))); clear hgw)
        have hP := Lib.hid (hP0.out W f j w10 _ _ hown)
        clear hown hP0 hw
        generalize wr.heap.size = gp at *
        go_loopw [11, 12, 13, 14, 61] (fun _ _ _ _ s wx => ∃ b : Nat, b ≤ nb ∧ s = .int .i64 b ∧ Hid (PR wx w.heap.size gp nb W f j b) ∧ Hid (Below w.heap.size w wx)) (fun _ _ _ _ s _ => nb - (intOf s).toNat)
        case atStart => exact ⟨0, Nat.zero_le _, rfl, hP, hb10⟩
        case round =>
          clear hP hb10
          obtain ⟨b, hb, rfl, hP, hw⟩ := hrel
          obtain ⟨wp, rfl⟩ : ∃ wp : World, wp = wr := ⟨_, rfl⟩
          by_cases hlb : b < nb
          · obtain ⟨bb, bo, rfl, hbb, hcell⟩ := (HB.out.step hw.out).at (by omega)
            obtain ⟨d0, d1⟩ := hcell b hlb
            obtain ⟨wd1, wd2, wd3⟩ := hwide.out b hlb
            rw [wd3] at d1
            have hbn : (b : Int) < nb := by omega
            have hb0 : (0 : Int) ≤ b := by omega
            clear hcell wd3
            generalize (L0.getD b tb0).name = nm at *
            have hbox : ∀ x, x = wp.alloc (.cells #[.string nm, .int .i64 (W b : Int)] 69) → Below wp.heap.size wp x ∧ x.cell? ⟨wp.heap.size, 1, none⟩ = some (.int .i64 (W b : Int)) ∧ wp.heap.size < x.heap.size := by
              rintro x rfl
              exact ⟨(Below.refl _ _).alloc (Nat.le_refl _) _, by simp [go_sem], by simp⟩
            go_upto_region 18 with fail
            obtain ⟨hbx, e1, hlx⟩ := hbox _ rfl
            have hw2 := Lib.hid (nextw hw.out hbx)
            have hP2 := Lib.hid (hP.out.step hbx)
            clear hbox hbx d0 d1 hP hw
            generalize wp.alloc (.cells #[.string nm, .int .i64 (W b : Int)] 69) = wq at *
            generalize wp.heap.size = bx at *
            have hr1 := Lib.hid (hrow.out b hlb wq.drew (hw2.out.drew))
            have hdr := Lib.hid (Below.refl wq.heap.size wq).drew
            go_cut [13, 14] (fun s13 s14 wx => ∃ a2 c2, s13 = .slice a2 (W b) c2 ∧ s14 = .int .i64 0 ∧ Hid (Below w.heap.size w wx ∧ PR wx w.heap.size gp nb W f j b ∧ wx.ownsRow w.heap.size 46 1 (.slice a2 (W b) c2) (W b) (wl (W b) (turn (cutAt j (f b))))))
            case first =>
              go_region_held3 (fun w' => w'.cell? ⟨bx, 1, none⟩ = some (.int .i64 (W b : Int))) (first | exact e1 | exact e1' | exact e1q) (first
                | (go_at_call 57; (with_reducible refine hr1.out.mono ?_); rintro e X3 ⟨g3, rfl, hb3, hpk⟩; have e1' := stepc hb3 hlx e1; have hB3 := Lib.hid (nextw hw2.out (nextw hdr.out hb3)); have hP3 := Lib.hid (hP2.out.step (nextw hdr.out hb3)); have hpk := Lib.hid hpk; have hl3 : bx < X3.heap.size := Nat.lt_of_lt_of_le hlx hb3.size; clear hb3 hr1)
                | (go_at_call 56; (with_reducible refine hpk.out.mono ?_); rintro e X4 ⟨a2, c2, rfl, ho4, hb4⟩; have e1q := stepc hb4 hl3 e1'; have hB4 := Lib.hid (nextw hB3.out hb4); have hP4 := Lib.hid (hP3.out.step hb4); have ho4 := Lib.hid (own_base ho4 (show w.heap.size ≤ _ from hw2.out.drew.size)); clear hb4 hpk))
              all_goals (go_wp2_with fail; go_meet)
              all_goals exact ⟨a2, c2, rfl, rfl, Lib.hid ⟨hB4.out, hP4.out, ho4.out⟩⟩
            case rest =>
              obtain ⟨a2, c2, rfl, rfl, hcut⟩ := hcut
              obtain ⟨hB5, hP5, ho5⟩ := hcut.out
              obtain ⟨p1, p2, ⟨u, p3⟩, p4⟩ := hP5.next hlb ho5
              have hP6 := Lib.hid p1
              have hB6 := Lib.hid (hB5.trans p2)
              clear hcut hP5 ho5 p1 p2 hr1 hdr hP2
              go_wp2
              exact ⟨⟨b + 1, by omega, by go_num, hP6, hB6⟩, by simp [intOf]; omega⟩
          · obtain rfl : b = nb := by omega
            go_wp2
            go_ret2
            exact ⟨hok2.out _ _ hP.out, hw.out⟩
      · have hb1 := Lib.hid (hnone.out hgg hr)
        clear hok hnone hgs hnn
        generalize maxT Ts j = mx at *
        by_cases hr0 : r < 0
        · have g1 : decide (r < 0) = true := by simpa using hr0
          go_wp2
          go_ret2
          exact ⟨hb1.out _, hw.out⟩
        · have g1 : decide (r < 0) = false := by simpa using hr0
          have g2 : decide ((mx : Int) ≤ r) = true := by simp; omega
          go_wp2
          go_ret2
          exact ⟨hb1.out _, hw.out⟩
end Go.Proofs.YtnhpjacodhdpeaaDoor
