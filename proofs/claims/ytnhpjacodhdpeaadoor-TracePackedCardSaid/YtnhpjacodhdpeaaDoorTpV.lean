/-
  TracePacked: the walk.
-/
import Derived.Test.YtnhpjacodhdpeaaDoorTpR
import Derived.Test.YtnhpjacodhdpeaaDoorTrP
namespace Go.Proofs.YtnhpjacodhdpeaaDoor
open Go.RowKit Go.Maps Bits
set_option maxRecDepth 100000
set_option linter.unusedVariables false

theorem info_tabq : (Tryd.prog.info? 25).map (fun i => (i.zero, i.size, i.bytes)) = some (some (.agg #[.slice none 0 0, .slice none 0 0]), 2, 48) := by kernel_rfl
/-- One table in a slice of its own. -/
theorem TsR.single {w : World} {z1 z3 : Option Addr} {z2 z4 : Nat} {L : List TB} {R : List (List Int)} (h : BsR w z1 L.length L) (k : RRk .u64 w z3 R.length R) (hz : L.length ≤ z2) :
    ∀ x, x = w.alloc (.cells #[.slice z1 L.length z2, .slice z3 R.length z4] 25) → TsR x (some ⟨w.heap.size, 0, none⟩) 1 [(L, R)] ∧ Below w.heap.size w x := by
  rintro x rfl
  have hb : Below w.heap.size w (w.alloc (.cells #[.slice z1 L.length z2, .slice z3 R.length z4] 25)) := (Below.refl _ _).alloc (Nat.le_refl _) _
  refine ⟨⟨rfl, by omega, .inr ⟨w.heap.size, 0, rfl, by simp, fun i hi => ?_⟩⟩, hb⟩
  obtain rfl : i = 0 := by omega
  exact ⟨z1, z2, z3, z4, by simp [go_sem], by simp [go_sem], hz, h.step hb, k.step hb⟩

/-- A table alone that may not be, or has no row, is not packed. -/
theorem pack_single {L : List TB} {R : List (List Int)} (k : mayT L R = false ∨ R.length = 0) : packE [(L, R)] 1 0 = 1 ∨ packE [(L, R)] 1 0 = 6 := by
  unfold packE
  split
  · exact .inl rfl
  · rename_i hh
    right
    rw [if_neg]
    intro hx
    rcases k with k | k
    · apply hh
      apply range_not (i := 0) (by omega)
      simp [goodT, k]
    · simp [maxT, k] at hx

/-- A lane of a row that Pack has made. -/
theorem lane_of {w : World} {base : Nat} {a2 : Option Addr} {c2 W n : Nat} {F : Nat → Nat} (ho : w.ownsRow base 46 1 (.slice a2 W c2) W (wl W (turn (cutAt n F)))) (hW : 1 ≤ W ∧ W ≤ 64) (hF : ∀ i, i < n → F i < 2 ^ W) {i : Nat} (hi : i < 64) :
    Calls Tryd.prog 32 #[.slice a2 W c2, .int .i64 i] w fun e w' => e = .returned (.tuple #[.int .u64 (cutAt n F i : Nat), .int .i64 0]) ∧ Below w.heap.size w w' := by
  have h64 : (2 : Nat) ^ W ≤ 18446744073709551616 := by have := Nat.pow_le_pow_right (n := 2) (by decide) hW.2; simpa using this
  have hc := cutAt_lt (n := n) (f := F) (fun i hi => Nat.lt_of_lt_of_le (hF i hi) h64)
  have h := lane_any (c := c2) (i : Int) (WRow.of_own ho (by omega)) (fun _ j _ => turn_lt hc j)
  rw [if_pos (by omega), Int.toNat_natCast, lane_word' hW.2 hF hi] at h
  exact h

set_option maxHeartbeats 8000000 in
theorem Packed_any {w : World} {a a2 : Option Addr} {n m : Nat} {L : List TB} {R : List (List Int)} (hTZ : TZ w) (h : BsR w a n L) (h2 : RRk .u64 w a2 m R) (hWd : ∀ i, Words ((fewR R).getD i [])) (c c2 : Nat) (y z : Nat) (hy : y < 256) (hz : z < 256) :
    Calls Tryd.prog 7 #[.agg #[.slice a n c, .slice a2 m c2], .int .u8 y, .int .u8 z] w fun e w' => e = .returned (.bool true) ∧ Below w.heap.size w w' := by
  have hb1 : ∀ x, x = w.alloc (.cells #[.slice a n c, .slice a2 m c2] 25) → Below w.heap.size w x ∧ w.heap.size < x.heap.size ∧ x.heap[w.heap.size]? = some (.cells #[.slice a n c, .slice a2 m c2] 25 (0, 0)) := by
    rintro x rfl
    exact ⟨(Below.refl _ _).alloc (Nat.le_refl _) _, by simp, heap_alloc_new w _⟩
  obtain ⟨hbx, hbz, hh0⟩ := hb1 _ rfl
  have hfew := Lib.hid (few_any (h.step hbx) (h2.step hbx) c c2)
  have hL20 := fewL_len L
  have hR30 := fewR_len R
  have hR25 := Lib.hid (fewR_rows R)
  have hwd := Lib.hid hWd
  have hTz := Lib.hid (fun w3 (hb : Below w.heap.size w w3) => hTZ.step hb)
  clear h h2 hWd hb1
  generalize fewL L = LL at *
  generalize fewR R = RR at *
  generalize hwa : w.alloc (.cells #[.slice a n c, .slice a2 m c2] 25) = wa at *
  have hbx := Lib.hid hbx
  have hnn : Hid (NN RR) := Lib.hid (by
    intro r hr z hz
    obtain ⟨i, hi, rfl⟩ := List.getElem_of_mem hr
    obtain ⟨j, hj, rfl⟩ := List.getElem_of_mem hz
    have := hwd.out i j
    simp [List.getD, hi, hj] at this
    omega)
  go_enter Tryd.func7, Tryd.ntmps7
  go_upto_region 1 with fail
  have q0 := cell_of_heap hh0 0 (.slice a n c) rfl
  have q1 := cell_of_heap hh0 1 (.slice a2 m c2) rfl
  go_upto_region 2 with (go_at_call 10; (with_reducible refine hfew.out.mono ?_); rintro e w5 ⟨va, v2, rfl, hTa, hb5⟩; obtain ⟨z1, z2, z3, z4, rfl, rfl, hz1, hbz1, hrz1⟩ := hTa.tab.ins (by omega) (by omega) (fun q _ => by have := hR25.out q; omega); have hh5 := (hb5.block _ hbz).trans hh0; have p0 := cell_of_heap hh5 0 (.slice a n c) rfl; have p1 := cell_of_heap hh5 1 (.slice a2 m c2) rfl; have pf0 := frozen_of_row w5 w.heap.size 0 _ _ hh5; have pf1 := frozen_of_row w5 w.heap.size 1 _ _ hh5; have hh5 := Lib.hid hh5; obtain ⟨kv9, hkv9, -⟩ := hTa.rows; have hz4 := (own_cap hkv9).1; have hB5 := Lib.hid (nextw hbx.out hb5); have hge5 := Lib.hid (hTa.tab); clear hkv9 kv9 hTa hb5 hbz1 hrz1)
  obtain ⟨e1, e2, -, e4⟩ := tset (u' := .slice z1 LL.length z2) (v' := .slice z3 RR.length z4) hh5.out hB5.out (Nat.le_refl _) _ rfl
  obtain ⟨y1, y2, y3, y4, f1, f2, -, f3, f4⟩ := (hge5.out.box hh5.out e4).ins (by omega) (by omega) (fun q _ => by have := hR25.out q; omega)
  cases f1; cases f2
  clear hge5 hh5 e4 p0 p1 pf0 pf1 q0 q1 hh0 hfew hbx hbz hB5
  generalize (w5.setCell ⟨w.heap.size, 0, none⟩ (.slice z1 LL.length z2)).setCell ⟨w.heap.size, 1, none⟩ (.slice z3 RR.length z4) = wb at *
  have q0 := cell_of_heap e1 0 (.slice z1 LL.length z2) rfl
  have q1 := cell_of_heap e1 1 (.slice z3 RR.length z4) rfl
  have hltb := (Array.getElem?_eq_some_iff.1 e1).1
  have hB1 := Lib.hid e2
  have hT1 := Lib.hid f3
  have hU1 := Lib.hid f4
  have hmay := Lib.hid (May_any f3 f4 z2 z4 hz1)
  clear e1 e2 f3 f4
  rcases (show (mayT LL RR = false ∨ RR.length = 0) ∨ (mayT LL RR = true ∧ 0 < RR.length) by by_cases e0 : RR.length = 0; exact .inl (.inr e0); cases e1 : mayT LL RR; exact .inl (.inl rfl); exact .inr ⟨rfl, by omega⟩) with k1 | ⟨k1, k2⟩
  · have hsg := TsR.single (z2 := z2) (z4 := z4) hT1.out hU1.out hz1
    have hpe := pack_single k1
    have hwx := Lib.hid (fun w3 hb => (hTz.out w3 (nextw hB1.out hb)))
    have hmf : Hid (mayT LL RR = true → RR.length = 0) := Lib.hid (fun e => by rcases k1 with k1 | k1; rw [k1] at e; cases e; exact k1)
    have hnn1 : ∀ i, i < 1 → NN ([(LL, RR)].getD i tt0).2 := fun i hi => by
      obtain rfl : i = 0 := by omega
      exact hnn.out
    have hpk := Lib.hid (fun (w4 : World) (hb : Below wb.heap.size wb w4) => Pack_any (c := 1) ((TsR.single (z2 := z2) (z4 := z4) (hT1.out.step hb) (hU1.out.step hb) hz1 _ rfl).1) (by omega) (by omega) hnn1 (r := 0) (by omega) (by omega))
    clear hsg hT1 hU1 hnn hnn1 k1
    have hE : Hid (∀ w0 w' e, PackOk [(LL, RR)] 1 0 w0 w' e → ∃ x : Nat, (x = 1 ∨ x = 6) ∧ e = .returned (.tuple #[.slice none 0 0, .int .i64 (x : Nat)])) := Lib.hid (fun w0 w' e h => by
      unfold PackOk at h
      rw [if_neg (by omega)] at h
      exact ⟨_, hpe, h⟩)
    clear hpe
    rcases (show mayT LL RR = false ∨ mayT LL RR = true by cases mayT LL RR <;> simp) with k2 | k2
    · rw [k2] at hmay
      clear hmf k2
      go_wp2_with (first
        | (go_at_call 20; (with_reducible refine hmay.out.mono ?_); rintro e w6 ⟨rfl, hb6⟩; have p0 := stepc hb6 hltb q0; have p1 := stepc hb6 hltb q1; have hpk6 := Lib.hid (hpk.out w6 hb6); have hB6 := Lib.hid (nextw hB1.out hb6); have hbs := Lib.hid (tnew (W := w6) (u := .slice z1 LL.length z2) (v := .slice z3 RR.length z4) _ rfl).1; clear hb6 hmay hpk q0 q1)
        | (go_at_call 25; (with_reducible refine hpk6.out.mono ?_); rintro e w7 ⟨hP7, hb7⟩; obtain ⟨x, hx, rfl⟩ := hE.out _ _ _ hP7; have hxn : ((x : Int) != 0) = true := (by rcases hx with rfl | rfl <;> rfl); have hxd : ¬ (x : Int) = 0 := (by rcases hx with rfl | rfl <;> omega); have hB7 := Lib.hid (nextw (nextw hB6.out hbs.out) hb7); have hwk := Lib.hid (wakes_any (hTz.out _ hB7.out)); clear hb7 hP7 hpk6)
        | (go_at_call 24; (with_reducible refine hwk.out.mono ?_); rintro e w8 ⟨rfl, hb8⟩; have hB8 := Lib.hid (nextw hB7.out hb8); clear hb8))
      go_ret
      exact ⟨rfl, hB8.out⟩
    · rw [k2] at hmay
      have hr0 := hmf.out k2
      rw [hr0] at q1 hpk hmay
      clear hmf k2 hr0
      go_wp2_with (first
        | (go_at_call 20; (with_reducible refine hmay.out.mono ?_); rintro e w6 ⟨rfl, hb6⟩; have p0 := stepc hb6 hltb q0; have p1 := stepc hb6 hltb q1; have hpk6 := Lib.hid (hpk.out w6 hb6); have hB6 := Lib.hid (nextw hB1.out hb6); have hbs := Lib.hid (tnew (W := w6) (u := .slice z1 LL.length z2) (v := .slice z3 0 z4) _ rfl).1; clear hb6 hmay hpk q0 q1)
        | (go_at_call 25; (with_reducible refine hpk6.out.mono ?_); rintro e w7 ⟨hP7, hb7⟩; obtain ⟨x, hx, rfl⟩ := hE.out _ _ _ hP7; have hxn : ((x : Int) != 0) = true := (by rcases hx with rfl | rfl <;> rfl); have hxd : ¬ (x : Int) = 0 := (by rcases hx with rfl | rfl <;> omega); have hB7 := Lib.hid (nextw (nextw hB6.out hbs.out) hb7); have hwk := Lib.hid (wakes_any (hTz.out _ hB7.out)); clear hb7 hP7 hpk6)
        | (go_at_call 24; (with_reducible refine hwk.out.mono ?_); rintro e w8 ⟨rfl, hb8⟩; have hB8 := Lib.hid (nextw hB7.out hb8); clear hb8))
      go_ret
      exact ⟨rfl, hB8.out⟩
  · rw [k1] at hmay
    have hk2c : ¬ (RR.length : Int) = 0 := by omega
    have hk2b : ((RR.length : Int) == 0) = false := by rw [beq_eq_false_iff_ne]; omega
    obtain ⟨kvR, hvR, hvC⟩ := hU1.out.vals
    have hvR := Lib.hid hvR
    obtain ⟨b3, o3, hz3, hb3, -⟩ := hU1.out.at k2
    subst hz3
    have hvC := Lib.hid (fun i hi => hvC b3 o3 rfl i hi)
    obtain ⟨my, hmy⟩ : ∃ my, my = y % 8 := ⟨_, rfl⟩
    have hmy8 : my < 8 := by omega
    have hyt : (y : Int).tmod 8 = (my : Int) := by rw [hmy]; rfl
    have hyw : IntKind.i64.wrap (my : Int) = (my : Int) := by unfold IntKind.wrap; simp [IntKind.signed, IntKind.bits]; omega
    have hyw1 : IntKind.i64.wrap (1 + (my : Int)) = ((my + 1 : Nat) : Int) := by unfold IntKind.wrap; simp [IntKind.signed, IntKind.bits]; omega
    have hB1' := Lib.hid (Below.refl wb.heap.size wb)
    obtain ⟨i0, hin, hz0', hz1', hz2'⟩ := info_parts info_rowq
    obtain ⟨j0, jin, jz0, jz1, jz2⟩ := info_parts info_tabq
    clear hmy
    go_upto_region 7 with (go_at_call 20; (with_reducible refine hmay.out.mono ?_); rintro e w6 ⟨rfl, hb6⟩; have p0 := stepc hb6 hltb q0; have p1 := stepc hb6 hltb q1; have hB6 := Lib.hid hb6; clear hb6 hmay)
    clear hU1
    go_loopw [9, 10, 11, 46] (fun s9 _ _ s46 wx => ∃ (i : Nat) (kv : List Value), i ≤ my + 1 ∧ s46 = .int .i64 i ∧ Hid (TL wx wb.heap.size s9 (.slice z1 LL.length z2) kvR RR i kv) ∧ Hid (Below wb.heap.size wb wx)) (fun _ _ _ s46 _ => my + 1 - (intOf s46).toNat)
    case atStart => exact ⟨0, [], by omega, rfl, Lib.hid ⟨rfl, ⟨rfl, .inl ⟨rfl, rfl⟩⟩, fun j hj => by omega⟩, hB6⟩
    case round =>
      clear p0 p1 hB6
      obtain ⟨i, kv, hi, rfl, hTL, hw⟩ := hrel
      obtain ⟨wj, rfl⟩ : ∃ wj : World, wj = wr := ⟨_, rfl⟩
      by_cases hlt : i < my + 1
      · -- @slow
        have p0 := stepc hw.out hltb q0
        have p1 := stepc hw.out hltb q1
        obtain ⟨k, hk⟩ : ∃ k, k = i % RR.length := ⟨_, rfl⟩
        have hkl : k < RR.length := by rw [hk]; exact Nat.mod_lt _ k2
        have hrem2 := Lib.hid (show (i : Int) % (RR.length : Int) = (k : Int) by rw [hk]; rfl)
        have hzk : ¬ z4 = k := by omega
        obtain ⟨kh, hkh⟩ : ∃ kh, kh = k / 2 := ⟨_, rfl⟩
        have hk20 : kh ≤ RR.length := by omega
        have hkq : (k : Int).tdiv 2 = (kh : Int) := by rw [hkh]; rfl
        have hkq2 : (k : Int) / 2 = (kh : Int) := by rw [hkh]; rfl
        have hkq0 : (0 : Int) ≤ (kh : Int) := by omega
        have hkqz : (kh : Int) ≤ z4 := by omega
        have hkw : IntKind.i64.wrap (kh : Int) = (kh : Int) := by unfold IntKind.wrap; simp [IntKind.signed, IntKind.bits]; omega
        have hkhH := Lib.hid hkh
        have hkH := Lib.hid hk
        clear hkh hk
        have hk0 : (0 : Int) ≤ k := by omega
        have hkn : (k : Int) ≤ RR.length := by omega
        have hkz : (RR.length : Int) ≤ z4 := by omega
        have hltw : w.heap.size < wj.heap.size := Nat.lt_of_lt_of_le hltb hw.out.size
        have hd1 : ∀ j u, (kvR.drop k)[j]? = some u → wj.drew.cell? ((⟨b3, o3 + k, none⟩ : Addr).add j) = some u := by
          intro j u hu
          rw [List.getElem?_drop] at hu
          have hlen := hvR.out.1
          have hjl : k + j < RR.length := by have := (List.getElem?_eq_some_iff.1 hu).1; omega
          obtain ⟨u2, g1, g2⟩ := hvC.out (k + j) hjl
          rw [g1] at hu
          rw [← Option.some.inj hu, show (⟨b3, o3 + k, none⟩ : Addr).add j = ⟨b3, o3 + (k + j), none⟩ by simp [Addr.add, Nat.add_assoc]]
          exact stepc (nextw hw.out (Below.refl _ _).drew) hb3 g2
        have hd1 := Lib.hid hd1
        have hv1 := Lib.hid (hvR.out.one)
        have hd2 := Lib.hid (fun (w7 : World) (hb : Below wj.heap.size wj w7) => (show ∀ j u, (kvR.take kh)[j]? = some u → w7.cell? ((⟨b3, o3, none⟩ : Addr).add j) = some u from by
          intro j u hu
          have hlen := hvR.out.1
          have hjl : j < kh := by have := (List.getElem?_eq_some_iff.1 hu).1; simp at this; omega
          rw [List.getElem?_take_of_lt hjl] at hu
          obtain ⟨u2, g1, g2⟩ := hvC.out j (by omega)
          rw [g1] at hu
          rw [← Option.some.inj hu, show (⟨b3, o3, none⟩ : Addr).add j = ⟨b3, o3 + j, none⟩ by simp [Addr.add]]
          exact stepc (nextw hw.out hb) hb3 g2))
        have hrl : Hid ((rotP RR i).length = RR.length - k + kh) := Lib.hid (by show _ = _; rw [(rotP_len RR i k2).1, hkhH.out, hkH.out])
        have hrv : Hid (rotV kvR RR.length i = kvR.drop k ++ kvR.take kh) := Lib.hid (by show _ = _; unfold rotV; rw [hkhH.out, hkH.out])
        have hvl := hvR.out.1
        go_upto_region 10 with fail
        rw [hrem2.out]
        go_region_law (first
          | (refine step_append_any (by rfl) (.const (.slice none 0 0)) (.tmp 60) _ (by rfl) wj.heap.size 37 i0 (.slice none 0 0) 1 24 Tryd.underlying23 hin hz0' hz1' hz2' rfl (by decide) (.slice none 0 0) 0 [] (by rfl) (own_nil _ _ _) ⟨b3, o3 + k, none⟩ (RR.length - k) _ (kvR.drop k) (by rfl) (by simp [hvl]) hd1.out (fun u hu => hv1.out u (List.mem_of_mem_drop hu)) (by unfold maxLen; omega) (by omega) (by simp) ?_; intro v7 w7 hown7 hg7; have hb7 := Lib.hid (((Below.refl wj.heap.size wj).drew).grown hg7 (Nat.le_refl _) (fun k e => by cases e)); have own7 : Hid (w7.ownsRow wj.heap.size 37 1 v7 (RR.length - k) (kvR.drop k)) := Lib.hid (by simpa using hown7); have p0' := stepc hb7.out hltw p0; have p1' := stepc hb7.out hltw p1; have hd3 := Lib.hid (hd2.out w7 hb7.out); clear hown7 hg7)
          | (refine step_append_any (by rfl) (.tmp 61) (.tmp 66) _ (by rfl) wj.heap.size 37 i0 (.slice none 0 0) 1 24 Tryd.underlying23 hin hz0' hz1' hz2' rfl (by decide) v7 (RR.length - k) (kvR.drop k) (by rfl) own7.out ⟨b3, o3, none⟩ kh _ (kvR.take kh) (by rfl) (by simp [hvl]; omega) hd3.out (fun u hu => hv1.out u (List.mem_of_mem_take hu)) (by unfold maxLen; omega) (by omega) hb7.out.size ?_; intro v9 w9 own9 hg9; have hb9 := Lib.hid (hb7.out.trans ((Below.refl wj.heap.size w7).grown hg9 hb7.out.size (fun k e => own_ge own7.out k e))); obtain ⟨g9, c9, rfl⟩ := own_form own9 (by omega); have p0'' := stepc hb9.out hltw p0; have p1'' := stepc hb9.out hltw p1; have hba := hb9.out.alloc hb9.out.size (.cells #[.slice z1 LL.length z2, .slice (some ⟨g9, 0, none⟩) (RR.length - k + kh) c9] 25); have hTLa := Lib.hid (hTL.out.step hba); have own9a := Lib.hid (own_below own9 ((Below.refl w9.heap.size w9).alloc (Nat.le_refl _) (.cells #[.slice z1 LL.length z2, .slice (some ⟨g9, 0, none⟩) (RR.length - k + kh) c9] 25))); have hba := Lib.hid hba; clear hg9 own9)
          | (refine step_append_any (by rfl) (.tmp 54) (.tmp 69) _ (by rfl) wb.heap.size 25 j0 (.agg #[.slice none 0 0, .slice none 0 0]) 2 48 Tryd.underlying53 jin jz0 jz1 jz2 rfl (by decide) _ i (tcs (.slice z1 LL.length z2) kv) (by rfl) hTLa.out.own ⟨_, 0, none⟩ 1 _ [.slice z1 LL.length z2, .slice (some ⟨g9, 0, none⟩) (RR.length - k + kh) c9] (by rfl) rfl (news_list _ _ _) (fun u hu => by simp at hu; rcases hu with rfl | rfl <;> rfl) (by unfold maxLen; omega) (by omega) (Nat.le_trans hw.out.size hba.out.size) ?_; intro v11 w11 hown11 hg11; have hT11 := Lib.hid (hTLa.out.push (by rw [hrl.out, hrv.out]; exact own_base own9a.out hw.out.size) hown11 hg11); have hb11 := Lib.hid ((hw.out.trans (hba.out.mono hw.out.size)).grown hg11 (by have := hba.out.size; have := hw.out.size; omega) (fun k e => own_ge hTLa.out.own k e)); clear hown11 hg11))
        all_goals (simp only [List.getElem_toArray, List.getElem_cons_succ, List.getElem_cons_zero, Act.put, List.setIfInBounds_toArray, List.set_cons_succ, List.set_cons_zero])
        all_goals go_wp2
        all_goals first
          | exact ⟨⟨i + 1, _, by omega, by go_num, hT11, hb11⟩, by simp [intOf]; omega⟩
          | (refine ⟨?_, by simp [intOf]; omega⟩; (repeat apply Exists.intro); exact ⟨⟨i + 1, _, by omega, by go_num, hT11, hb11⟩, rfl⟩)
        -- @end
      · have hi1 : 0 < i := by omega
        have hi8 : i ≤ 8 := by omega
        have hid : decide ((i : Int) < (my : Int) + 1) = false := by simp; omega
        have p0 := stepc hw.out hltb q0
        have p1 := stepc hw.out hltb q1
        obtain ⟨al, cl, hal⟩ := own_slice hTL.out.own
        subst hal
        have hTs := Lib.hid (hTL.out.tables hvR.out hw.out hT1.out hz1 k2 (by omega) (by omega))
        have hGd := Lib.hid (rot_good k1 hnn.out k2 hi1)
        have hNn := Lib.hid (rot_nn k1 hnn.out k2 (m := i))
        obtain ⟨at_, hat⟩ : ∃ k, k = z % RR.length := ⟨_, rfl⟩
        have hatl : at_ < RR.length := by rw [hat]; exact Nat.mod_lt _ k2
        have hrem2 := Lib.hid (show (z : Int) % (RR.length : Int) = (at_ : Int) by rw [hat]; rfl)
        have hzw : IntKind.i64.wrap (z : Int) = (z : Int) := by unfold IntKind.wrap; simp [IntKind.signed, IntKind.bits]; omega
        have hpE := Lib.hid (rot_packE k1 hnn.out k2 hi1 hatl)
        have hpk := Lib.hid (Pack_any (c := cl) (r := (at_ : Int)) hTs.out hi1 (by omega) hNn.out (by omega) (by omega))
        have hT00 := Lib.hid (rotTs_at LL RR hi1)
        have hTat := Lib.hid (fun j hj => rotTs_at LL RR (m := i) (i := j) hj)
        have hrl := Lib.hid (fun j => (rotP_len RR j k2).2.2)
        have hfit := Lib.hid (fun j b hj hb hr => good_rows hGd.out (i := j) (r := at_) (b := b) hj hb hr)
        have hwd := Lib.hid (fun b hb => good_wide hGd.out hi1 (b := b) hb)
        have hnm := Lib.hid (fun b k hb hk => good_num hGd.out hNn.out hi1 (r := at_) (b := b) (k := k) hb hk)
        have hnF := Lib.hid (fun b k => (show numT (rotTs LL RR i) at_ b k = if at_ < ((rotTs LL RR i).getD k tt0).2.length then (((rotTs LL RR i).getD k tt0).2.getD at_ []).getD b 0 else 0 from rfl))
        have hE : Hid (∀ w0 w' e, PackOk (rotTs LL RR i) i (at_ : Int) w0 w' e → ∃ g : Nat, e = .returned (.tuple #[.slice (some ⟨g, 0, none⟩) LL.length LL.length, .int .i64 0]) ∧ PR w' w0.heap.size g LL.length (wdT (rotTs LL RR i)) (nuT (rotTs LL RR i) at_) i LL.length) := Lib.hid (fun w0 w' e h => by
          unfold PackOk at h
          rw [if_pos hpE.out, hT00.out, Int.toNat_natCast] at h
          exact h)
        rw [hT00.out] at hwd hnm hfit
        have hltw : w.heap.size < wj.heap.size := Nat.lt_of_lt_of_le hltb hw.out.size
        clear hat hTL hvC hpE hGd hNn hT00 hvR hlt
        generalize wdT (rotTs LL RR i) = W at *
        generalize nuT (rotTs LL RR i) at_ = f at *
        generalize numT (rotTs LL RR i) at_ = F at *
        generalize rotTs LL RR i = Ts at *
        go_upto_region 13 with fail
        rw [hrem2.out]
        clear hrem2 hzw
        go_upto_region 16 with (go_at_call 25; (with_reducible refine hpk.out.mono ?_); rintro e w20 ⟨hP20, hb20⟩; obtain ⟨g20, rfl, hPR⟩ := hE.out _ _ _ hP20; have p0' := stepc hb20 hltw p0; have hTs20 := Lib.hid (hTs.out.step hb20); have hPR := Lib.hid hPR; have hB20 := Lib.hid (nextw (nextw hB1.out hw.out) hb20); have hll : ((LL.length : Int) != (LL.length : Int)) = false := (by simp); clear hP20 hb20 hpk p0 p1)
        clear p0' hE hTs hltw
        obtain ⟨nb, hnb⟩ : ∃ nb, LL.length = nb := ⟨_, rfl⟩
        rw [hnb] at hPR hwd hnm hfit hL20 hll ⊢
        clear hnb
        obtain ⟨tb, tf, hta, htb, htc⟩ := hTs20.out.at hi1
        subst hta
        have htc := Lib.hid htc
        clear hTs20
        go_wp2
        go_loopw [15, 16, 17, 18, 19, 96] (fun _ _ _ _ _ s wx => ∃ b : Nat, b ≤ nb ∧ s = .int .i64 b ∧ Hid (Below w20.heap.size w20 wx)) (fun _ _ _ _ _ s _ => nb - (intOf s).toNat)
        case atStart => exact ⟨0, Nat.zero_le _, rfl, Lib.hid (Below.refl _ _)⟩
        case round =>
          obtain ⟨b, hb, rfl, hbk⟩ := hrel
          obtain ⟨wk, rfl⟩ : ∃ wk : World, wk = wr := ⟨_, rfl⟩
          by_cases hlb : b < nb
          · obtain ⟨kv, hkv, hrow⟩ := hPR.out
            obtain ⟨a2, c2, hk1, hk2⟩ := hrow b hlb
            have hgl := own_lt hkv
            have s0 : w20.cell? ⟨g20, b, none⟩ = some (.slice a2 (W b) c2) := by rw [hkv.cellAt (j := b) (by omega)]; exact hk1
            have s0 := stepc hbk.out hgl s0
            have hk2 := Lib.hid (own_below hk2 hbk.out)
            obtain ⟨w1, w2, -⟩ := hwd.out b hlb
            have hLn := Lib.hid (fun (w5 : World) (hb5 : Below wk.heap.size wk w5) k (hk : k < 64) => lane_of (own_below hk2.out hb5) ⟨w1, w2⟩ (fun k hk => (hnm.out b k hlb hk).2) hk)
            have hnmb := Lib.hid (fun k hk => (hnm.out b k hlb hk).1)
            have hFb := Lib.hid (fun k => hnF.out b k)
            have hfb := Lib.hid (fun j hj hr => hfit.out j b hj hlb hr)
            have hbn : (b : Int) < nb := by omega
            have hb0 : (0 : Int) ≤ b := by omega
            have hgk : g20 < wk.heap.size := Nat.lt_of_lt_of_le hgl hbk.out.size
            clear hkv hrow hk1 hgl hk2
            go_wp2_with fail
            go_loopw [16, 17, 18, 19, 99] (fun _ _ _ _ s wx => ∃ k : Nat, k ≤ 64 ∧ s = .int .i64 k ∧ Hid (Below wk.heap.size wk wx)) (fun _ _ _ _ s _ => 64 - (intOf s).toNat)
            case atStart => exact ⟨0, Nat.zero_le _, rfl, Lib.hid (Below.refl _ _)⟩
            case round =>
              obtain ⟨k, hk, rfl, hbj⟩ := hrel
              obtain ⟨wq, rfl⟩ : ∃ wq : World, wq = wr := ⟨_, rfl⟩
              have s1 := stepc hbj.out hgk s0
              by_cases hlk : k < 64
              · have hl := Lib.hid (hLn.out wq hbj.out k hlk)
                have hk0 : (0 : Int) ≤ k := by omega
                have hdk : decide ((k : Int) < 64) = true := by simp; omega
                have hb2 := Lib.hid (nextw hbk.out hbj.out)
                by_cases hki : k < i
                · obtain ⟨a1, c1, a3, c3, -, t2, -, -, hRk⟩ := htc.out k hki
                  have t2 := stepc hb2.out htb t2
                  have hRk := hRk.step hb2.out
                  have hv := hnmb.out k hki
                  have hFk := hFb.out k
                  have hfk := hfb.out k hki
                  have hcut : cutAt i (f b) k = f b k := by unfold cutAt; rw [if_pos hki]
                  rw [hcut] at hl
                  clear hcut
                  generalize f b k = v at *
                  generalize F b k = V at *
                  subst hv
                  have hki2 : decide ((k : Int) < (i : Int)) = true := by simp; omega
                  have hki3 : (k : Int) < i := by omega
                  generalize (Ts.getD k tt0).2 = Rk at *
                  by_cases har : at_ < Rk.length
                  · rw [if_pos har] at hFk
                    have hbl := hfk har
                    obtain ⟨rb, ro, hra, hrb, hrc⟩ := hRk.at (by omega)
                    subst hra
                    obtain ⟨ai, ci, r1, -, -, r4⟩ := hrc at_ har
                    obtain ⟨qb, qo, hqa, hqb, hqc⟩ := r4.at (by omega)
                    subst hqa
                    have r2 := hqc b hbl
                    rw [← hFk] at r2
                    have ga : decide ((at_ : Int) < (Rk.length : Int)) = true := by simp; omega
                    have ga2 : (at_ : Int) < Rk.length := by omega
                    have ga0 : (0 : Int) ≤ at_ := by omega
                    have gb : (b : Int) < ((Rk.getD at_ []).length : Int) := by omega
                    have gv : ((v : Int) != (v : Int)) = false := by simp
                    clear hrc hqc r4 hFk hfk hRk
                    generalize (Rk.getD at_ []).length = lr at *
                    generalize Rk.length = nR at *
                    go_wp2_with (go_at_call 32; (with_reducible refine hl.out.mono ?_); rintro e w5 ⟨rfl, hb5⟩; have hB5 := Lib.hid (nextw hbj.out hb5); clear hb5 hl)
                    exact ⟨⟨k + 1, by omega, by go_num, hB5⟩, by simp [intOf]; omega⟩
                  · rw [if_neg har] at hFk
                    obtain rfl : v = 0 := by omega
                    have ga : decide ((at_ : Int) < (Rk.length : Int)) = false := by simp; omega
                    clear hFk hfk hRk
                    generalize Rk.length = nR at *
                    go_wp2_with (go_at_call 32; (with_reducible refine hl.out.mono ?_); rintro e w5 ⟨rfl, hb5⟩; have hB5 := Lib.hid (nextw hbj.out hb5); clear hb5 hl)
                    exact ⟨⟨k + 1, by omega, by go_num, hB5⟩, by simp [intOf]; omega⟩
                · have hcut : cutAt i (f b) k = 0 := by unfold cutAt; rw [if_neg hki]
                  rw [hcut] at hl
                  have hki2 : decide ((k : Int) < (i : Int)) = false := by simp; omega
                  clear hcut
                  go_wp2_with (go_at_call 32; (with_reducible refine hl.out.mono ?_); rintro e w5 ⟨rfl, hb5⟩; have hB5 := Lib.hid (nextw hbj.out hb5); clear hb5 hl)
                  exact ⟨⟨k + 1, by omega, by go_num, hB5⟩, by simp [intOf]; omega⟩
              · obtain rfl : k = 64 := by omega
                have hb2 := Lib.hid (nextw hbk.out hbj.out)
                go_wp2
                exact ⟨⟨b + 1, by omega, by go_num, hb2⟩, by simp [intOf]; omega⟩
          · obtain rfl : b = nb := by omega
            have hBe := Lib.hid (nextw hB20.out hbk.out)
            have hwk := Lib.hid (wakes_any (hTz.out _ hBe.out))
            go_wp2_with (go_at_call 24; (with_reducible refine hwk.out.mono ?_); rintro e w8 ⟨rfl, hb8⟩; have hB8 := Lib.hid (nextw hBe.out hb8); clear hb8)
            go_ret
            exact ⟨rfl, hB8.out⟩
end Go.Proofs.YtnhpjacodhdpeaaDoor
