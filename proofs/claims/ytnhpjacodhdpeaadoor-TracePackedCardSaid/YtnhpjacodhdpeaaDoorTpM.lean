/-
  Tables in a slice; what each has in one row of one bus.
-/
import Derived.Test.YtnhpjacodhdpeaaDoorTrR
namespace Go.Proofs.YtnhpjacodhdpeaaDoor
open Go.RowKit Go.Maps Bits
set_option maxRecDepth 100000

abbrev TT := List TB × List (List Int)
def tt0 : TT := ([], [])
/-- What a slice of tables holds. -/
def TsR (w : World) (a : Option Addr) (n : Nat) (Ts : List TT) : Prop :=
  Ts.length = n ∧ n ≤ 9223372036854775807 ∧ (n = 0 ∨ ∃ b off, a = some ⟨b, off, none⟩ ∧ b < w.heap.size ∧ ∀ i, i < n → ∃ a1 c1 a2 c2, w.cell? ⟨b, off + i * 2, none⟩ = some (.slice a1 (Ts.getD i tt0).1.length c1) ∧ w.cell? ⟨b, off + i * 2 + 1, none⟩ = some (.slice a2 (Ts.getD i tt0).2.length c2) ∧ (Ts.getD i tt0).1.length ≤ c1 ∧ BsR w a1 (Ts.getD i tt0).1.length (Ts.getD i tt0).1 ∧ RRk .u64 w a2 (Ts.getD i tt0).2.length (Ts.getD i tt0).2)
theorem TsR.step {W w1 : World} {a : Option Addr} {n : Nat} {Ts : List TT} (h : TsR W a n Ts) (hb : Below W.heap.size W w1) : TsR w1 a n Ts := by
  refine ⟨h.1, h.2.1, ?_⟩
  rcases h.2.2 with h0 | ⟨b, off, rfl, hlt, hc⟩
  · exact .inl h0
  · exact .inr ⟨b, off, rfl, Nat.lt_of_lt_of_le hlt hb.size, fun i hi => by obtain ⟨a1, c1, a2, c2, h1, h2, h3, h4, h5⟩ := hc i hi; exact ⟨a1, c1, a2, c2, stepc hb hlt h1, stepc hb hlt h2, h3, h4.step hb, h5.step hb⟩⟩
theorem TsR.at {w : World} {a : Option Addr} {n : Nat} {Ts : List TT} (h : TsR w a n Ts) (hn : 0 < n) : ∃ b off, a = some ⟨b, off, none⟩ ∧ b < w.heap.size ∧ ∀ i, i < n → ∃ a1 c1 a2 c2, w.cell? ⟨b, off + i * 2, none⟩ = some (.slice a1 (Ts.getD i tt0).1.length c1) ∧ w.cell? ⟨b, off + i * 2 + 1, none⟩ = some (.slice a2 (Ts.getD i tt0).2.length c2) ∧ (Ts.getD i tt0).1.length ≤ c1 ∧ BsR w a1 (Ts.getD i tt0).1.length (Ts.getD i tt0).1 ∧ RRk .u64 w a2 (Ts.getD i tt0).2.length (Ts.getD i tt0).2 := by
  rcases h.2.2 with h0 | h1
  · omega
  · exact h1
def numT (Ts : List TT) (row bus i : Nat) : Int := if row < (Ts.getD i tt0).2.length then ((Ts.getD i tt0).2.getD row []).getD bus 0 else 0
theorem fillF_skip (F : Nat → Int) (k j : Nat) (h : F j = 0) : fillF F k (j + 1) = fillF F k j := by
  unfold fillF
  refine row_congr fun i _ => ?_
  by_cases e : i = j
  · subst e; simp [h]
  · by_cases e2 : i < j
    · rw [if_pos (by omega), if_pos e2]
    · rw [if_neg (by omega), if_neg e2]

set_option maxHeartbeats 4000000 in
theorem numbers_any {w : World} {a : Option Addr} {n c rw_ bus : Nat} {Ts : List TT} (h : TsR w a n Ts) (hn : n ≤ 64) (hr : rw_ ≤ 4096) (hrows : ∀ i, i < n → rw_ < (Ts.getD i tt0).2.length → bus < ((Ts.getD i tt0).2.getD rw_ []).length) :
    Calls Tryd.prog 57 #[.int .i64 rw_, .int .i64 bus, .slice a n c] w fun e w' => ∃ g : Nat, e = .returned (.slice (some ⟨g, 0, none⟩) n n) ∧ w'.ownsRow w.heap.size 46 1 (.slice (some ⟨g, 0, none⟩) n n) n ((row n (numT Ts rw_ bus)).map (Value.int .u64)) ∧ Below w.heap.size w w' := by
  obtain ⟨i0, hin, hz0, hz1, hz2⟩ := info_parts info_u64t
  have HT := Lib.hid h
  have hF := Lib.hid (show ∀ i, numT Ts rw_ bus i = if rw_ < (Ts.getD i tt0).2.length then ((Ts.getD i tt0).2.getD rw_ []).getD bus 0 else 0 from fun i => rfl)
  have hrows := Lib.hid hrows
  clear h
  generalize numT Ts rw_ bus = F at *
  have HZ := Lib.hid (fillK_zero .u64 F n)
  go_enter Tryd.func57, Tryd.ntmps57
  go_upto_region 2 with (at_make; refine wpList_make_full _ rfl _ _ 37 rfl w.heap.size 46 i0 (.int .u64 0) 1 Tryd.underlying37 hin hz0 hz1 .i64 .i64 n n n rfl rfl rfl rfl (by rw [hz2]; omega) (by unfold maxLen; omega) (Nat.le_refl _) ?_; intro w3 hown hg; have hbg := Lib.hid ((Below.refl w.heap.size w).grown hg (Nat.le_refl _) (fun _ h => by cases h)); clear hg)
  go_wp2
  go_loopw [8, 9, 15] (fun _ _ i wr => ∃ j : Nat, j ≤ n ∧ i = .int .i64 j ∧ Hid (wr.ownsRow w.heap.size 46 1 (.slice (some ⟨w.heap.size, 0, none⟩) n n) n ((fillF F n j).map (Value.int .u64))) ∧ Hid (Below w.heap.size w wr)) (fun _ _ i _ => n - (intOf i).toNat)
  case atStart => exact ⟨0, Nat.zero_le _, rfl, Lib.hid (by rw [← HZ.out]; exact hown), hbg⟩
  case round =>
    clear hown HZ hbg
    obtain ⟨j, hj, rfl, hown, hw⟩ := hrel
    by_cases hlj : j < n
    · obtain ⟨b, off, rfl, hb, hcell⟩ := (HT.out.step hw.out).at (by omega)
      obtain ⟨a1, c1, a2, c2, t1, t2, -, -, hR⟩ := hcell j hlj
      have hjn : (j : Int) < n := by omega
      have hj0 : (0 : Int) ≤ j := by omega
      have hFj := Lib.hid (hF.out j)
      have hrj := Lib.hid (hrows.out j hlj)
      clear hcell
      generalize (Ts.getD j tt0).1.length = nl at *
      generalize (Ts.getD j tt0).2 = R at *
      have hbox : ∀ x, x = wr.alloc (.cells #[.slice a1 nl c1, .slice a2 R.length c2] 25) → Below wr.heap.size wr x ∧ x.cell? ⟨wr.heap.size, 1, none⟩ = some (.slice a2 R.length c2) := by
        rintro x rfl
        exact ⟨(Below.refl _ _).alloc (Nat.le_refl _) _, by simp [go_sem]⟩
      go_upto_region 5 with fail
      obtain ⟨hbx, e1⟩ := hbox _ rfl
      have hR := Lib.hid (hR.step hbx)
      have ho2 := own_below hown.out hbx
      have hw2 := Lib.hid (nextw hw.out hbx)
      clear hbox hown hw t1 t2
      generalize wr.alloc (.cells #[.slice a1 nl c1, .slice a2 R.length c2] 25) = wb at *
      generalize wr.heap.size = bb at *
      clear hbx
      by_cases hrl : rw_ < R.length
      · obtain ⟨rb, ro, rfl, hrb, hcell⟩ := hR.out.at (by omega)
        obtain ⟨ai, ci, r1, r2, r3, r4⟩ := hcell rw_ hrl
        have hbl := hrj.out hrl
        obtain ⟨qb, qo, rfl, hqb, hqc⟩ := r4.at (by omega)
        have rk := hqc bus hbl
        have hFv := hFj.out
        rw [if_pos hrl] at hFv
        rw [← hFv] at rk
        have g1 : (rw_ : Int) < R.length := by omega
        have g2 : (0 : Int) ≤ rw_ := by omega
        have g3 : (bus : Int) < ((R.getD rw_ []).length : Int) := by omega
        have g4 : (0 : Int) ≤ bus := by omega
        obtain ⟨⟨u, hu⟩, hfz, hst, hbs⟩ := fill_put ho2 hlj
        have hst := Lib.hid hst
        have hbs := Lib.hid hbs
        clear hcell hqc r4 hFv hFj hrj ho2
        generalize (R.getD rw_ []).length = lr at *
        generalize R.length = nR at *
        go_wp2
        exact ⟨⟨j + 1, by omega, by go_num, hst, Lib.hid (hw2.out.trans hbs.out)⟩, by simp [intOf]; omega⟩
      · have hFv := hFj.out
        rw [if_neg hrl] at hFv
        have hsk := fillF_skip F n j hFv
        have g1 : ¬ (rw_ : Int) < R.length := by omega
        have ho3 := Lib.hid (show wb.ownsRow w.heap.size 46 1 (.slice (some ⟨w.heap.size, 0, none⟩) n n) n ((fillF F n (j + 1)).map (Value.int .u64)) by rw [hsk]; exact ho2)
        clear hFv hFj hrj ho2 hR hsk
        generalize R.length = nR at *
        go_wp2
        exact ⟨⟨j + 1, by omega, by go_num, ho3, hw2⟩, by simp [intOf]; omega⟩
    · obtain rfl : j = n := by omega
      rw [fillF_full] at hown
      go_wp2
      go_ret
      exact ⟨_, rfl, hown.out, hw.out⟩
end Go.Proofs.YtnhpjacodhdpeaaDoor
