/-
  The walk over WordAll.
-/
import Derived.Test.YtmieddcgnaddiaaRefG
import Derived.Test.YtmieddcgnaddiaaWordL
namespace Go.Proofs.Ytmieddcgnaddiaa
open Go.RowKit Bits

/-- Both 'All's tell the same. -/
theorem both_all (op : Int) (B S : Bool) (W : Int) (zs : List Int) (n : Nat) (hl : zs.length = n) (hz0 : ∀ i, i < n → 0 ≤ zs.getD i 0 ∧ zs.getD i 0 < 18446744073709551616) (hmx : n ≤ 9223372036854775807) :
    ∃ v e : Int, ∀ (w : World) (b cap : Nat), b < w.heap.size → (∀ i, i < n → w.cell? ⟨b, 0 + i, none⟩ = some (.int .u64 (zs.getD i 0))) →
      (Calls Try.prog 10 #[.int .i64 op, .agg #[.bool B, .bool S, .int .i64 W], .slice (some ⟨b, 0, none⟩) n cap] w fun e' w' => e' = .returned (.tuple #[.int .u64 v, .int .i64 e]) ∧ Below w.heap.size w w') ∧
      (Calls Try.prog 11 #[.int .i64 op, .agg #[.bool B, .bool S, .int .i64 W], .slice (some ⟨b, 0, none⟩) n cap] w fun e' w' => e' = .returned (.tuple #[.int .u64 v, .int .i64 e]) ∧ Below w.heap.size w w') := by
  cases hn : neutOk op with
  | false => exact ⟨0, 1, fun w b cap _ _ => ⟨all_no op B S W _ w hn, rall_no op B S W _ w (.inl hn)⟩⟩
  | true =>
    have hring : ringOp op = true := hn
    by_cases hm : may B S W = true
    · by_cases hok : okOp op B = true
      · exact ⟨(allR op B S W zs).1, (allR op B S W zs).2, fun w b cap hlt hc => ⟨all_any op B S W b 0 n cap zs w hn hl hlt hmx hc, rall_yes op B S W b 0 n cap zs w hok hm hl hz0 hlt hmx hc⟩⟩
      · have hB : B = true ∧ 3 < op := by
          unfold okOp at hok; rw [hring] at hok; simp at hok; exact hok
        have hmt : mayTwo op B = false := by
          rcases ring_cases hring with rfl | rfl | rfl | rfl | rfl
          · omega
          · omega
          · omega
          · rw [hB.1]; rfl
          · rw [hB.1]; rfl
        have e := bad_start (S := S) (W := W) (.inr hmt) zs
        refine ⟨0, 1, fun w b cap hlt hc => ⟨?_, rall_no op B S W _ w (.inr (.inr hB))⟩⟩
        have h := all_any op B S W b 0 n cap zs w hn hl hlt hmx hc
        rw [e] at h; exact h
    · simp at hm
      have e := bad_start (S := S) (op := op) (.inl hm) zs
      refine ⟨0, 1, fun w b cap hlt hc => ⟨?_, rall_no op B S W _ w (.inr (.inl hm))⟩⟩
      have h := all_any op B S W b 0 n cap zs w hn hl hlt hmx hc
      rw [e] at h; exact h

theorem fillU_set (f : Nat → Int) (k j : Nat) : ((fillF f k j).map (Value.int .u64)).set j (.int .u64 (f j)) = (fillF f k (j + 1)).map (Value.int .u64) := by
  apply List.ext_getElem
  · simp [fillF, row]
  · intro i h1 h2
    simp [fillF, row, List.getElem_set] at *
    by_cases e : j = i
    · subst e; simp
    · by_cases hi : i < j
      · simp [e, hi, show i < j + 1 by omega]
      · simp [e, hi, show ¬ i < j + 1 by omega]
theorem fillU_zero (f : Nat → Int) (k : Nat) : (madeCells (Value.int .u64 0).cells (k * 1)).toList = (fillF f k 0).map (Value.int .u64) := by
  apply List.ext_getElem
  · simp [madeCells, fillF, row, Value.cells]
  · intro i h1 h2; simp [madeCells, fillF, row, Value.cells, Nat.mod_one]
theorem fillU_len (f : Nat → Int) (k j : Nat) : ((fillF f k j).map (Value.int .u64)).length = k := by simp [fillF, row]

theorem info_u64 : (Try.prog.info? 25).map (fun i => (i.zero, i.size, i.bytes)) = some (some (.int .u64 0), 1, 8) := by kernel_rfl

/-- What the law lays: the words, but for those that end in 63. -/
def ownF (B S : Bool) (W : Int) (zs : List Int) (i : Nat) : Int := if zs.getD i 0 % 64 == 63 then zs.getD i 0 else cut B S W (zs.getD i 0)
theorem ownF_bd {B S : Bool} {W : Int} {zs : List Int} {i : Nat} (h : 0 ≤ zs.getD i 0 ∧ zs.getD i 0 < 18446744073709551616) : 0 ≤ ownF B S W zs i ∧ ownF B S W zs i < 18446744073709551616 := by
  unfold ownF; split
  · exact h
  · cases hm : may B S W with
    | true => exact isw_lt (cut_isw hm)
    | false => unfold cut; rw [hm]; simp

theorem own_lt {w : World} {base e size n g cap : Nat} {xs : List Value} (h : w.ownsRow base e size (.slice (some ⟨g, 0, none⟩) n cap) n xs) : g < w.heap.size := by
  rcases h.2 with ⟨h0, _⟩ | ⟨g', cap', cur, hv, _, hh, _⟩
  · simp at h0
  · simp at hv; obtain ⟨rfl, _⟩ := hv
    exact (Array.getElem?_eq_some_iff.1 hh).1

theorem box3a {w w1 : World} {x y z : Value} {T : Nat} (hg : (w.alloc (.cells #[x, y, z] T)).grownBy w1 Option.none) :
    Below w.heap.size w w1 ∧ w.heap.size + 1 ≤ w1.heap.size ∧ w1.cell? ⟨w.heap.size, 0, none⟩ = some x ∧ w1.cell? ⟨w.heap.size, 1, none⟩ = some y ∧ w1.cell? ⟨w.heap.size, 2, none⟩ = some z :=
  box3 ((Below.refl _ _).grown hg (Nat.le_refl _) (fun _ h => by cases h))

set_option maxRecDepth 100000 in
set_option maxHeartbeats 4000000 in
theorem all_zero (B S : Bool) (W op : Int) (a : Option Addr) (cap : Nat) (hcap : cap ≤ maxLen) (ha : a = Option.none → cap = 0) (w : World) :
    Calls Try.prog 3 #[.agg #[.bool B, .bool S, .int .i64 W], .int .i64 op, .slice a 0 cap] w fun e w' => e = .returned (.bool true) ∧ Below w.heap.size w w' := by
  obtain ⟨v, e, hall0⟩ := both_all op B S W [] 0 rfl (by intro i hi; omega) (by omega)
  have hall := Lib.hid hall0
  obtain ⟨i0, hin, hz0, hz1, hz2⟩ := info_parts info_u64
  unfold maxLen at hcap
  clear hall0
  rcases a with _ | ⟨b, off, spot⟩
  · obtain rfl := ha rfl
    go_enter Try.func3, Try.ntmps3
    go_wp2_with (at_make; refine wpList_make_full _ rfl _ _ 24 rfl (w.heap.size + 1) 25 i0 (.int .u64 0) 1 Try.underlying24 hin hz0 hz1 .i64 .i64 0 0 0 rfl rfl rfl rfl (by omega) (by unfold maxLen; omega) (by simp) ?_; intro w1 hown hg)
    have hn := box3a (T := 23) hg; obtain ⟨hB, hz, c0, c1, c2⟩ := hn
    have hlg : w.heap.size + 1 < w1.heap.size := by have h := own_lt hown; simpa using h
    clear hown hg
    go_loopw [24] (fun i wr => i = .int .i64 0 ∧ Below w1.heap.size w1 wr) (fun _ _ => 0)
    case atStart => exact ⟨rfl, Below.refl _ _⟩
    case round =>
      obtain ⟨rfl, hb2⟩ := hrel
      have hlg := Nat.lt_of_lt_of_le hlg hb2.size
      have hcg : ∀ i, i < 0 → wr.cell? ⟨w.heap.size + 1, 0 + i, none⟩ = some (.int .u64 (([] : List Int).getD i 0)) := fun i hi => by omega
      have hn := step3 hB hz (by omega) c0 c1 c2 hb2; clear hB hz c0 c1 c2 hb2; obtain ⟨hB, hz, c0, c1, c2⟩ := hn
      go_wp2_with (first
        | (go_at_call 10; refine (((hall.out _ _ _ hlg hcg).1)).mono ?_; rintro e w2 ⟨rfl, hb2⟩; have hlg2 := Nat.lt_of_lt_of_le hlg hb2.size; have hcg2 := fun i hi => stepc hb2 hlg (hcg i hi); clear hlg hcg; have hn := step3 hB hz (by omega) c0 c1 c2 hb2; clear hB hz c0 c1 c2 hb2; obtain ⟨hB, hz, c0, c1, c2⟩ := hn; have hcg2 := Lib.hid hcg2)
        | (go_at_call 11; refine (((hall.out _ _ _ hlg2 hcg2.out).2)).mono ?_; rintro e w2 ⟨rfl, hb2⟩; have hn := step3 hB hz (by omega) c0 c1 c2 hb2; clear hB hz c0 c1 c2 hb2; obtain ⟨hB, hz, c0, c1, c2⟩ := hn)
        | (go_at_call 12; refine (wakes_any _).mono ?_; rintro e w2 ⟨rfl, hb2⟩; have hn := step3 hB hz (by omega) c0 c1 c2 hb2; clear hB hz c0 c1 c2 hb2; obtain ⟨hB, hz, c0, c1, c2⟩ := hn))
      go_ret
      exact ⟨rfl, hB⟩
  · clear ha
    go_enter Try.func3, Try.ntmps3
    go_wp2_with (at_make; refine wpList_make_full _ rfl _ _ 24 rfl (w.heap.size + 1) 25 i0 (.int .u64 0) 1 Try.underlying24 hin hz0 hz1 .i64 .i64 0 0 0 rfl rfl rfl rfl (by omega) (by unfold maxLen; omega) (by simp) ?_; intro w1 hown hg)
    have hn := box3a (T := 23) hg; obtain ⟨hB, hz, c0, c1, c2⟩ := hn
    have hlg : w.heap.size + 1 < w1.heap.size := by have h := own_lt hown; simpa using h
    clear hown hg
    go_loopw [24] (fun i wr => i = .int .i64 0 ∧ Below w1.heap.size w1 wr) (fun _ _ => 0)
    case atStart => exact ⟨rfl, Below.refl _ _⟩
    case round =>
      obtain ⟨rfl, hb2⟩ := hrel
      have hlg := Nat.lt_of_lt_of_le hlg hb2.size
      have hcg : ∀ i, i < 0 → wr.cell? ⟨w.heap.size + 1, 0 + i, none⟩ = some (.int .u64 (([] : List Int).getD i 0)) := fun i hi => by omega
      have hn := step3 hB hz (by omega) c0 c1 c2 hb2; clear hB hz c0 c1 c2 hb2; obtain ⟨hB, hz, c0, c1, c2⟩ := hn
      go_wp2_with (first
        | (go_at_call 10; refine (((hall.out _ _ _ hlg hcg).1)).mono ?_; rintro e w2 ⟨rfl, hb2⟩; have hlg2 := Nat.lt_of_lt_of_le hlg hb2.size; have hcg2 := fun i hi => stepc hb2 hlg (hcg i hi); clear hlg hcg; have hn := step3 hB hz (by omega) c0 c1 c2 hb2; clear hB hz c0 c1 c2 hb2; obtain ⟨hB, hz, c0, c1, c2⟩ := hn; have hcg2 := Lib.hid hcg2)
        | (go_at_call 11; refine (((hall.out _ _ _ hlg2 hcg2.out).2)).mono ?_; rintro e w2 ⟨rfl, hb2⟩; have hn := step3 hB hz (by omega) c0 c1 c2 hb2; clear hB hz c0 c1 c2 hb2; obtain ⟨hB, hz, c0, c1, c2⟩ := hn)
        | (go_at_call 12; refine (wakes_any _).mono ?_; rintro e w2 ⟨rfl, hb2⟩; have hn := step3 hB hz (by omega) c0 c1 c2 hb2; clear hB hz c0 c1 c2 hb2; obtain ⟨hB, hz, c0, c1, c2⟩ := hn))
      go_ret
      exact ⟨rfl, hB⟩
end Go.Proofs.Ytmieddcgnaddiaa
