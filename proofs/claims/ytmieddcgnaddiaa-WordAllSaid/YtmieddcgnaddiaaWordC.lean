/-
  The walk over word.All.
-/
import Derived.Test.YtmieddcgnaddiaaWordB
import Derived.Deep.LoopGhost
namespace Go.Proofs.Ytmieddcgnaddiaa
open Go.RowKit

set_option maxHeartbeats 1000000 in
theorem all_no (op : Int) (B S : Bool) (W : Int) (v : Value) (w : World) (h : neutOk op = false) :
    Calls Try.prog 10 #[.int .i64 op, .agg #[.bool B, .bool S, .int .i64 W], v] w fun e w' => e = .returned (.tuple #[.int .u64 0, .int .i64 1]) ∧ Below w.heap.size w w' := by
  go_enter Try.func10, Try.ntmps10
  go_wp2_with (first
    | (go_at_call 29; refine (neutral_any _ _ _ _ _).mono ?_; rintro e w2 ⟨rfl, hb2⟩; have hn := box3 (T := 23) hb2; clear hb2; obtain ⟨hB, hz, c0, c1, c2⟩ := hn))
  go_ret2
  exact ⟨rfl, hB⟩

def AllRel (op : Int) (B S : Bool) (W : Int) (zs : List Int) (w : World) (n : Nat) (so e i : Value) (wr : World) : Prop :=
  ∃ k : Nat, k ≤ n ∧ i = .int .i64 k ∧ so = .int .u64 (allR op B S W (zs.take k)).1 ∧ e = .int .i64 (allR op B S W (zs.take k)).2 ∧
    Below w.heap.size w wr ∧ w.heap.size + 1 ≤ wr.heap.size ∧ wr.cell? ⟨w.heap.size, 0, none⟩ = some (.bool B) ∧ wr.cell? ⟨w.heap.size, 1, none⟩ = some (.bool S) ∧ wr.cell? ⟨w.heap.size, 2, none⟩ = some (.int .i64 W)

set_option maxHeartbeats 1000000 in
theorem all_any (op : Int) (B S : Bool) (W : Int) (b off n cap : Nat) (zs : List Int) (w : World) (h : neutOk op = true)
    (hl : zs.length = n) (hlt : b < w.heap.size) (hm : n ≤ 9223372036854775807) (hcell : ∀ i, i < n → w.cell? ⟨b, off + i, none⟩ = some (.int .u64 (zs.getD i 0))) :
    Calls Try.prog 10 #[.int .i64 op, .agg #[.bool B, .bool S, .int .i64 W], .slice (some ⟨b, off, none⟩) n cap] w fun e w' => e = .returned (.tuple #[.int .u64 (allR op B S W zs).1, .int .i64 (allR op B S W zs).2]) ∧ Below w.heap.size w w' := by
  have HL := Lib.hid hl
  have HC := Lib.hid hcell
  clear hl hcell
  have hini : Hid (twoV op B S W (neutV op B S W) (neutV op B S W) = (allR op B S W (zs.take 0)).1 ∧ twoE op B S W (neutV op B S W) (neutV op B S W) = (allR op B S W (zs.take 0)).2) := by
    show _ ∧ _; rw [List.take_zero, allR_nil]; exact ⟨rfl, rfl⟩
  go_enter Try.func10, Try.ntmps10
  go_wp2_with (first
    | (go_at_call 29; refine (neutral_any _ _ _ _ _).mono ?_; rintro e w2 ⟨rfl, hb2⟩; have hn := box3 (T := 23) hb2; clear hb2; obtain ⟨hB, hz, c0, c1, c2⟩ := hn)
    | (go_at_call 18; refine (two_any _ _ _ _ _ _ _).mono ?_; rintro e w2 ⟨rfl, hb2⟩; have hn := step3 hB hz (by omega) c0 c1 c2 hb2; clear hB hz c0 c1 c2 hb2; obtain ⟨hB, hz, c0, c1, c2⟩ := hn))
  go_loopw [10, 11, 32] (fun so e i wr => AllRel op B S W zs w n so e i wr) (fun _ _ i _ => n - (intOf i).toNat)
  case atStart => exact ⟨0, Nat.zero_le _, rfl, by rw [← hini.out.1], by rw [← hini.out.2], hB, hz, c0, c1, c2⟩
  case round =>
    clear hB hz c0 c1 c2
    obtain ⟨k, hk, rfl, rfl, rfl, hB, hz, c0, c1, c2⟩ := hrel
    by_cases hlt2 : k < n
    · have hck : wr.cell? ⟨b, off + k, none⟩ = some (.int .u64 (zs.getD k 0)) := (hB.cell (p := ⟨b, off + k, none⟩) hlt).trans (HC.out k hlt2)
      have hsn := Lib.hid (allR_snoc op B S W zs k (by rw [HL.out]; exact hlt2))
      have hst := Lib.hid (allR_stay op B S W zs k)
      generalize allR op B S W (zs.take k) = st at *
      generalize zs.getD k 0 = x at *
      obtain ⟨so, e⟩ := st
      by_cases he : e = 0
      · subst he
        have hs2 : Hid (allR op B S W (zs.take (k + 1)) = (twoV op B S W so x, twoE op B S W so x)) := by
          show _ = _; rw [hsn.out]; rfl
        clear hsn hst
        go_wp2_with (first
          | (go_at_call 18; refine (two_any _ _ _ _ _ _ _).mono ?_; rintro e w2 ⟨rfl, hb2⟩; have hn := step3 hB hz (by omega) c0 c1 c2 hb2; clear hB hz c0 c1 c2 hb2; obtain ⟨hB, hz, c0, c1, c2⟩ := hn))
        go_roundw
        case rel => exact ⟨k + 1, by omega, by go_num, by rw [hs2.out], by rw [hs2.out], hB, hz, c0, c1, c2⟩
        case measure => simp [intOf]; omega
      · have hs2 : Hid (allR op B S W zs = (so, e)) := hst.out (by simpa using he)
        have e1 : (e == 0) = false := by simpa using he
        have e2 : (e != 0) = true := by simpa using he
        clear hsn hst he
        go_wp2
        go_ret2
        exact ⟨ret_int2 (by rw [hs2.out]) (by rw [hs2.out]), hB⟩
    · have hkn : Hid (zs.take k = zs) := List.take_of_length_le (by rw [HL.out]; omega)
      go_wp2
      go_ret2
      exact ⟨ret_int2 (by rw [hkn.out]) (by rw [hkn.out]), hB⟩

set_option maxHeartbeats 1000000 in
theorem all_nil (op : Int) (B S : Bool) (W : Int) (w : World) (h : neutOk op = true) :
    Calls Try.prog 10 #[.int .i64 op, .agg #[.bool B, .bool S, .int .i64 W], .slice none 0 0] w fun e w' => e = .returned (.tuple #[.int .u64 (allR op B S W []).1, .int .i64 (allR op B S W []).2]) ∧ Below w.heap.size w w' := by
  have hini : Hid (twoV op B S W (neutV op B S W) (neutV op B S W) = (allR op B S W []).1 ∧ twoE op B S W (neutV op B S W) (neutV op B S W) = (allR op B S W []).2) := by
    show _ ∧ _; rw [allR_nil]; exact ⟨rfl, rfl⟩
  go_enter Try.func10, Try.ntmps10
  go_wp2_with (first
    | (go_at_call 29; refine (neutral_any _ _ _ _ _).mono ?_; rintro e w2 ⟨rfl, hb2⟩; have hn := box3 (T := 23) hb2; clear hb2; obtain ⟨hB, hz, c0, c1, c2⟩ := hn)
    | (go_at_call 18; refine (two_any _ _ _ _ _ _ _).mono ?_; rintro e w2 ⟨rfl, hb2⟩; have hn := step3 hB hz (by omega) c0 c1 c2 hb2; clear hB hz c0 c1 c2 hb2; obtain ⟨hB, hz, c0, c1, c2⟩ := hn))
  go_loopw [10, 11, 32] (fun so e i wr => so = .int .u64 (allR op B S W []).1 ∧ e = .int .i64 (allR op B S W []).2 ∧ i = .int .i64 0 ∧ Below w.heap.size w wr) (fun _ _ _ _ => 0)
  case atStart => exact ⟨by rw [← hini.out.1], by rw [← hini.out.2], rfl, hB⟩
  case round =>
    clear hB hz c0 c1 c2
    obtain ⟨rfl, rfl, rfl, hB⟩ := hrel
    go_wp2
    go_ret2
    exact ⟨rfl, hB⟩

end Go.Proofs.Ytmieddcgnaddiaa
