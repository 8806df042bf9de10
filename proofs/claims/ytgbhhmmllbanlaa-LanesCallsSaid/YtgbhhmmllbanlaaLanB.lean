/-
  Package lanes: Pack, Unpack.
-/
import Derived.Test.YtgbhhmmllbanlaaLanA
import Derived.Laws.CopyOwn
import Derived.Maps.AppendAt
namespace Go.Proofs.Ytgbhhmmllbanlaa
open Go.RowKit
set_option maxRecDepth 100000

theorem info_u64 : (Try.prog.info? 22).map (fun i => (i.zero, i.size, i.bytes)) = some (some (.int .u64 0), 1, 8) := by kernel_rfl

/-- The first words alone. -/
def cutAt (n : Nat) (f : Nat → Nat) (i : Nat) : Nat := if i < n then f i else 0
theorem cutAt_lt {n : Nat} {f : Nat → Nat} (h : ∀ i, i < n → f i < 18446744073709551616) (i : Nat) : cutAt n f i < 18446744073709551616 := by
  unfold cutAt; split
  · exact h i ‹_›
  · decide
theorem splice_sq {n : Nat} (f : Nat → Nat) (hn : n ≤ 64) : (splice (sqA (fun _ => 0)).toList 0 (wl n f)).toArray = sqA (cutAt n f) := by
  apply Array.ext_getElem?
  intro j
  rw [List.getElem?_toArray]
  unfold splice
  rw [List.take_zero, List.nil_append]
  by_cases hj : j < n
  · rw [List.getElem?_append_left (by rw [wl_length]; exact hj), wl_get _ _ _ hj, sqA_get _ _ (by omega)]
    unfold cutAt; rw [if_pos hj]
  · rw [List.getElem?_append_right (by rw [wl_length]; omega), wl_length, List.getElem?_drop, Nat.zero_add, show n + (j - n) = j by omega, Array.getElem?_toList]
    by_cases h64 : j < 64
    · rw [sqA_get _ _ h64, sqA_get _ _ h64]
      unfold cutAt; rw [if_neg hj]
    · rw [Array.getElem?_eq_none (by rw [sqA_size]; omega), Array.getElem?_eq_none (by rw [sqA_size]; omega)]
theorem word_of_pow {x W : Nat} (hW : W ≤ 64) (h : x < 2 ^ W) : x < 18446744073709551616 := Nat.lt_of_lt_of_le h (by rw [show (18446744073709551616 : Nat) = 2 ^ 64 from rfl]; exact Nat.pow_le_pow_right (by decide) hW)

set_option maxHeartbeats 1000000 in
theorem pack_no {w : World} {a : Option Addr} {n c : Nat} {f : Nat → Nat} (W : Int) (hs : WRow w a n f) (hno : 64 < n ∨ mayH W n f = false) :
    Calls Try.prog 13 #[.int .i64 W, .slice a n c] w fun e w' => e = .returned (.tuple #[.slice none 0 0, .int .i64 1]) ∧ Below w.heap.size w w' := by
  have hm := Lib.hid (mayHave_any (c := c) W hs)
  have hle := hs.1
  clear hs
  by_cases h64 : 64 < n
  · clear hno hm
    go_enter Try.func13, Try.ntmps13
    go_wp2
    go_ret2
    exact ⟨rfl, Below.refl _ _⟩
  · have hmf : mayH W n f = false := by rcases hno with h | h; exact absurd h h64; exact h
    rw [hmf] at hm
    clear hno hmf
    go_enter Try.func13, Try.ntmps13
    go_wp2_with (go_at_call 29; (with_reducible refine hm.out.mono ?_); rintro e w2 ⟨rfl, hB⟩)
    go_ret2
    exact ⟨rfl, hB⟩

theorem below_grown {N : Nat} {w w5 w6 : World} (h : Below N w w5) (hg : w5.grownBy w6 none) (hN : N ≤ w5.heap.size) : Below N w w6 :=
  h.trans ⟨hg.os, hg.tape, hg.output, hg.size, fun k hk => hg.block k (Nat.lt_of_lt_of_le hk hN) (by simp)⟩

/-- A row that a call has made itself. -/
structure Made (w w' : World) (a : Option Addr) (n c : Nat) (f : Nat → Nat) : Prop where
  own : w'.ownsRow w.heap.size 22 1 (.slice a n c) n (wl n f)
  below : Below w.heap.size w w'

set_option maxHeartbeats 1000000 in
theorem pack_yes {w : World} {a : Option Addr} {n c W : Nat} {f : Nat → Nat} (hs : WRow w a n f) (hn : n ≤ 64) (hy : mayH (W : Int) n f = true) :
    Calls Try.prog 13 #[.int .i64 W, .slice a n c] w fun e w' => ∃ a2 c2, e = .returned (.tuple #[.slice a2 W c2, .int .i64 0]) ∧ Made w w' a2 W c2 (turn (cutAt n f)) := by
  obtain ⟨hz, hsz⟩ := zero_of_info info_sq
  obtain ⟨i0, hi, hz0, hz1, hz2⟩ := info_parts info_u64
  have hm := Lib.hid (mayHave_any (c := c) (W : Int) hs)
  rw [hy] at hm
  obtain ⟨hW, hlt⟩ := mayH_iff.1 hy
  obtain ⟨hW1, hW2⟩ := hW
  have hcl := cutAt_lt (n := n) (f := f) (fun i hi => word_of_pow hW2 (hlt i hi))
  have htn := Lib.hid (fun w => turn_any (cutAt n f) hcl w)
  have HS := Lib.hid hs
  have hsp := Lib.hid (splice_sq f hn)
  have hone := Lib.hid (wl_one n f)
  obtain ⟨CS, hCS⟩ : ∃ CS, CS = wl n f := ⟨_, rfl⟩
  have hcell : Hid (∀ w2, Below w.heap.size w w2 → 0 < CS.length → ∃ ad, a = some ad ∧ ∀ j v, CS[j]? = some v → w2.cell? (ad.add j) = some v) := Lib.hid (fun w2 hb h0 => by
    rw [hCS, wl_length] at h0
    obtain ⟨b, off, rfl, hbl, hc⟩ := HS.out.at h0
    refine ⟨_, rfl, fun j v hv => ?_⟩
    have hj := (List.getElem?_eq_some_iff.1 hv).1
    rw [hCS, wl_length] at hj
    rw [hCS, wl_get _ _ _ hj] at hv
    rw [← Option.some.inj hv, show (⟨b, off, none⟩ : Addr).add j = ⟨b, off + j, none⟩ by simp [Addr.add]]
    exact stepc hb hbl (hc j hj))
  have hcsl : CS.length = n := by rw [hCS, wl_length]
  rw [← hCS] at hsp hone
  clear hs hy hlt hcl hCS HS
  generalize hF : cutAt n f = F at *
  generalize hG : turn F = G at *
  have hh1 : Hid (∀ w2 : World, (w2.alloc (.cells (sqA (fun _ => 0)) 23)).heap[w2.heap.size]? = some (.cells (sqA (fun _ => 0)).toList.toArray 23 (0, 0))) := Lib.hid (fun w2 => by rw [Array.toArray_toList]; exact Blk.new w2 _)
  have hzl : (sqA (fun _ => 0)).toList.length = 64 := by rw [Array.length_toList, sqA_size]
  have hcs : Hid (CS.length = Nat.min n 64) := Lib.hid (by rw [hcsl]; show n = min n 64; omega)
  have hblk : Hid (∀ (w3 : World) (b : Nat), w3.heap[b]? = some (.cells (splice (sqA (fun _ => 0)).toList 0 CS).toArray 23 (0, 0)) → Blk w3 b F) := Lib.hid (fun w3 b h => by rw [hsp.out] at h; exact h)
  have hWi : (W : Int) ≤ 64 := by omega
  have hWn : ¬ (64 < (W : Int)) := by omega
  have hW0 : (0 : Int) ≤ W := by omega
  have hG5 := Lib.hid (wl_get W G)
  have hone5 := Lib.hid (wl_one W G)
  have hcells : Hid (∀ (w5 : World) (b : Nat), Blk w5 b G → ∀ (j : Nat) (u : Value), (wl W G)[j]? = some u → w5.cell? ((⟨b, 0, none⟩ : Addr).add j) = some u) := Lib.hid (fun w5 b h j u hj => by
    have hj2 := (List.getElem?_eq_some_iff.1 hj).1
    rw [wl_length] at hj2
    rw [wl_get _ _ _ hj2] at hj
    rw [← Option.some.inj hj, show (⟨b, 0, none⟩ : Addr).add j = ⟨b, j, none⟩ by (simp [Addr.add]; omega)]
    exact h.cell (by omega))
  clear hsp hz hsz
  go_enter Try.func13, Try.ntmps13
  go_wp2_with (first
    | (go_at_call 29; (with_reducible refine hm.out.mono ?_); rintro e w2 ⟨rfl, hB⟩; have hz := (zero_of_info info_sq).1; have hB1 : Below w.heap.size w (w2.alloc (.cells (sqA (fun _ => 0)) 23)) := hB.alloc hB.size _; have hge := hB.size; have hH1 := hh1.out w2)
    | (refine wpList_copy_splice rfl _ _ 27 27 rfl 22 Try.underlying27 (by kernel_rfl) (some ⟨w2.heap.size, 0, none⟩) a 64 64 n c rfl rfl w2.heap.size 0 _ 23 hH1 CS hcs.out (fun h0 => ⟨rfl, hcell.out _ hB1 h0⟩) (by omega) hone.out w.heap.size w hB1 hge ?_; intro w3 hH2 hB3; have hb3 := Lib.hid (hblk.out w3 _ hH2.out); clear hH1 hH2 hB1 hB hz)
    | (refine hb3.out.wload rfl _ rfl rfl ?_)
    | (go_at_call 9; (with_reducible refine (htn.out _).mono ?_); rintro e w4 ⟨rfl, hn4⟩; have hb4 := Lib.hid (hb3.out.step hn4); have hB4 := nextw hB3 hn4; have hl4 := hb4.out.lt; clear hn4 hb3 hB3)
    | (refine hb4.out.wstore rfl _ _ rfl rfl rfl ?_; have hb5 := Lib.hid (hb4.out.put G); have hB5 := hB4.trans (below_setRow hge (sqA G)); clear hb4 hB4)
    | (at_builtin; refine wpList_append_own_at _ rfl _ _ 27 rfl w.heap.size 22 i0 (.int .u64 0) 1 8 Try.underlying27 hi hz0 hz1 hz2 rfl (by decide) (.slice none 0 0) 0 [] rfl (own_nil ..) ⟨w2.heap.size, 0, none⟩ W 64 (wl W G) rfl (by simp [wl_length]) (hcells.out _ _ hb5.out) hone5.out (by unfold maxLen; omega) (by omega) hB5.size ?_; intro v' w6 hown hgrow _ _)
    )
  rw [Nat.zero_add, List.nil_append] at hown
  obtain ⟨a2, c2, rfl⟩ := own_slice hown
  have hB6 : Below w.heap.size w w6 := below_grown hB5 hgrow hB5.size
  clear hb5 hB5 hgrow
  go_ret2
  exact ⟨a2, c2, rfl, hown, hB6⟩
end Go.Proofs.Ytgbhhmmllbanlaa
