/-
  Package lanes: mayHave, isLane.
  Package lanes: Pack, Unpack.
  Package lanes: Unpack.
  Package lanes: Lane.
-/
import Derived.Test.YtnhpjacodhdpeaaDoorLanM
import Derived.Test.YtnhpjacodhdpeaaDoorWordU
import Derived.Test.YtnhpjacodhdpeaaDoorSqV
import Derived.Laws.CopyOwn
import Derived.Maps.AppendAt
namespace Go.Proofs.YtnhpjacodhdpeaaDoor
open Go.RowKit
set_option maxRecDepth 100000

theorem isLane_any (x : Int) (w : World) :
    Calls Tryd.prog 64 #[.int .i64 x] w fun e w' => e = .returned (.bool (decide (0 ≤ x) && decide (x < 64))) ∧ w = w' := by
  go_enter Tryd.func64, Tryd.ntmps64
  go_wp2
  all_goals go_ret
  all_goals (refine ⟨?_, rfl⟩; simp [*]; try omega)

set_option maxHeartbeats 1000000 in
theorem mayHave_any {w : World} {a : Option Addr} {n c : Nat} {f : Nat → Nat} (W : Int) (hs : WRow w a n f) :
    Calls Tryd.prog 63 #[.int .i64 W, .slice a n c] w fun e w' => e = .returned (.bool (mayH W n f)) ∧ Below w.heap.size w w' := by
  have HS := Lib.hid hs
  have hle := hs.1
  have hno := Lib.hid (fun j (hj : j < n) => mayH_no (W := W) (f := f) hj)
  have hyes := Lib.hid (mayH_yes (W := W) (n := n) (f := f))
  clear hs
  go_enter Tryd.func63, Tryd.ntmps63
  go_wp2
  go_loopw [12] (fun s wr => ∃ j : Nat, j ≤ n ∧ s = .int .i64 j ∧ Hid (∀ i, i < j → isw false false W (f i : Nat) = true) ∧ Below w.heap.size w wr ∧ w.heap.size + 1 ≤ wr.heap.size ∧ wr.cell? ⟨w.heap.size, 0, none⟩ = some (.bool false) ∧ wr.cell? ⟨w.heap.size, 1, none⟩ = some (.bool false) ∧ wr.cell? ⟨w.heap.size, 2, none⟩ = some (.int .i64 W)) (fun s _ => n - (intOf s).toNat)
  case atStart =>
    obtain ⟨hB, hz, c0, c1, c2⟩ := box3 (w := w) (x := .bool false) (y := .bool false) (z := .int .i64 W) (T := 161) (Below.refl _ _)
    exact ⟨0, by omega, rfl, Lib.hid (fun i hi => by omega), hB, hz, c0, c1, c2⟩
  case round =>
    obtain ⟨j, hj, rfl, hall, hB, hz, c0, c1, c2⟩ := hrel
    by_cases hlt : j < n
    · obtain ⟨b, off, rfl, hb, hcell⟩ := HS.out.at (by omega)
      have cj := stepc hB hb (hcell j hlt)
      have hjn : (j : Int) < n := by omega
      have his := Lib.hid (isw_any false false W (f j : Nat))
      have hno' := Lib.hid (hno.out j hlt)
      have hnext : Hid (isw false false W (f j : Nat) = true → ∀ i, i < j + 1 → isw false false W (f i : Nat) = true) := Lib.hid (fun h i hi => by
        by_cases e : i = j
        · rw [e]; exact h
        · exact hall.out i (by omega))
      clear hno hyes hcell HS hall
      generalize isw false false W (f j : Nat) = B at *
      cases B
      · go_wp2_with (go_at_call 101; (with_reducible refine (his.out _).mono ?_); rintro e w2 ⟨rfl, hb2⟩; have hn := step3 hB hz (by omega) c0 c1 c2 hb2; clear hB hz c0 c1 c2 hb2; obtain ⟨hB, hz, c0, c1, c2⟩ := hn)
        go_ret
        exact ⟨ret_bool (hno'.out (by trivial)).symm, hB⟩
      · go_wp2_with (go_at_call 101; (with_reducible refine (his.out _).mono ?_); rintro e w2 ⟨rfl, hb2⟩; have hn := step3 hB hz (by omega) c0 c1 c2 hb2; clear hB hz c0 c1 c2 hb2; obtain ⟨hB, hz, c0, c1, c2⟩ := hn)
        exact ⟨⟨j + 1, by omega, by go_num, Lib.hid (hnext.out (by trivial)), hB, hz, c0, c1, c2⟩, by simp [intOf]; omega⟩
    · obtain rfl : j = n := by omega
      have hm := Lib.hid (may_any false false W)
      have hfin := Lib.hid (hyes.out hall.out)
      clear hno hyes HS hall
      go_wp2_with (go_at_call 102; (with_reducible refine (hm.out _).mono ?_); rintro e w2 ⟨rfl, hb2⟩; have hn := step3 hB hz (by omega) c0 c1 c2 hb2; clear hB hz c0 c1 c2 hb2; obtain ⟨hB, hz, c0, c1, c2⟩ := hn)
      go_ret
      exact ⟨ret_bool hfin.out.symm, hB⟩
end Go.Proofs.YtnhpjacodhdpeaaDoor

namespace Go.Proofs.YtnhpjacodhdpeaaDoor
open Go.RowKit
set_option maxRecDepth 100000

theorem info_u64 : (Tryd.prog.info? 46).map (fun i => (i.zero, i.size, i.bytes)) = some (some (.int .u64 0), 1, 8) := by kernel_rfl

/-- The first words alone. -/
def cutAt (n : Nat) (f : Nat → Nat) (i : Nat) : Nat := if i < n then f i else 0
theorem cutAt_lt {n : Nat} {f : Nat → Nat} (h : ∀ i, i < n → f i < 18446744073709551616) (i : Nat) : cutAt n f i < 18446744073709551616 := by
  unfold cutAt; split
  · exact h i ‹_›
  · decide
theorem splice_sq {n : Nat} (f : Nat → Nat) (hn : n ≤ 64) : (splice (sqA (fun _ => 0)).toList 0 (wl n f)).toArray = sqA (cutAt n f) := by
  apply Array.ext_getElem?
  intro j
  rw [List.getElem?_toArray]
  unfold splice
  rw [List.take_zero, List.nil_append]
  by_cases hj : j < n
  · rw [List.getElem?_append_left (by rw [wl_length]; exact hj), wl_get _ _ _ hj, sqA_get _ _ (by omega)]
    unfold cutAt; rw [if_pos hj]
  · rw [List.getElem?_append_right (by rw [wl_length]; omega), wl_length, List.getElem?_drop, Nat.zero_add, show n + (j - n) = j by omega, Array.getElem?_toList]
    by_cases h64 : j < 64
    · rw [sqA_get _ _ h64, sqA_get _ _ h64]
      unfold cutAt; rw [if_neg hj]
    · rw [Array.getElem?_eq_none (by rw [sqA_size]; omega), Array.getElem?_eq_none (by rw [sqA_size]; omega)]
theorem word_of_pow {x W : Nat} (hW : W ≤ 64) (h : x < 2 ^ W) : x < 18446744073709551616 := Nat.lt_of_lt_of_le h (by rw [show (18446744073709551616 : Nat) = 2 ^ 64 from rfl]; exact Nat.pow_le_pow_right (by decide) hW)

set_option maxHeartbeats 1000000 in
theorem pack_no {w : World} {a : Option Addr} {n c : Nat} {f : Nat → Nat} (W : Int) (hs : WRow w a n f) (hno : 64 < n ∨ mayH W n f = false) :
    Calls Tryd.prog 56 #[.int .i64 W, .slice a n c] w fun e w' => e = .returned (.tuple #[.slice none 0 0, .int .i64 1]) ∧ Below w.heap.size w w' := by
  have hm := Lib.hid (mayHave_any (c := c) W hs)
  have hle := hs.1
  clear hs
  by_cases h64 : 64 < n
  · clear hno hm
    go_enter Tryd.func56, Tryd.ntmps56
    go_wp2
    go_ret2
    exact ⟨rfl, Below.refl _ _⟩
  · have hmf : mayH W n f = false := by rcases hno with h | h; exact absurd h h64; exact h
    rw [hmf] at hm
    clear hno hmf
    go_enter Tryd.func56, Tryd.ntmps56
    go_wp2_with (go_at_call 63; (with_reducible refine hm.out.mono ?_); rintro e w2 ⟨rfl, hB⟩)
    go_ret2
    exact ⟨rfl, hB⟩

theorem below_grown {N : Nat} {w w5 w6 : World} (h : Below N w w5) (hg : w5.grownBy w6 none) (hN : N ≤ w5.heap.size) : Below N w w6 :=
  h.trans ⟨hg.os, hg.tape, hg.output, hg.size, fun k hk => hg.block k (Nat.lt_of_lt_of_le hk hN) (by simp)⟩

/-- A row that a call has made itself. -/
structure Made (w w' : World) (a : Option Addr) (n c : Nat) (f : Nat → Nat) : Prop where
  own : w'.ownsRow w.heap.size 46 1 (.slice a n c) n (wl n f)
  below : Below w.heap.size w w'

set_option maxHeartbeats 1000000 in
theorem pack_yes {w : World} {a : Option Addr} {n c W : Nat} {f : Nat → Nat} (hs : WRow w a n f) (hn : n ≤ 64) (hy : mayH (W : Int) n f = true) :
    Calls Tryd.prog 56 #[.int .i64 W, .slice a n c] w fun e w' => ∃ a2 c2, e = .returned (.tuple #[.slice a2 W c2, .int .i64 0]) ∧ Made w w' a2 W c2 (turn (cutAt n f)) := by
  obtain ⟨hz, hsz⟩ := zero_of_info info_sq
  obtain ⟨i0, hi, hz0, hz1, hz2⟩ := info_parts info_u64
  have hm := Lib.hid (mayHave_any (c := c) (W : Int) hs)
  rw [hy] at hm
  obtain ⟨hW, hlt⟩ := mayH_iff.1 hy
  obtain ⟨hW1, hW2⟩ := hW
  have hcl := cutAt_lt (n := n) (f := f) (fun i hi => word_of_pow hW2 (hlt i hi))
  have htn := Lib.hid (fun w => turn_any (cutAt n f) hcl w)
  have HS := Lib.hid hs
  have hsp := Lib.hid (splice_sq f hn)
  have hone := Lib.hid (wl_one n f)
  obtain ⟨CS, hCS⟩ : ∃ CS, CS = wl n f := ⟨_, rfl⟩
  have hcell : Hid (∀ w2, Below w.heap.size w w2 → 0 < CS.length → ∃ ad, a = some ad ∧ ∀ j v, CS[j]? = some v → w2.cell? (ad.add j) = some v) := Lib.hid (fun w2 hb h0 => by
    rw [hCS, wl_length] at h0
    obtain ⟨b, off, rfl, hbl, hc⟩ := HS.out.at h0
    refine ⟨_, rfl, fun j v hv => ?_⟩
    have hj := (List.getElem?_eq_some_iff.1 hv).1
    rw [hCS, wl_length] at hj
    rw [hCS, wl_get _ _ _ hj] at hv
    rw [← Option.some.inj hv, show (⟨b, off, none⟩ : Addr).add j = ⟨b, off + j, none⟩ by simp [Addr.add]]
    exact stepc hb hbl (hc j hj))
  have hcsl : CS.length = n := by rw [hCS, wl_length]
  rw [← hCS] at hsp hone
  clear hs hy hlt hcl hCS HS
  generalize hF : cutAt n f = F at *
  generalize hG : turn F = G at *
  have hh1 : Hid (∀ w2 : World, (w2.alloc (.cells (sqA (fun _ => 0)) 163)).heap[w2.heap.size]? = some (.cells (sqA (fun _ => 0)).toList.toArray 163 (0, 0))) := Lib.hid (fun w2 => by rw [Array.toArray_toList]; exact Blk.new w2 _)
  have hzl : (sqA (fun _ => 0)).toList.length = 64 := by rw [Array.length_toList, sqA_size]
  have hcs : Hid (CS.length = Nat.min n 64) := Lib.hid (by rw [hcsl]; show n = min n 64; omega)
  have hblk : Hid (∀ (w3 : World) (b : Nat), w3.heap[b]? = some (.cells (splice (sqA (fun _ => 0)).toList 0 CS).toArray 163 (0, 0)) → Blk w3 b F) := Lib.hid (fun w3 b h => by rw [hsp.out] at h; exact h)
  have hWi : (W : Int) ≤ 64 := by omega
  have hWn : ¬ (64 < (W : Int)) := by omega
  have hW0 : (0 : Int) ≤ W := by omega
  have hG5 := Lib.hid (wl_get W G)
  have hone5 := Lib.hid (wl_one W G)
  have hcells : Hid (∀ (w5 : World) (b : Nat), Blk w5 b G → ∀ (j : Nat) (u : Value), (wl W G)[j]? = some u → w5.cell? ((⟨b, 0, none⟩ : Addr).add j) = some u) := Lib.hid (fun w5 b h j u hj => by
    have hj2 := (List.getElem?_eq_some_iff.1 hj).1
    rw [wl_length] at hj2
    rw [wl_get _ _ _ hj2] at hj
    rw [← Option.some.inj hj, show (⟨b, 0, none⟩ : Addr).add j = ⟨b, j, none⟩ by (simp [Addr.add]; omega)]
    exact h.cell (by omega))
  clear hsp hz hsz
  go_enter Tryd.func56, Tryd.ntmps56
  go_wp2_with (first
    | (go_at_call 63; (with_reducible refine hm.out.mono ?_); rintro e w2 ⟨rfl, hB⟩; have hz := (zero_of_info info_sq).1; have hB1 : Below w.heap.size w (w2.alloc (.cells (sqA (fun _ => 0)) 163)) := hB.alloc hB.size _; have hge := hB.size; have hH1 := hh1.out w2)
    | (refine wpList_copy_splice rfl _ _ 37 37 rfl 46 Tryd.underlying37 (by kernel_rfl) (some ⟨w2.heap.size, 0, none⟩) a 64 64 n c rfl rfl w2.heap.size 0 _ 163 hH1 CS hcs.out (fun h0 => ⟨rfl, hcell.out _ hB1 h0⟩) (by omega) hone.out w.heap.size w hB1 hge ?_; intro w3 hH2 hB3; have hb3 := Lib.hid (hblk.out w3 _ hH2.out); clear hH1 hH2 hB1 hB hz)
    | (refine hb3.out.wload rfl _ rfl rfl ?_)
    | (go_at_call 92; (with_reducible refine (htn.out _).mono ?_); rintro e w4 ⟨rfl, hn4⟩; have hb4 := Lib.hid (hb3.out.step hn4); have hB4 := nextw hB3 hn4; have hl4 := hb4.out.lt; clear hn4 hb3 hB3)
    | (refine hb4.out.wstore rfl _ _ rfl rfl rfl ?_; have hb5 := Lib.hid (hb4.out.put G); have hB5 := hB4.trans (below_setRow hge (sqA G)); clear hb4 hB4)
    | (at_builtin; refine wpList_append_own_at _ rfl _ _ 37 rfl w.heap.size 46 i0 (.int .u64 0) 1 8 Tryd.underlying37 hi hz0 hz1 hz2 rfl (by decide) (.slice none 0 0) 0 [] rfl (own_nil ..) ⟨w2.heap.size, 0, none⟩ W 64 (wl W G) rfl (by simp [wl_length]) (hcells.out _ _ hb5.out) hone5.out (by unfold maxLen; omega) (by omega) hB5.size ?_; intro v' w6 hown hgrow _ _)
    )
  rw [Nat.zero_add, List.nil_append] at hown
  obtain ⟨a2, c2, rfl⟩ := own_slice hown
  have hB6 : Below w.heap.size w w6 := below_grown hB5 hgrow hB5.size
  clear hb5 hB5 hgrow
  go_ret2
  exact ⟨a2, c2, rfl, hown, hB6⟩
end Go.Proofs.YtnhpjacodhdpeaaDoor

namespace Go.Proofs.YtnhpjacodhdpeaaDoor
open Go.RowKit
set_option maxRecDepth 100000

theorem sq_results2 {w : World} {b : Nat} {f : Nat → Nat} (h : Blk w b f) {fn : Func} {p q : Tmp} (hr : fn.results = #[.cell p 163, .tmp q]) (tmps : Array Value) (hp : tmps.getD p undef = .pointer (some ⟨b, 0, none⟩)) (v : Value) (hq : tmps.getD q undef = v) :
    (results fn tmps).run Tryd.prog w = .ok (.tuple #[.agg (sqA f), v]) w := by
  have hp' : tmps[p]?.getD undef = .pointer (some ⟨b, 0, none⟩) := by simpa using hp
  have hq' : tmps[q]?.getD undef = v := by simpa using hq
  simp [results, hr, hp', hq', asAddr, run_loadVar_row w b 163 _ _ _ _ h und_sq rfl (by rw [(zero_of_info info_sq).2, sqA_size])]

/-- A row of words laid into a square of zeros. -/
theorem Blk.wcopy {w : World} {b : Nat} (hb : Blk w b (fun _ => 0)) {ad : Option Addr} {n c : Nat} {f : Nat → Nat} (hs : WRow w ad n f) (hn : n ≤ 64) {ops : Array Oper} {rest : List Oper} {o : Oper} {a : Act} {Q : Exit → Act → World → Prop} (hgd : o.guard = none) (d s : Operand)
    (ho : o.op = .call { callee := .builtin .copy, args := #[d, s], argTypes := #[37, 37] }) (hd : a.eval d = .slice (some ⟨b, 0, none⟩) 64 64) (hx : a.eval s = .slice ad n c)
    (h : ∀ w', Blk w' b (cutAt n f) → Below b w w' → wpList Tryd.prog ops Q rest (a.put o.dst (.int .i64 n)) w') : wpList Tryd.prog ops Q (o :: rest) a w := by
  refine wpList_copy_splice hgd d s 37 37 ho 46 Tryd.underlying37 (by kernel_rfl) (some ⟨b, 0, none⟩) ad 64 64 n c hd hx b 0 (sqA (fun _ => 0)).toList 163 (by rw [Array.toArray_toList]; exact hb) (wl n f) (by rw [wl_length]; show n = min n 64; omega) ?_ (by rw [wl_length, Array.length_toList, sqA_size]; omega) (wl_one n f) b w (Below.refl _ _) (Nat.le_refl _) ?_
  · intro h0
    rw [wl_length] at h0
    obtain ⟨b, off, rfl, hbl, hc⟩ := hs.at h0
    refine ⟨rfl, _, rfl, fun j v hv => ?_⟩
    have hj := (List.getElem?_eq_some_iff.1 hv).1
    rw [wl_length] at hj
    rw [wl_get _ _ _ hj] at hv
    rw [← Option.some.inj hv, show (⟨b, off, none⟩ : Addr).add j = ⟨b, off + j, none⟩ by simp [Addr.add]]
    exact hc j hj
  · intro w' hh hB
    rw [wl_length]
    exact h w' (by have hh := hh.out; rw [splice_sq f hn] at hh; exact hh) hB

theorem Blk.upto {w w3 : World} {b B : Nat} {f : Nat → Nat} (h : Blk w b f) (hB : Below B w w3) (hb : b < B) : Blk w3 b f := by
  unfold Blk; rw [hB.block b hb]; exact h
theorem two_boxes {w w2 : World} {f g : Nat → Nat} (hb : Below ((w.alloc (.cells (sqA f) 163)).alloc (.cells (sqA g) 163)).heap.size ((w.alloc (.cells (sqA f) 163)).alloc (.cells (sqA g) 163)) w2) :
    Blk w2 w.heap.size f ∧ Blk w2 (w.heap.size + 1) g ∧ Below w.heap.size w w2 ∧ w.heap.size + 2 ≤ w2.heap.size := by
  have h1 := (Blk.new w f).old (.cells (sqA g) 163)
  have h2 := Blk.new (w.alloc (.cells (sqA f) 163)) g
  have h3 : Below w.heap.size w ((w.alloc (.cells (sqA f) 163)).alloc (.cells (sqA g) 163)) := ((Below.refl _ _).alloc (Nat.le_refl _) _).alloc (by simp) _
  have hs := hb.size
  refine ⟨h1.step hb, by simpa using h2.step hb, nextw h3 hb, by simpa using hs⟩

end Go.Proofs.YtnhpjacodhdpeaaDoor

namespace Go.Proofs.YtnhpjacodhdpeaaDoor
open Go.RowKit
set_option maxRecDepth 100000

/-- A lane's word, as far as number k. -/
def laneN (f : Nat → Nat) (lane : Nat) : Nat → Nat
  | 0 => 0
  | k + 1 => laneN f lane k + f k / 2 ^ lane % 2 * 2 ^ k
theorem laneN_lt (f : Nat → Nat) (lane : Nat) : ∀ k, laneN f lane k < 2 ^ k
  | 0 => Nat.zero_lt_one
  | k + 1 => by
    have h := laneN_lt f lane k
    have h2 : f k / 2 ^ lane % 2 = 0 ∨ f k / 2 ^ lane % 2 = 1 := by omega
    unfold laneN
    rcases h2 with e | e <;> rw [e] <;> omega
theorem lane_walk {x y l k : Nat} (hy : y < 18446744073709551616) (hx : x < 2 ^ k) (hk : k < 64) :
    bits .or .u64 (x : Int) (IntKind.u64.wrap (bits .and .u64 ((y : Int) / 2 ^ l) 1 * 2 ^ k)) = ((x + y / 2 ^ l % 2 * 2 ^ k : Nat) : Int) := by
  have e : (y : Int) / 2 ^ l = ((y / 2 ^ l : Nat) : Int) := by rw [Int.natCast_ediv, Int.natCast_pow]; rfl
  have hp : (2 : Nat) ^ k ≤ 2 ^ 63 := Nat.pow_le_pow_right (by decide) (by omega)
  have hyl := lt_div (2 ^ l) hy
  have hyl2 : ((y / 2 ^ l : Nat) : Int) < 18446744073709551616 := Int.ofNat_lt.2 hyl
  rw [e, Num.one64 (Int.natCast_nonneg _) hyl2]
  have hb : y / 2 ^ l % 2 < 2 := Nat.mod_lt _ (by decide)
  have e3 : (((y / 2 ^ l : Nat) : Int) % 2) * 2 ^ k = ((y / 2 ^ l % 2 * 2 ^ k : Nat) : Int) := by rw [Int.natCast_mul, Int.natCast_emod, Int.natCast_pow]; rfl
  have hm : y / 2 ^ l % 2 * 2 ^ k < 18446744073709551616 := by
    have h2 : y / 2 ^ l % 2 = 0 ∨ y / 2 ^ l % 2 = 1 := by omega
    rcases h2 with e | e <;> rw [e] <;> omega
  rw [e3, Num.nat64 hm, or64n (by omega) hm]
  congr 1
  rw [Nat.mul_comm, Nat.add_comm, Nat.or_comm]
  exact (Nat.two_pow_add_eq_or_of_lt hx _).symm

set_option maxHeartbeats 1000000 in
theorem lane_any {w : World} {a : Option Addr} {n c : Nat} {f : Nat → Nat} (L : Int) (hs : WRow w a n f) (hf : n ≤ 64 → ∀ i, i < n → f i < 18446744073709551616) :
    Calls Tryd.prog 32 #[.slice a n c, .int .i64 L] w fun e w' =>
      e = .returned (if (1 ≤ n ∧ n ≤ 64) ∧ 0 ≤ L ∧ L < 64 then .tuple #[.int .u64 (laneN f L.toNat n : Nat), .int .i64 0] else .tuple #[.int .u64 0, .int .i64 1]) ∧ Below w.heap.size w w' := by
  have hmv := Lib.hid (fun w2 => mayHave_any (w := w2) (c := 0) (n : Int) (WRow.nil w2 none f))
  have hle := hs.1
  rw [mayH_zero] at hmv
  have hil := Lib.hid (isLane_any L)
  by_cases hn : (1 ≤ n ∧ n ≤ 64) ∧ 0 ≤ L ∧ L < 64
  · rw [if_pos hn]
    rw [(may_iff _).2 (by omega)] at hmv
    rw [show (decide (0 ≤ L) && decide (L < 64)) = true by simp; omega] at hil
    obtain ⟨⟨hn1, hn2⟩, hL0, hL1⟩ := hn
    obtain ⟨l, rfl⟩ : ∃ l : Nat, L = l := ⟨L.toNat, by omega⟩
    rw [Int.toNat_natCast]
    have HS := Lib.hid (fun w2 (h : Below w.heap.size w w2) => hs.step h)
    have hF := Lib.hid (hf hn2)
    clear hs hf
    go_enter Tryd.func32, Tryd.ntmps32
    go_wp2_with (first
      | (go_at_call 63; (with_reducible refine (hmv.out _).mono ?_); rintro e w2 ⟨rfl, hb2⟩)
      | (go_at_call 64; (with_reducible refine (hil.out _).mono ?_); rintro e w3 ⟨rfl, rfl⟩)
      )
    clear hmv hil
    go_loopw [6, 20] (fun x s wr => ∃ j : Nat, j ≤ n ∧ s = .int .i64 j ∧ x = .int .u64 (laneN f l j : Nat) ∧ Below w.heap.size w wr) (fun x s _ => n - (intOf s).toNat)
    case atStart => exact ⟨0, by omega, rfl, rfl, hb2⟩
    case round =>
      obtain ⟨j, hj, rfl, rfl, hB⟩ := hrel
      by_cases hlt : j < n
      · obtain ⟨b, off, rfl, hb, hcell⟩ := (HS.out _ hB).at (by omega)
        have cj := hcell j hlt
        have hjn : (j : Int) < n := by omega
        have hwk := lane_walk (l := l) (hF.out j hlt) (laneN_lt f l j) (by omega)
        have hnext : Hid (laneN f l (j + 1) = laneN f l j + f j / 2 ^ l % 2 * 2 ^ j) := Lib.hid rfl
        clear hcell HS
        generalize laneN f l j = Y at *
        generalize f j = Z at *
        go_wp2
        refine ⟨⟨j + 1, by omega, by go_num, ?_, hB⟩, by simp [intOf]; omega⟩
        rw [hnext.out]; push_cast; rfl
      · obtain rfl : j = n := by omega
        clear HS
        go_wp2
        go_ret2
        exact ⟨rfl, hB⟩
  · rw [if_neg hn]
    clear hs hf
    by_cases hn2 : 1 ≤ n ∧ n ≤ 64
    · rw [(may_iff _).2 (by omega)] at hmv
      rw [show (decide (0 ≤ L) && decide (L < 64)) = false by simp; omega] at hil
      go_enter Tryd.func32, Tryd.ntmps32
      go_wp2_with (first
        | (go_at_call 63; (with_reducible refine (hmv.out _).mono ?_); rintro e w2 ⟨rfl, hb2⟩)
        | (go_at_call 64; (with_reducible refine (hil.out _).mono ?_); rintro e w3 ⟨rfl, rfl⟩)
        )
      go_ret2
      exact ⟨rfl, hb2⟩
    · rw [show may false false (n : Int) = false by cases h : may false false (n : Int); rfl; exact absurd ((may_iff _).1 h) (by omega)] at hmv
      generalize hQ : (decide (0 ≤ L) && decide (L < 64)) = Q at hil
      go_enter Tryd.func32, Tryd.ntmps32
      go_wp2_with (first
        | (go_at_call 63; (with_reducible refine (hmv.out _).mono ?_); rintro e w2 ⟨rfl, hb2⟩)
        | (go_at_call 64; (with_reducible refine (hil.out _).mono ?_); rintro e w3 ⟨rfl, rfl⟩)
        )
      go_ret2
      exact ⟨rfl, hb2⟩
end Go.Proofs.YtnhpjacodhdpeaaDoor
