/-
  The law package's own: Lits, inside, ints, words, filled.
-/
import Derived.Test.YtmljpbbnllfgbaaAigAt
import Derived.Test.YtmljpbbnllfgbaaBld
import Derived.Laws.CopyOwn
namespace Go.Proofs.Ytmljpbbnllfgbaa
open Go.RowKit Go.Maps Num
set_option maxRecDepth 100000

/-- A row that a call has made itself, of integers. -/
structure MadeR (w w' : World) (T : Nat) (k : IntKind) (a : Option Addr) (n c : Nat) (l : List Int) : Prop where
  own : w'.ownsRow w.heap.size T 1 (.slice a n c) n (l.map (Value.int k))
  below : Below w.heap.size w w'

theorem take_succ_map (l : List Int) (f : Int → Int) (k : IntKind) (j : Nat) (h : j < l.length) : ((l.take (j + 1)).map f).map (Value.int k) = ((l.take j).map f).map (Value.int k) ++ [.int k (f (l.getD j 0))] := by
  rw [List.take_add_one, List.map_append, List.map_append]
  have : l[j]? = some (l.getD j 0) := by simp [List.getD, h]
  rw [this]; rfl

set_option maxHeartbeats 1000000 in
theorem lits_any {w : World} {a : Option Addr} {n c : Nat} {l : List Int} (hs : Row .u32 w a n l) :
    Calls Try.prog 9 #[.slice a n c] w fun e w' => ∃ a2 c2, e = .returned (.slice a2 (min n 40) c2) ∧ MadeR w w' 40 .u32 a2 (min n 40) c2 ((l.take 40).map id) := by
  have HS := Lib.hid hs
  have hlen := hs.len
  obtain ⟨i0, hi, hz0, hz1, hz2⟩ := info_parts info_lit
  have hsu := Lib.hid (fun j (hj : j < n) => take_succ_map l id .u32 j (by omega))
  have h0 : Hid (((l.take 0).map id).map (Value.int .u32) = []) := Lib.hid (by simp)
  have hful : Hid (l.take (min n 40) = l.take 40) := Lib.hid (by
    by_cases h : n ≤ 40
    · rw [show min n 40 = n by omega, List.take_of_length_le (by omega), List.take_of_length_le (by omega)]
    · rw [show min n 40 = 40 by omega])
  have hle := hs.le
  clear hs
  go_enter Try.func9, Try.ntmps9
  go_wp2
  go_loopw [3, 4] (fun v s wr => ∃ j : Nat, j ≤ min n 40 ∧ s = .int .i64 j ∧ Hid (wr.ownsRow w.heap.size 40 1 v j (((l.take j).map id).map (Value.int .u32))) ∧ Hid (Below w.heap.size w wr)) (fun _ s _ => min n 40 - (intOf s).toNat)
  case atStart => exact ⟨0, Nat.zero_le _, rfl, Lib.hid (by rw [h0.out]; exact own_nil _ _ _), Lib.hid (Below.refl _ _)⟩
  case round =>
    obtain ⟨j, hj, rfl, ho, hB⟩ := hrel
    obtain ⟨va, vc, rfl⟩ := own_slice ho.out
    by_cases hlt : j < min n 40
    · have hjn : j < n := by omega
      have hj4 : j < 40 := by omega
      obtain ⟨b, off, rfl, hb, hcell⟩ := HS.out.at (by omega)
      have hcj := stepc hB.out hb (hcell j hjn)
      have hsj := Lib.hid (hsu.out j hjn)
      have hsz := hB.out.size
      skip
      generalize l.getD j 0 = x at *
      clear hcell
      go_wp2_with (at_builtin; refine wpList_append_lies _ rfl _ _ 34 rfl w.heap.size 40 i0 (.int .u32 0) 1 4 Try.underlying34 hi hz0 hz1 hz2 rfl (by decide) (.slice va j vc) j _ rfl (ho.out.alloc _) ⟨wr.heap.size, 0, none⟩ 1 1 [.int .u32 _] rfl rfl (news1 _ _ _) (by simp [Value.oneCell']) (by decide) (by unfold maxLen; omega) (by omega) (by simp; omega) _ rfl ?_; intro g cap1 w7 hown1 hgrow1 hat1 hlt1)
      refine ⟨⟨j + 1, by omega, by go_num, Lib.hid (by rw [hsj.out]; exact hown1), Lib.hid ((hB.out.alloc hsz _).grown hgrow1 (by simp; omega) (fun k hk => own_ge ho.out k hk))⟩, by simp [intOf]; omega⟩
    · obtain rfl : j = min n 40 := by omega
      rw [hful.out] at ho
      by_cases h6 : n ≤ 40
      · have hmn : min n 40 = n := by omega
        rw [hmn] at ho ⊢
        go_wp2
        go_ret
        exact ⟨va, vc, by rw [hmn]; rfl, by rw [hmn]; exact ho.out, hB.out⟩
      · have hmn : min n 40 = 40 := by omega
        rw [hmn] at ho ⊢
        have hn4 : 40 < n := by omega
        go_wp2
        go_ret
        exact ⟨va, vc, by rw [hmn]; rfl, by rw [hmn]; exact ho.out, hB.out⟩

set_option maxHeartbeats 1000000 in
theorem inside_any {w : World} {a : Option Addr} {n c : Nat} {l : List Int} (hs : Row .u32 w a n l) (hlit : ∀ x ∈ l, IsLit x) {L : Nat} (hL0 : 0 < L) (hL : L ≤ 100000) :
    Calls Try.prog 10 #[.slice a n c, .int .i64 L] w fun e w' => ∃ a2 c2, e = .returned (.slice a2 (min n 40) c2) ∧ MadeR w w' 39 .u32 a2 (min n 40) c2 ((l.take 40).map (brV L)) := by
  have hz : (2 * (L : Int) == 0) = false := beqf (by omega)
  have hw1 : IntKind.u32.wrap (2 * (L : Int)) = 2 * (L : Int) := by rw [w32]; omega
  have hw2 : IntKind.i64.wrap (2 * (L : Int)) = 2 * (L : Int) := IntWalk.i64_in _ (by omega)
  have hbr := Lib.hid (fun x => show brV L x = x % (2 * (L : Int)) from rfl)
  have hx := Lib.hid (fun j (hj : j < n) => show 0 ≤ l.getD j 0 ∧ l.getD j 0 < 4294967296 from hlit _ (by have := hs.len; simp [List.getD, show j < l.length by omega]))
  have HS := Lib.hid hs
  have hlen := hs.len
  obtain ⟨i0, hi, hz0, hz1, hz2⟩ := info_parts info_u32
  have hsu := Lib.hid (fun j (hj : j < n) => take_succ_map l (brV L) .u32 j (by omega))
  have h0 : Hid (((l.take 0).map (brV L)).map (Value.int .u32) = []) := Lib.hid (by simp)
  have hful : Hid (l.take (min n 40) = l.take 40) := Lib.hid (by
    by_cases h : n ≤ 40
    · rw [show min n 40 = n by omega, List.take_of_length_le (by omega), List.take_of_length_le (by omega)]
    · rw [show min n 40 = 40 by omega])
  have hle := hs.le
  clear hs
  go_enter Try.func10, Try.ntmps10
  go_wp2
  go_loopw [5, 6] (fun v s wr => ∃ j : Nat, j ≤ min n 40 ∧ s = .int .i64 j ∧ Hid (wr.ownsRow w.heap.size 39 1 v j (((l.take j).map (brV L)).map (Value.int .u32))) ∧ Hid (Below w.heap.size w wr)) (fun _ s _ => min n 40 - (intOf s).toNat)
  case atStart => exact ⟨0, Nat.zero_le _, rfl, Lib.hid (by rw [h0.out]; exact own_nil _ _ _), Lib.hid (Below.refl _ _)⟩
  case round =>
    obtain ⟨j, hj, rfl, ho, hB⟩ := hrel
    obtain ⟨va, vc, rfl⟩ := own_slice ho.out
    by_cases hlt : j < min n 40
    · have hjn : j < n := by omega
      have hj4 : j < 40 := by omega
      obtain ⟨b, off, rfl, hb, hcell⟩ := HS.out.at (by omega)
      have hcj := stepc hB.out hb (hcell j hjn)
      have hsj := Lib.hid (hsu.out j hjn)
      have hsz := hB.out.size
      rw [hbr.out] at *; obtain ⟨x0, x1⟩ := hx.out j hjn
      generalize l.getD j 0 = x at *
      clear hcell
      go_wp2_with (at_builtin; refine wpList_append_lies _ rfl _ _ 25 rfl w.heap.size 39 i0 (.int .u32 0) 1 4 Try.underlying25 hi hz0 hz1 hz2 rfl (by decide) (.slice va j vc) j _ rfl (ho.out.alloc _) ⟨wr.heap.size, 0, none⟩ 1 1 [.int .u32 _] rfl rfl (news1 _ _ _) (by simp [Value.oneCell']) (by decide) (by unfold maxLen; omega) (by omega) (by simp; omega) _ rfl ?_; intro g cap1 w7 hown1 hgrow1 hat1 hlt1)
      refine ⟨⟨j + 1, by omega, by go_num, Lib.hid (by rw [hsj.out]; exact hown1), Lib.hid ((hB.out.alloc hsz _).grown hgrow1 (by simp; omega) (fun k hk => own_ge ho.out k hk))⟩, by simp [intOf]; omega⟩
    · obtain rfl : j = min n 40 := by omega
      rw [hful.out] at ho
      by_cases h6 : n ≤ 40
      · have hmn : min n 40 = n := by omega
        rw [hmn] at ho ⊢
        go_wp2
        go_ret
        exact ⟨va, vc, by rw [hmn]; rfl, by rw [hmn]; exact ho.out, hB.out⟩
      · have hmn : min n 40 = 40 := by omega
        rw [hmn] at ho ⊢
        have hn4 : 40 < n := by omega
        go_wp2
        go_ret
        exact ⟨va, vc, by rw [hmn]; rfl, by rw [hmn]; exact ho.out, hB.out⟩

set_option maxHeartbeats 1000000 in
theorem ints_same {w : World} {a a2 : Option Addr} {n c c2 : Nat} {l : List Int} (h1 : Row .i64 w a n l) (h2 : Row .i64 w a2 n l) :
    Calls Try.prog 53 #[.slice a n c, .slice a2 n c2] w fun e w' => e = .returned (.bool true) ∧ Below w.heap.size w w' := by
  have H1 := Lib.hid h1
  have H2 := Lib.hid h2
  have hle := h1.le
  have hne := bnef (a := (n : Int)) (b := n) rfl
  clear h1 h2
  go_enter Try.func53, Try.ntmps53
  go_wp2
  go_loopw [5] (fun s wr => ∃ j : Nat, j ≤ n ∧ s = .int .i64 j ∧ Hid (Below w.heap.size w wr)) (fun s _ => n - (intOf s).toNat)
  case atStart => exact ⟨0, Nat.zero_le _, rfl, Lib.hid (Below.refl _ _)⟩
  case round =>
    obtain ⟨j, hj, rfl, hB⟩ := hrel
    by_cases hlt : j < n
    · obtain ⟨b, off, rfl, hb, hcell⟩ := H1.out.at (by omega)
      obtain ⟨b2, off2, rfl, hb2, hcell2⟩ := H2.out.at (by omega)
      have c1 := stepc hB.out hb (hcell j hlt)
      have c2 := stepc hB.out hb2 (hcell2 j hlt)
      have hjn : (j : Int) < n := by omega
      generalize l.getD j 0 = x at *
      have hxx := bnef (a := x) (b := x) rfl
      have hBr := Lib.hid (nextw hB.out (below_draws wr 0))
      have hBn := Lib.hid (fun q => nextw hB.out (below_draws wr q))
      clear hcell hcell2
      go_wp2
      go_quiet (fail)
      go_wp2
      exact ⟨⟨j + 1, by omega, by go_num, Lib.hid (hBn.out _)⟩, by simp [intOf]; omega⟩
    · obtain rfl : j = n := by omega
      go_wp2
      go_ret
      exact ⟨rfl, hB.out⟩
set_option maxHeartbeats 1000000 in
theorem words_same {w : World} {a a2 : Option Addr} {n c c2 : Nat} {l : List Int} (h1 : Row .u64 w a n l) (h2 : Row .u64 w a2 n l) :
    Calls Try.prog 16 #[.slice a n c, .slice a2 n c2] w fun e w' => e = .returned (.bool true) ∧ Below w.heap.size w w' := by
  have H1 := Lib.hid h1
  have H2 := Lib.hid h2
  have hle := h1.le
  have hne := bnef (a := (n : Int)) (b := n) rfl
  clear h1 h2
  go_enter Try.func16, Try.ntmps16
  go_wp2
  go_loopw [5] (fun s wr => ∃ j : Nat, j ≤ n ∧ s = .int .i64 j ∧ Hid (Below w.heap.size w wr)) (fun s _ => n - (intOf s).toNat)
  case atStart => exact ⟨0, Nat.zero_le _, rfl, Lib.hid (Below.refl _ _)⟩
  case round =>
    obtain ⟨j, hj, rfl, hB⟩ := hrel
    by_cases hlt : j < n
    · obtain ⟨b, off, rfl, hb, hcell⟩ := H1.out.at (by omega)
      obtain ⟨b2, off2, rfl, hb2, hcell2⟩ := H2.out.at (by omega)
      have c1 := stepc hB.out hb (hcell j hlt)
      have c2 := stepc hB.out hb2 (hcell2 j hlt)
      have hjn : (j : Int) < n := by omega
      generalize l.getD j 0 = x at *
      have hxx := bnef (a := x) (b := x) rfl
      have hBr := Lib.hid (nextw hB.out (below_draws wr 0))
      have hBn := Lib.hid (fun q => nextw hB.out (below_draws wr q))
      clear hcell hcell2
      go_wp2
      go_quiet (fail)
      go_wp2
      exact ⟨⟨j + 1, by omega, by go_num, Lib.hid (hBn.out _)⟩, by simp [intOf]; omega⟩
    · obtain rfl : j = n := by omega
      go_wp2
      go_ret
      exact ⟨rfl, hB.out⟩

def fillL (l : List Int) (i : Nat) : Int := l.getD i 0
theorem splice_fill (l : List Int) (m : Nat) : splice ((List.replicate m (0 : Int)).map (Value.int .u64)) 0 ((l.take (min l.length m)).map (Value.int .u64)) = (Bits.row m (fillL l)).map (Value.int .u64) := by
  unfold splice
  apply List.ext_getElem
  · simp [Bits.row]; omega
  · intro i h1 h2
    have h3 : i < m := by simpa [Bits.row] using h2
    by_cases hi : i < min l.length m
    · simp [List.getElem_append, Bits.row, fillL, List.getD, hi, show i < l.length by omega]
    · simp [List.getElem_append, Bits.row, fillL, List.getD, hi, show ¬ (i < l.length ∧ i < m) by omega, List.getElem?_eq_none (show l.length ≤ i by omega)]
theorem own_full {w : World} {base T n g cap : Nat} {xs : List Value} (h : w.ownsRow base T 1 (.slice (some ⟨g, 0, none⟩) n cap) n xs) (hc : cap = n) : w.heap[g]? = some (.cells xs.toArray T (0, 0)) := by
  rcases h.2 with ⟨h0, _⟩ | ⟨g', cap', cur, hv, _, hh, _, _, hsz, ht⟩
  · simp at h0
  · simp at hv
    obtain ⟨rfl, rfl⟩ := hv
    rw [hh]
    rw [List.take_of_length_le (by simp; omega)] at ht
    rw [← ht]
set_option maxHeartbeats 1000000 in
theorem filled_any {w : World} {a : Option Addr} {n c : Nat} {l : List Int} (hs : Row .u64 w a n l) {m : Nat} (hm : m ≤ 200000) :
    Calls Try.prog 14 #[.slice a n c, .int .i64 m] w fun e w' => ∃ g, e = .returned (.slice (some ⟨g, 0, none⟩) m m) ∧ MadeR w w' 56 .u64 (some ⟨g, 0, none⟩) m m (Bits.row m (fillL l)) := by
  obtain ⟨i0, hi, hz0, hz1, hz2⟩ := info_parts info_u64
  have hz := Lib.hid (made_zero .u64 m)
  have hlen := hs.len
  have hle := hs.le
  have HS := Lib.hid hs
  have hsp := Lib.hid (splice_fill l m)
  rw [hlen] at hsp
  have hcs : Hid (((l.take (min n m)).map (Value.int .u64)).length = Nat.min n m) := Lib.hid (by rw [List.length_map, List.length_take]; show _ = min n m; omega)
  have hone : Hid (∀ v ∈ (l.take (min n m)).map (Value.int .u64), v.oneCell' = true) := Lib.hid (by
    intro v hv
    obtain ⟨z, -, rfl⟩ := List.mem_map.1 hv
    rfl)
  obtain ⟨CS, hCS⟩ : ∃ CS, CS = (l.take (min n m)).map (Value.int .u64) := ⟨_, rfl⟩
  obtain ⟨ZS, hZS⟩ : ∃ ZS, ZS = (List.replicate m (0 : Int)).map (Value.int .u64) := ⟨_, rfl⟩
  have hcsl : CS.length = min n m := by rw [hCS]; simp; omega
  have hcell : Hid (∀ w2, Below w.heap.size w w2 → 0 < CS.length → ∃ ad, a = some ad ∧ ∀ j v, CS[j]? = some v → w2.cell? (ad.add j) = some v) := Lib.hid (fun w2 hb h0 => by
    obtain ⟨b, off, rfl, hbl, hc⟩ := HS.out.at (by omega)
    refine ⟨_, rfl, fun j v hv => ?_⟩
    have hj := (List.getElem?_eq_some_iff.1 hv).1
    have e : v = .int .u64 (l.getD j 0) := by
      rw [hCS, List.getElem?_map, List.getElem?_take] at hv
      rw [if_pos (by omega)] at hv
      have : l[j]? = some (l.getD j 0) := by simp [List.getD, show j < l.length by omega]
      rw [this] at hv
      exact (Option.some.inj hv).symm
    rw [e, show (⟨b, off, none⟩ : Addr).add j = ⟨b, off + j, none⟩ by simp [Addr.add]]
    exact stepc hb hbl (hc j (by omega)))
  rw [← hCS] at hcs hone
  rw [← hCS, ← hZS] at hsp
  rw [← hZS] at hz
  have hzl : ZS.length = m := by rw [hZS]; simp
  clear hCS hZS hs hlen
  go_enter Try.func14, Try.ntmps14
  go_wp2_with (first
    | (at_make; refine wpList_make_full _ rfl _ _ 26 rfl w.heap.size 56 i0 (.int .u64 0) 1 Try.underlying26 hi hz0 hz1 .i64 .i64 m m m rfl rfl rfl rfl (by rw [hz2]; omega) (by unfold maxLen; omega) (Nat.le_refl _) ?_; intro w1 hown hg; have hB1 : Below w.heap.size w w1 := (Below.refl w.heap.size w).grown hg (Nat.le_refl _) (fun _ h => (by cases h)); rw [hz.out] at hown; have hH1 := own_full hown rfl; clear hown hg)
    | (refine wpList_copy_splice rfl _ _ 26 26 rfl 56 Try.underlying26 (by kernel_rfl) (some ⟨w.heap.size, 0, none⟩) a m m n c rfl rfl w.heap.size 0 ZS 56 hH1 CS hcs.out (fun h0 => ⟨rfl, hcell.out _ hB1 h0⟩) (by omega) hone.out w.heap.size w hB1 (Nat.le_refl _) ?_; intro w2 hH2 hB2))
  go_ret
  refine ⟨w.heap.size, rfl, ?_, hB2⟩
  have hH := hH2.out
  rw [hsp.out] at hH
  refine ⟨by simp [Bits.row], .inr ⟨w.heap.size, m, _, rfl, Nat.le_refl _, hH, Nat.le_refl _, by unfold maxLen; omega, by simp [Bits.row], ?_⟩⟩
  rw [List.take_of_length_le (by simp [Bits.row])]
end Go.Proofs.Ytmljpbbnllfgbaa
