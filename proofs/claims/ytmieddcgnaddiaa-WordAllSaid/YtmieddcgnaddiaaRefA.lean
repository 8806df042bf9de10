/-
  Walks over the document's own answers for layer 1: bits and numbers.
-/
import Derived.Test.YtmieddcgnaddiaaExt
import Derived.Test.YtmieddcgnaddiaaBits
namespace Go.Proofs.Ytmieddcgnaddiaa
open Go.RowKit Bits

/-- A slice of ints, its cells known. -/
def Sl (w : World) (g : Nat) (l : List Int) : Prop := g < w.heap.size ∧ ∀ i, i < l.length → w.cell? ⟨g, i, none⟩ = some (.int .i64 (l.getD i 0))
theorem Sl.step {W w1 : World} {g : Nat} {l : List Int} (h : Sl W g l) (hb : Below W.heap.size W w1) : Sl w1 g l :=
  ⟨Nat.lt_of_lt_of_le h.1 hb.size, fun i hi => stepc hb h.1 (h.2 i hi)⟩
theorem Sl.of_own {w : World} {base g k cap : Nat} {l : List Int} {T : Nat} (h : w.ownsRow base T 1 (.slice (some ⟨g, 0, none⟩) k cap) k (l.map (Value.int .i64))) (hl : l.length = k) (hk : 0 < k) : Sl w g l := by
  have hlk : 0 < l.length := by omega
  have hc := fun i hi => h.cellAt (j := i) hi
  have h0 := hc 0 (by omega)
  refine ⟨?_, fun i hi => ?_⟩
  · refine World.block_lt_of_cell? w ⟨g, 0, none⟩ (u := .int .i64 (l.getD 0 0)) ?_
    rw [h0]; simp [List.getD, hlk]
  · rw [hc i (by omega)]; simp [List.getD, hi]

theorem info_int : (Try.prog.info? 3).map (fun i => (i.zero, i.size, i.bytes)) = some (some (.int .i64 0), 1, 8) := by kernel_rfl

def fill (a k j : Nat) : List Int := row k (fun i => if i < j then bt a i else 0)
theorem fill_set (a k j : Nat) : ((fill a k j).map (Value.int .i64)).set j (.int .i64 (bt a j)) = (fill a k (j + 1)).map (Value.int .i64) := by
  apply List.ext_getElem
  · simp [fill, row]
  · intro i h1 h2
    simp [fill, row, List.getElem_set] at *
    by_cases e : j = i
    · subst e; simp
    · by_cases hi : i < j
      · simp [e, hi, show i < j + 1 by omega]
      · simp [e, hi, show ¬ i < j + 1 by omega]

set_option maxHeartbeats 1000000 in
theorem bits_any (a k : Nat) (ha : a < 18446744073709551616) (hk : 1 ≤ k) (hk' : k ≤ 64) (w : World) :
    Calls Try.prog 28 #[.int .u64 a, .int .i64 k] w fun e w' => ∃ g, e = .returned (.slice (some ⟨g, 0, none⟩) k k) ∧ Sl w' g (row k (bt a)) ∧ Below w.heap.size w w' := by
  obtain ⟨i0, hi, hz0, hz1, hz2⟩ := info_parts info_int
  go_enter Try.func28, Try.ntmps28
  go_wp2_with (at_make; go_loud (refine wpList_make_full _ rfl _ _ 53 rfl w.heap.size 3 i0 (.int .i64 0) 1 Try.underlying53 hi hz0 hz1 .i64 .i64 k k k rfl rfl rfl rfl (by rw [hz2]; omega) (by unfold maxLen; omega) (Nat.le_refl _) ?_); intro w1 hown hg)
  have HI : Hid ((madeCells (Value.int .i64 0).cells (k * 1)).toList = (fill a k 0).map (Value.int .i64)) := by
    show _ = _
    apply List.ext_getElem
    · simp [madeCells, fill, row, Value.cells]
    · intro i h1 h2; simp [madeCells, fill, row, Value.cells, Nat.mod_one]
  go_loopw [0, 6] (fun n i wr => ∃ j : Nat, j ≤ k ∧ i = .int .i64 j ∧ n = .int .u64 (a / 2 ^ j : Nat) ∧ wr.ownsRow w.heap.size 3 1 (.slice (some ⟨w.heap.size, 0, none⟩) k k) k ((fill a k j).map (Value.int .i64)) ∧ Below w.heap.size w wr) (fun _ i _ => k - (intOf i).toNat)
  case atStart => exact ⟨0, Nat.zero_le _, rfl, by simp, by rw [← HI.out]; exact hown, (Below.refl _ _).grown hg (Nat.le_refl _) (fun _ h => by cases h)⟩
  case round =>
    clear hown hg
    obtain ⟨j, hj, rfl, rfl, hown, hB⟩ := hrel
    by_cases hlt : j < k
    · have hcl := hown.cellAt (j := j) (by simpa using hlt)
      have hfr := hown.frozenAt j
      have hst := hown.stored j (.int .i64 (bt a j))
      have hlen : ((fill a k j).map (Value.int .i64)).length = k := by simp [fill, row]
      have hsome : (wr.cell? ⟨w.heap.size, j, none⟩).isSome = true := by rw [hcl]; simp [hlen, hlt]
      have hB0 : 0 ≤ ((a / 2 ^ j : Nat) : Int) := Int.natCast_nonneg _
      have hB1 : ((a / 2 ^ j : Nat) : Int) ≤ 18446744073709551615 := by have := Nat.div_le_self a (2 ^ j); omega
      obtain ⟨u, hu⟩ := Option.isSome_iff_exists.1 hsome
      have hbt : Hid (bt a j = ((a / 2 ^ j : Nat) : Int) % 2) := by show _ = _; unfold bt; push_cast; rfl
      have hnx : Hid (a / 2 ^ (j + 1) = a / 2 ^ j / 2) := by show _ = _; rw [Nat.pow_succ, Nat.div_div_eq_div_mul]
      have hst := Lib.hid hst
      clear hsome hlen hcl
      generalize a / 2 ^ j = m at *
      go_wp2
      go_roundw
      case rel =>
        refine ⟨j + 1, by omega, by go_num, ?_, ?_, ?_⟩
        · rw [hnx.out]; push_cast; rfl
        · have e := hst.out.1
          rw [fill_set, hbt.out] at e
          exact e
        · exact hB.setCell (Nat.le_refl _) _
      case measure => simp [intOf]; omega
    · obtain rfl : j = k := by omega
      go_wp2
      go_ret
      refine ⟨w.heap.size, rfl, ?_, hB⟩
      have e : fill a j j = row j (bt a) := row_congr (fun i hi => by rw [if_pos hi])
      rw [← e]
      exact Sl.of_own hown (by simp [fill, row]) (by omega)

theorem drop_01 {l : List Int} (h : All01 l) (i : Nat) : All01 (l.drop i) := fun x hx => h x (List.mem_of_mem_drop hx)
theorem num_lt64 {l : List Int} (h : All01 l) (hl : l.length ≤ 64) : 0 ≤ num l ∧ num l ≤ 18446744073709551615 := by
  have h1 := num_bd h
  have h2 : (2 : Int) ^ l.length ≤ 2 ^ 64 := by exact_mod_cast Nat.pow_le_pow_right (show 0 < 2 by decide) hl
  omega

set_option maxHeartbeats 1000000 in
theorem number_any (g k cap : Nat) (l : List Int) (hl : l.length = k) (h01 : All01 l) (hk : 1 ≤ k) (hk' : k ≤ 64) (w : World) (hs : Sl w g l) :
    Calls Try.prog 27 #[.slice (some ⟨g, 0, none⟩) k cap] w fun e w' => e = .returned (.int .u64 (num l)) ∧ w = w' := by
  have HL := Lib.hid hl
  have HS := Lib.hid hs
  have H0 : Hid (num (l.drop k) = 0) := by show _ = _; rw [List.drop_of_length_le (by omega)]; rfl
  clear hl hs
  go_enter Try.func27, Try.ntmps27
  go_wp2
  go_loop [3, 4] (fun n i => ∃ q : Int, -1 ≤ q ∧ q < k ∧ i = .int .i64 q ∧ n = .int .u64 (num (l.drop (q + 1).toNat))) (fun _ i => (intOf i + 1).toNat)
  case atStart => exact ⟨(k : Int) - 1, by omega, by omega, rfl, by rw [show ((k : Int) - 1 + 1).toNat = k by omega, H0.out]⟩
  case round =>
    obtain ⟨q, hq1, hq2, rfl, rfl⟩ := hrel
    by_cases h0 : 0 ≤ q
    · obtain ⟨j, rfl⟩ := Int.eq_ofNat_of_zero_le h0
      have hj : j < k := by omega
      have hc := HS.out.2 j (by rw [HL.out]; exact hj)
      have hx := getD_01 h01 j
      have hx0 : 0 ≤ l.getD j 0 := by omega
      have hx1 : l.getD j 0 ≤ 1 := by omega
      have hn := num_lt64 (drop_01 h01 j) (by rw [List.length_drop, HL.out]; omega)
      have hd := num_drop l j (by rw [HL.out]; exact hj)
      have hd0 := (num_bd (drop_01 h01 (j + 1))).1
      rw [hd] at hn
      obtain ⟨hn0, hn1⟩ := hn
      have hd := Lib.hid hd
      rw [show ((j : Int) + 1).toNat = j + 1 by omega]
      clear h0 hq1 hq2 hx
      generalize num (l.drop (j + 1)) = N at *
      generalize l.getD j 0 = x at *
      go_wp2
      go_round
      case rel => exact ⟨(j : Int) - 1, by omega, by omega, rfl, by rw [show ((j : Int) - 1 + 1).toNat = j by omega, hd.out, Int.add_comm]⟩
      case measure => simp [intOf]
    · have e : q = -1 := by omega
      subst e
      clear h0 hq1 hq2
      go_wp2
      go_ret
      exact ⟨rfl, rfl⟩

theorem news1 (w : World) (x : Value) (T : Nat) : ∀ (j : Nat) (u : Value), [x][j]? = some u → (w.alloc (.cells #[x] T)).cell? ((⟨w.heap.size, 0, none⟩ : Addr).add j) = some u := by
  intro j u h
  match j with
  | 0 => simp at h; subst h; simp [Addr.add]
  | j + 1 => simp at h

theorem own_ge {w : World} {base e size n : Nat} {v : Value} {xs : List Value} (h : w.ownsRow base e size v n xs) : ∀ k, v.ownBlock = some k → base ≤ k := by
  intro k hk
  rcases h.2 with ⟨rfl, _⟩ | ⟨g, cap, cur, rfl, hb, _⟩
  · simp [Value.ownBlock] at hk
  · simp [Value.ownBlock] at hk; omega
theorem own_below {w w2 : World} {base e size n : Nat} {v : Value} {xs : List Value} (h : w.ownsRow base e size v n xs) (hb : Below w.heap.size w w2) : w2.ownsRow base e size v n xs := by
  refine ⟨h.1, ?_⟩
  rcases h.2 with h0 | ⟨g, cap, cur, rfl, hg, hh, r⟩
  · exact .inl h0
  · exact .inr ⟨g, cap, cur, rfl, hg, by rw [hb.block g (Array.getElem?_eq_some_iff.1 hh).1]; exact hh, r⟩
theorem own_form {w : World} {base e size n : Nat} {v : Value} {xs : List Value} (h : w.ownsRow base e size v n xs) (hn : 0 < n) : ∃ g cap, v = .slice (some ⟨g, 0, none⟩) n cap := by
  rcases h.2 with ⟨_, h0⟩ | ⟨g, cap, _, hv, _⟩
  · omega
  · exact ⟨g, cap, hv⟩

set_option maxHeartbeats 1000000 in
theorem turned_any (g k cap : Nat) (l : List Int) (hl : l.length = k) (h01 : All01 l) (hk : 1 ≤ k) (hk' : k ≤ 64) (w : World) (hs : Sl w g l) :
    Calls Try.prog 37 #[.slice (some ⟨g, 0, none⟩) k cap] w fun e w' => ∃ g' cap', e = .returned (.slice (some ⟨g', 0, none⟩) k cap') ∧ Sl w' g' (row k (fun i => 1 - l.getD i 0)) ∧ Below w.heap.size w w' := by
  have HL := Lib.hid hl
  have HS := Lib.hid hs
  obtain ⟨i0, hi, hz0, hz1, hz2⟩ := info_parts info_int
  clear hl hs
  go_enter Try.func37, Try.ntmps37
  go_wp2
  go_loopw [3, 4] (fun v i wr => ∃ j : Nat, j ≤ k ∧ i = .int .i64 j ∧ wr.ownsRow w.heap.size 3 1 v j ((row j (fun i => 1 - l.getD i 0)).map (Value.int .i64)) ∧ Below w.heap.size w wr) (fun _ i _ => k - (intOf i).toNat)
  case atStart => exact ⟨0, Nat.zero_le _, rfl, ⟨rfl, .inl ⟨rfl, rfl⟩⟩, Below.refl _ _⟩
  case round =>
    obtain ⟨j, hj, rfl, hown, hB⟩ := hrel
    by_cases hlt : j < k
    · have hc := (hB.cell (p := ⟨g, j, none⟩) HS.out.1).trans (HS.out.2 j (by rw [HL.out]; exact hlt))
      have hx := getD_01 h01 j
      have hx0 : 0 ≤ l.getD j 0 := by omega
      have hx1 : l.getD j 0 ≤ 1 := by omega
      have hsn : Hid ((row (j + 1) (fun i => 1 - l.getD i 0)).map (Value.int .i64) = (row j (fun i => 1 - l.getD i 0)).map (Value.int .i64) ++ [.int .i64 (1 - l.getD j 0)]) := by show _ = _; rw [row_succ, List.map_append]; rfl
      have hsz := hB.size
      clear hx
      generalize l.getD j 0 = x at *
      go_wp2_with (at_builtin; refine wpList_append_own _ rfl _ _ 53 rfl w.heap.size 3 i0 (.int .i64 0) 1 8 Try.underlying53 hi hz0 hz1 hz2 rfl (by decide) _ _ _ rfl (hown.alloc _) ⟨wr.heap.size, 0, none⟩ 1 1 [.int .i64 (1 - x)] rfl rfl (news1 _ _ _) (by simp [Value.oneCell']) (by unfold maxLen; omega) (by omega) (by simp; omega) ?_; intro v' w1 hown' hgrow _)
      go_roundw
      case rel =>
        refine ⟨j + 1, by omega, by go_num, ?_, ?_⟩
        · rw [hsn.out]; exact hown'
        · exact (hB.alloc hsz _).grown hgrow (by simp; omega) (own_ge hown)
      case measure => simp [intOf]; omega
    · obtain rfl : j = k := by omega
      obtain ⟨g', cap', hv⟩ := own_form hown hk
      go_wp2
      go_ret
      exact ⟨g', cap', by rw [← hv]; rfl, Sl.of_own (by rw [← hv]; exact hown) (by simp [row]) (by omega), hB⟩

set_option maxHeartbeats 2000000 in
theorem add_any (g k cap g2 cap2 : Nat) (l l2 : List Int) (c : Int) (hl : l.length = k) (hl2 : l2.length = k) (h01 : All01 l) (h02 : All01 l2) (hc : c = 0 ∨ c = 1) (hk : 1 ≤ k) (hk' : k ≤ 64) (w : World) (hs : Sl w g l) (hs2 : Sl w g2 l2) :
    Calls Try.prog 38 #[.slice (some ⟨g, 0, none⟩) k cap, .slice (some ⟨g2, 0, none⟩) k cap2, .int .i64 c] w fun e w' => ∃ g' cap', e = .returned (.slice (some ⟨g', 0, none⟩) k cap') ∧ Sl w' g' (row k (sumAt (fun i => l.getD i 0) (fun i => l2.getD i 0) c)) ∧ Below w.heap.size w w' := by
  have HL := Lib.hid hl
  have HL2 := Lib.hid hl2
  have HS := Lib.hid hs
  have HS2 := Lib.hid hs2
  have HC := Lib.hid (carry_01 (f := fun i => l.getD i 0) (g := fun i => l2.getD i 0) (n := k) (fun i _ => getD_01 h01 i) (fun i _ => getD_01 h02 i) hc)
  obtain ⟨i0, hi, hz0, hz1, hz2⟩ := info_parts info_int
  clear hl hs hl2 hs2 hc
  go_enter Try.func38, Try.ntmps38
  go_wp2
  go_loopw [2, 7, 8] (fun cv v i wr => ∃ j : Nat, j ≤ k ∧ i = .int .i64 j ∧ cv = .int .i64 (carry (fun i => l.getD i 0) (fun i => l2.getD i 0) c j) ∧ wr.ownsRow w.heap.size 3 1 v j ((row j (sumAt (fun i => l.getD i 0) (fun i => l2.getD i 0) c)).map (Value.int .i64)) ∧ Below w.heap.size w wr) (fun _ _ i _ => k - (intOf i).toNat)
  case atStart => exact ⟨0, Nat.zero_le _, rfl, rfl, ⟨rfl, .inl ⟨rfl, rfl⟩⟩, Below.refl _ _⟩
  case round =>
    obtain ⟨j, hj, rfl, rfl, hown, hB⟩ := hrel
    by_cases hlt : j < k
    · have hc := (hB.cell (p := ⟨g, j, none⟩) HS.out.1).trans (HS.out.2 j (by rw [HL.out]; exact hlt))
      have hc2 := (hB.cell (p := ⟨g2, j, none⟩) HS2.out.1).trans (HS2.out.2 j (by rw [HL2.out]; exact hlt))
      have hx := getD_01 h01 j
      have hx0 : 0 ≤ l.getD j 0 := by omega
      have hx1 : l.getD j 0 ≤ 1 := by omega
      have hy := getD_01 h02 j
      have hy0 : 0 ≤ l2.getD j 0 := by omega
      have hy1 : l2.getD j 0 ≤ 1 := by omega
      have hq := HC.out j hj
      have hsn : Hid ((row (j + 1) (sumAt (fun i => l.getD i 0) (fun i => l2.getD i 0) c)).map (Value.int .i64) = (row j (sumAt (fun i => l.getD i 0) (fun i => l2.getD i 0) c)).map (Value.int .i64) ++ [.int .i64 ((l.getD j 0 + l2.getD j 0 + carry (fun i => l.getD i 0) (fun i => l2.getD i 0) c j) % 2)]) := by show _ = _; rw [row_succ, List.map_append]; rfl
      have hcn : Hid (carry (fun i => l.getD i 0) (fun i => l2.getD i 0) c (j + 1) = (l.getD j 0 + l2.getD j 0 + carry (fun i => l.getD i 0) (fun i => l2.getD i 0) c j) / 2) := rfl
      have hsz := hB.size
      generalize carry (fun i => l.getD i 0) (fun i => l2.getD i 0) c j = q at *
      have hq0 : 0 ≤ q := by omega
      have hq1 : q ≤ 1 := by omega
      clear hx hy hq
      have hown := Lib.hid hown
      generalize l.getD j 0 = x at *
      generalize l2.getD j 0 = y at *
      go_wp2
      have hy1' := fun q => stepc (ext_below wr q) (World.block_lt_of_cell? wr _ hc) hc
      have hy2' := fun q => stepc (ext_below wr q) (World.block_lt_of_cell? wr _ hc2) hc2
      (refine wp_region_ext (by kernel_rfl) (by kernel_rfl) ?_; (repeat (go_big_quiet_step ((fail)))); refine wpQuiet_nil ?_; intro w2 hw'; have hb2 := below_of_ext hw'; clear hw')
      clear hy1' hy2' hc hc2
      have hown2 := own_below hown.out hb2
      have hB2 := nextw hB hb2
      have hge := Lib.hid (own_ge hown.out)
      have hsz2 := Nat.le_trans hsz hb2.size
      clear hown hB hb2
      go_wp2_with (at_builtin; refine wpList_append_own _ rfl _ _ 53 rfl w.heap.size 3 i0 (.int .i64 0) 1 8 Try.underlying53 hi hz0 hz1 hz2 rfl (by decide) _ _ _ rfl (hown2.alloc _) ⟨w2.heap.size, 0, none⟩ 1 1 [.int .i64 ((x + y + q) % 2)] rfl rfl (news1 _ _ _) (by simp [Value.oneCell']) (by unfold maxLen; omega) (by omega) (by simp; omega) ?_; intro v' w1 hown' hgrow _)
      go_roundw
      case rel =>
        refine ⟨j + 1, by omega, by go_num, by rw [hcn.out], ?_, ?_⟩
        · rw [hsn.out]; exact hown'
        · exact (hB2.alloc hsz2 _).grown hgrow (by simp; omega) hge.out
      case measure => simp [intOf]; omega
    · obtain rfl : j = k := by omega
      obtain ⟨g', cap', hv⟩ := own_form hown hk
      go_wp2
      go_ret
      exact ⟨g', cap', by rw [← hv]; rfl, Sl.of_own (by rw [← hv]; exact hown) (by simp [row]) (by omega), hB⟩
end Go.Proofs.Ytmieddcgnaddiaa
