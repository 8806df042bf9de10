/-
  Simulations: what is told of each register, node, literal; a run that begins; a cycle's words of literals; the next run.
  Steps that came in; a netlist under any steps but Input of the graph itself.
  The document's own graph (orreryref03): where it lies; New, Input, inputs, Gates, gate.
-/
import Derived.Test.YtlkainmkhofpaaaGreatFSAE
import Derived.Test.YtlkainmkhofpaaaGreatFSAN
import Derived.Deep.CutBlock
import Derived.Deep.DeepCutAuto
import Derived.Test.YtlkainmkhofpaaaGreatFSAG
section
namespace Go.Proofs.YtlkainmkhofpaaaGreat
open Go.RowKit Go.Maps Bits Num
set_option maxRecDepth 100000

/-- A row of words that nobody writes. -/
structure WR (w : World) (a : Option Addr) (n c : Nat) (l : List Int) : Prop where
  len : l.length = n
  own : w.ownsRow 0 62 1 (.slice a n c) n (l.map (Value.int .u64))
  words : Words l
theorem WR.below {w w' : World} {a : Option Addr} {n c : Nat} {l : List Int} (h : WR w a n c l) (hb : Below w.heap.size w w') : WR w' a n c l := ⟨h.len, own_below h.own hb, h.words⟩
theorem WR.row {w : World} {a : Option Addr} {n c : Nat} {l : List Int} (h : WR w a n c l) : Row .u64 w a n l := Row.of_own h.own h.len (own_maxLen h.own)
theorem WR.keptF {F : Nat → Prop} {w w' : World} {a : Option Addr} {n c : Nat} {l : List Int} (h : WR w a n c l) (hk : Kept F w w') (hF : ∀ k cur fz, F k → w.heap[k]? ≠ some (.cells cur 62 fz)) : WR w' a n c l :=
  ⟨h.len, own_keptF h.own hk (fun k e hf => by obtain ⟨cur, hh⟩ := own_type h.own e; exact hF k cur _ hf hh), h.words⟩
theorem WR.nil (w : World) : WR w none 0 0 [] := ⟨rfl, own_nil _ _ _, fun i => by simp⟩
/-- A row of words that a call has made. -/
def NewW (w : World) (n : Nat) (F : Nat → Int) (e : Ending) (w' : World) : Prop := ∃ g : Nat, e = .returned (.slice (some ⟨g, 0, none⟩) n n) ∧ w'.ownsRow w.heap.size 62 1 (.slice (some ⟨g, 0, none⟩) n n) n ((row n F).map (Value.int .u64)) ∧ Below w.heap.size w w'

theorem begun1_any (r : Rg) (w : World) :
    Calls Tryz.prog 84 #[.agg #[.int .u32 r.q, .int .u32 r.d, .int .u32 r.en, .bool r.init]] w fun e w' => e = .returned (.int .u64 (iniW r)) ∧ Below w.heap.size w w' := by
  obtain ⟨q, d, en, init⟩ := r
  have hb : Hid (Below w.heap.size w (w.alloc (.cells #[.int .u32 q, .int .u32 d, .int .u32 en, .bool init] 71))) := Lib.hid ((Below.refl _ _).alloc (Nat.le_refl _) _)
  unfold iniW
  cases init
  · go_enter Tryz.func84, Tryz.ntmps84
    go_wp2
    go_ret
    exact ⟨rfl, hb.out⟩
  · go_enter Tryz.func84, Tryz.ntmps84
    go_wp2
    go_ret
    exact ⟨rfl, hb.out⟩
theorem next1_any {w : World} {p : Nat} {a : Option Addr} {n c : Nat} {ws : List Int} (hp : p < w.heap.size) (hc : w.cell? ⟨p, 0, none⟩ = some (.slice a n c)) (hr : Row .u64 w a n ws) (hw : Words ws) (r : Rg) (hq : IsLit r.q) (hd : IsLit r.d) (hen : IsLit r.en) :
    Calls Tryz.prog 101 #[.agg #[.int .u32 r.q, .int .u32 r.d, .int .u32 r.en, .bool r.init], .pointer (some ⟨p, 0, none⟩)] w fun e w' => e = .returned (.int .u64 (nxW ws r)) ∧ Below w.heap.size w w' := by
  obtain ⟨q, d, en, init⟩ := r
  have hb : Below w.heap.size w (w.alloc (.cells #[.int .u32 q, .int .u32 d, .int .u32 en, .bool init] 71)) := (Below.refl _ _).alloc (Nat.le_refl _) _
  have hc1 := stepc hb hp hc
  have k0 : (w.alloc (.cells #[.int .u32 q, .int .u32 d, .int .u32 en, .bool init] 71)).cell? ⟨w.heap.size, 0, none⟩ = some (.int .u32 q) := by simp [go_sem]
  have k1 : (w.alloc (.cells #[.int .u32 q, .int .u32 d, .int .u32 en, .bool init] 71)).cell? ⟨w.heap.size, 1, none⟩ = some (.int .u32 d) := by simp [go_sem]
  have k2 : (w.alloc (.cells #[.int .u32 q, .int .u32 d, .int .u32 en, .bool init] 71)).cell? ⟨w.heap.size, 2, none⟩ = some (.int .u32 en) := by simp [go_sem]
  unfold nxW
  simp only []
  simp only [] at hq hd hen
  generalize hw1 : w.alloc (.cells #[.int .u32 q, .int .u32 d, .int .u32 en, .bool init] 71) = w1 at *
  have hwq := Lib.hid (fun w2 (hb2 : Below w1.heap.size w1 w2) => word_any q a n c ws hq w2 ((hr.step hb).step hb2) hw)
  have hwd := Lib.hid (fun w2 (hb2 : Below w1.heap.size w1 w2) => word_any d a n c ws hd w2 ((hr.step hb).step hb2) hw)
  have hwe := Lib.hid (fun w2 (hb2 : Below w1.heap.size w1 w2) => word_any en a n c ws hen w2 ((hr.step hb).step hb2) hw)
  have hrf := Lib.hid (Below.refl w1.heap.size w1)
  have hBn := Lib.hid (fun k => below_draws w1 k)
  have hb := Lib.hid hb
  have hlz : w.heap.size < w1.heap.size := World.block_lt_of_cell? w1 _ k0
  have hpl : p < w1.heap.size := World.block_lt_of_cell? w1 _ hc1
  have k0' := fun k => stepc (hBn.out k) hlz k0
  have k1' := fun k => stepc (hBn.out k) hlz k1
  have hc' := fun k => stepc (hBn.out k) hpl hc1
  generalize wordV q ws = X at *
  generalize wordV d ws = Y at *
  generalize wordV en ws = Z at *
  clear hr hw hc
  go_enter Tryz.func101, Tryz.ntmps101
  go_wp2_with (go_at_call 97; (with_reducible refine (hwe.out _ hrf.out).mono ?_); rintro e w2 ⟨rfl, rfl⟩)
  go_quiet (first | (go_at_call 97; with_reducible exact Calls.quiet_of_same ((hwd.out _ (hBn.out _)).mono (fun _ _ h => ⟨h.1, h.2.symm⟩))) | (go_at_call 97; with_reducible exact Calls.quiet_of_same ((hwq.out _ (hBn.out _)).mono (fun _ _ h => ⟨h.1, h.2.symm⟩))))
  go_wp2
  go_ret
  exact ⟨rfl, nextw hb.out (hBn.out _)⟩
theorem inputs1_any {w : World} {p : Nat} {a : Option Addr} {n c : Nat} {ws : List Int} (hc : w.cell? ⟨p, 0, none⟩ = some (.slice a n c)) (hr : Row .u64 w a n ws) {i : Nat} (hi : i < n) :
    Calls Tryz.prog 100 #[.int .i64 i, .pointer (some ⟨p, 0, none⟩)] w fun e w' => e = .returned (.int .u64 (ws.getD i 0)) ∧ Below w.heap.size w w' := by
  obtain ⟨b, off, rfl, hb, hcell⟩ := hr.at (by omega)
  have hci := hcell i hi
  clear hcell
  generalize ws.getD i 0 = x at *
  go_enter Tryz.func100, Tryz.ntmps100
  go_wp2
  go_ret
  exact ⟨rfl, Below.refl _ _⟩
theorem words1_any {w : World} {p : Nat} {a : Option Addr} {n c : Nat} {ws : List Int} (hc : w.cell? ⟨p, 2, none⟩ = some (.slice a n c)) (hr : Row .u64 w a n ws) (hw : Words ws) {l : Int} (hl : IsLit l) :
    Calls Tryz.prog 103 #[.int .u32 l, .pointer (some ⟨p, 0, none⟩)] w fun e w' => e = .returned (.int .u64 (wordV l ws)) ∧ Below w.heap.size w w' := by
  have h := Lib.hid (word_any l a n c ws hl w hr hw)
  clear hr hw
  go_enter Tryz.func103, Tryz.ntmps103
  go_wp2_with (go_at_call 97; (with_reducible refine h.out.mono ?_); rintro e w2 ⟨rfl, rfl⟩)
  go_ret
  exact ⟨rfl, Below.refl _ _⟩
theorem fits1_any (wa : Option Addr) (wn wc : Nat) (s : ByteArray) (la : Option Addr) (ln lc : Nat) (w : World) :
    Calls Tryz.prog 96 #[.slice wa wn wc, .agg #[.string s, .slice la ln lc]] w fun e w' => e = .returned (.bool (decide ((wn : Int) = ln))) ∧ Below w.heap.size w w' := by
  have hb : Hid (Below w.heap.size w (w.alloc (.cells #[.string s, .slice la ln lc] 81))) := Lib.hid ((Below.refl _ _).alloc (Nat.le_refl _) _)
  go_enter Tryz.func96, Tryz.ntmps96
  go_wp2
  go_ret
  exact ⟨by first | rfl | (congr 2), hb.out⟩

/-! ### each -/
def rgOf (R : List Rg) (j : Nat) : Rg := R.getD j ⟨0, 0, 0, false⟩
theorem rgOf_at {R : List Rg} {j : Nat} (h : j < R.length) : rgOf R j = R[j] := by simp [rgOf, List.getD, h]
set_option maxHeartbeats 1000000 in
theorem each_begun {w : World} {a : Option Addr} {n c : Nat} {R : List Rg} (h : RegRow w (.slice a n c) R) (hn : n = R.length) (hm : n ≤ 100000) :
    Calls Tryz.prog 83 #[.slice a n c, .func (.func 84) #[] #[]] w fun e w' => e = .returned (.slice (some ⟨w.heap.size, 0, none⟩) n n) ∧ w'.ownsRow w.heap.size 62 1 (.slice (some ⟨w.heap.size, 0, none⟩) n n) n ((row n (fun j => iniW (rgOf R j))).map (Value.int .u64)) ∧ Below w.heap.size w w' := by
  have HR := Lib.hid h
  have HN := Lib.hid hn
  clear h hn
  obtain ⟨i0, hi, hz0, hz1, hz2⟩ := info_parts info_u64
  go_enter Tryz.func83, Tryz.ntmps83
  go_wp2_with (at_make; refine wpList_make_full _ rfl _ _ 44 rfl w.heap.size 62 i0 (.int .u64 0) 1 Tryz.underlying44 hi hz0 hz1 .i64 .i64 n n n rfl rfl rfl rfl (by rw [hz2]; omega) (by unfold maxLen; omega) (Nat.le_refl _) ?_; intro w1 hown hg)
  have HI := Lib.hid (fillK_zero .u64 (fun j => iniW (rgOf R j)) n)
  go_loopw [13] (fun i wr => ∃ j : Nat, j ≤ n ∧ i = .int .i64 j ∧ Hid (wr.ownsRow w.heap.size 62 1 (.slice (some ⟨w.heap.size, 0, none⟩) n n) n ((fillF (fun j => iniW (rgOf R j)) n j).map (Value.int .u64))) ∧ Hid (Below w.heap.size w wr)) (fun i _ => n - (intOf i).toNat)
  case atStart => exact ⟨0, Nat.zero_le _, rfl, Lib.hid (by rw [← HI.out]; exact hown), Lib.hid ((Below.refl _ _).grown hg (Nat.le_refl _) (fun _ h => by cases h))⟩
  case round =>
    clear hown hg HI
    obtain ⟨j, hj, rfl, hown, hB⟩ := hrel
    by_cases hlt : j < n
    · have hjR : j < R.length := by rw [← HN.out]; exact hlt
      obtain ⟨g, rfl, hg, b0, b1, b2, b3⟩ := HR.out.at hjR
      have b0 := stepc hB.out hg b0
      have b1 := stepc hB.out hg b1
      have b2 := stepc hB.out hg b2
      have b3 := stepc hB.out hg b3
      rw [← rgOf_at hjR] at b0 b1 b2 b3
      have hca := Lib.hid (fun w => begun1_any (rgOf R j) w)
      have hbx : Hid (Below wr.heap.size wr (wr.alloc (.cells #[.int .u32 (rgOf R j).q, .int .u32 (rgOf R j).d, .int .u32 (rgOf R j).en, .bool (rgOf R j).init] 71))) := Lib.hid ((Below.refl _ _).alloc (Nat.le_refl _) _)
  
      have hwz := hB.out.size
      have hst0 := Lib.hid (fun (w2 : World) (hb2 : Below wr.heap.size wr w2) => own_below hown.out hb2)
      have hset := Lib.hid (fillK_set .u64 (fun j => iniW (rgOf R j)) n j)
      go_wp2_with (go_at_call 84; (with_reducible refine (hca.out _).mono ?_); rintro e w2 ⟨rfl, hb2⟩; have hb3 := nextw hbx.out hb2; have ho2 := hst0.out _ hb3; have hfr := ho2.frozenAt j; obtain ⟨u, hu⟩ := own_some ho2 hlt; have hst := Lib.hid (ho2.stored j (.int .u64 ((fun j => iniW (rgOf R j)) j))).1; have hB2 := Lib.hid (nextw hB.out hb3); clear ho2 hb2 hb3)
      refine ⟨⟨j + 1, by omega, by go_num, Lib.hid ?_, Lib.hid (hB2.out.setCell (Nat.le_refl _) _)⟩, by simp [intOf]; omega⟩
      have e := hst.out
      rw [hset.out] at e
      exact e
    · obtain rfl : j = n := by omega
      go_wp2
      go_ret
      have hO2 := hown.out
      rw [fillF_full] at hO2
      exact ⟨rfl, hO2, hB.out⟩
set_option maxHeartbeats 1000000 in
theorem each_next {w : World} {a : Option Addr} {n c : Nat} {R : List Rg} (h : RegRow w (.slice a n c) R) (hn : n = R.length) (hm : n ≤ 100000) (hl : ∀ r ∈ R, IsLit r.q ∧ IsLit r.d ∧ IsLit r.en) {p : Nat} {wa : Option Addr} {wn wc : Nat} {ws : List Int} (hp : p < w.heap.size) (hc : w.cell? ⟨p, 0, none⟩ = some (.slice wa wn wc)) (hr : Row .u64 w wa wn ws) (hw : Words ws) :
    Calls Tryz.prog 83 #[.slice a n c, .func (.func 101) #[] #[.pointer (some ⟨p, 0, none⟩)]] w fun e w' => e = .returned (.slice (some ⟨w.heap.size, 0, none⟩) n n) ∧ w'.ownsRow w.heap.size 62 1 (.slice (some ⟨w.heap.size, 0, none⟩) n n) n ((row n (fun j => nxW ws (rgOf R j))).map (Value.int .u64)) ∧ Below w.heap.size w w' := by
  have HR := Lib.hid h
  have HN := Lib.hid hn
  have HL := Lib.hid hl
  have HC := Lib.hid (fun w2 (hb : Below w.heap.size w w2) (r : Rg) (hr2 : r ∈ R) => next1_any (w := w2) (Nat.lt_of_lt_of_le hp hb.size) (stepc hb hp hc) (hr.step hb) hw r (hl r hr2).1 (hl r hr2).2.1 (hl r hr2).2.2)
  clear h hn hl hp hc hr hw
  obtain ⟨i0, hi, hz0, hz1, hz2⟩ := info_parts info_u64
  go_enter Tryz.func83, Tryz.ntmps83
  go_wp2_with (at_make; refine wpList_make_full _ rfl _ _ 44 rfl w.heap.size 62 i0 (.int .u64 0) 1 Tryz.underlying44 hi hz0 hz1 .i64 .i64 n n n rfl rfl rfl rfl (by rw [hz2]; omega) (by unfold maxLen; omega) (Nat.le_refl _) ?_; intro w1 hown hg)
  have HI := Lib.hid (fillK_zero .u64 (fun j => nxW ws (rgOf R j)) n)
  go_loopw [13] (fun i wr => ∃ j : Nat, j ≤ n ∧ i = .int .i64 j ∧ Hid (wr.ownsRow w.heap.size 62 1 (.slice (some ⟨w.heap.size, 0, none⟩) n n) n ((fillF (fun j => nxW ws (rgOf R j)) n j).map (Value.int .u64))) ∧ Hid (Below w.heap.size w wr)) (fun i _ => n - (intOf i).toNat)
  case atStart => exact ⟨0, Nat.zero_le _, rfl, Lib.hid (by rw [← HI.out]; exact hown), Lib.hid ((Below.refl _ _).grown hg (Nat.le_refl _) (fun _ h => by cases h))⟩
  case round =>
    clear hown hg HI
    obtain ⟨j, hj, rfl, hown, hB⟩ := hrel
    by_cases hlt : j < n
    · have hjR : j < R.length := by rw [← HN.out]; exact hlt
      obtain ⟨g, rfl, hg, b0, b1, b2, b3⟩ := HR.out.at hjR
      have b0 := stepc hB.out hg b0
      have b1 := stepc hB.out hg b1
      have b2 := stepc hB.out hg b2
      have b3 := stepc hB.out hg b3
      have hmem : rgOf R j ∈ R := by rw [rgOf_at hjR]; exact List.getElem_mem _
      rw [← rgOf_at hjR] at b0 b1 b2 b3
      have hbx : Hid (Below wr.heap.size wr (wr.alloc (.cells #[.int .u32 (rgOf R j).q, .int .u32 (rgOf R j).d, .int .u32 (rgOf R j).en, .bool (rgOf R j).init] 71))) := Lib.hid ((Below.refl _ _).alloc (Nat.le_refl _) _)
      have hca := Lib.hid (HC.out _ (nextw hB.out hbx.out) _ hmem)
  
      have hwz := hB.out.size
      have hst0 := Lib.hid (fun (w2 : World) (hb2 : Below wr.heap.size wr w2) => own_below hown.out hb2)
      have hset := Lib.hid (fillK_set .u64 (fun j => nxW ws (rgOf R j)) n j)
      go_wp2_with (go_at_call 101; (with_reducible refine (hca.out).mono ?_); rintro e w2 ⟨rfl, hb2⟩; have hb3 := nextw hbx.out hb2; have ho2 := hst0.out _ hb3; have hfr := ho2.frozenAt j; obtain ⟨u, hu⟩ := own_some ho2 hlt; have hst := Lib.hid (ho2.stored j (.int .u64 ((fun j => nxW ws (rgOf R j)) j))).1; have hB2 := Lib.hid (nextw hB.out hb3); clear ho2 hb2 hb3)
      refine ⟨⟨j + 1, by omega, by go_num, Lib.hid ?_, Lib.hid (hB2.out.setCell (Nat.le_refl _) _)⟩, by simp [intOf]; omega⟩
      have e := hst.out
      rw [hset.out] at e
      exact e
    · obtain rfl : j = n := by omega
      go_wp2
      go_ret
      have hO2 := hown.out
      rw [fillF_full] at hO2
      exact ⟨rfl, hO2, hB.out⟩
set_option maxHeartbeats 1000000 in
theorem each_node {w : World} {a : Option Addr} {n c : Nat} {I : List Int} (h : Row .i64 w a n I) (hm : n ≤ 400000) {p : Nat} {wa : Option Addr} {wn wc : Nat} {ws : List Int} (hI : ∀ j, j < n → ∃ i : Nat, I.getD j 0 = i ∧ i < wn) (hp : p < w.heap.size) (hc : w.cell? ⟨p, 0, none⟩ = some (.slice wa wn wc)) (hr : Row .u64 w wa wn ws) :
    Calls Tryz.prog 98 #[.slice a n c, .func (.func 100) #[] #[.pointer (some ⟨p, 0, none⟩)]] w fun e w' => e = .returned (.slice (some ⟨w.heap.size, 0, none⟩) n n) ∧ w'.ownsRow w.heap.size 62 1 (.slice (some ⟨w.heap.size, 0, none⟩) n n) n ((row n (fun j => ws.getD (I.getD j 0).toNat 0)).map (Value.int .u64)) ∧ Below w.heap.size w w' := by
  have HR := Lib.hid h
  have HI2 := Lib.hid hI
  have HC := Lib.hid (fun w2 (hb : Below w.heap.size w w2) (i : Nat) (hi : i < wn) => inputs1_any (w := w2) (stepc hb hp hc) (hr.step hb) hi)
  clear h hp hc hr hI
  obtain ⟨i0, hi, hz0, hz1, hz2⟩ := info_parts info_u64
  go_enter Tryz.func98, Tryz.ntmps98
  go_wp2_with (at_make; refine wpList_make_full _ rfl _ _ 44 rfl w.heap.size 62 i0 (.int .u64 0) 1 Tryz.underlying44 hi hz0 hz1 .i64 .i64 n n n rfl rfl rfl rfl (by rw [hz2]; omega) (by unfold maxLen; omega) (Nat.le_refl _) ?_; intro w1 hown hg)
  have HI := Lib.hid (fillK_zero .u64 (fun j => ws.getD (I.getD j 0).toNat 0) n)
  go_loopw [13] (fun i wr => ∃ j : Nat, j ≤ n ∧ i = .int .i64 j ∧ Hid (wr.ownsRow w.heap.size 62 1 (.slice (some ⟨w.heap.size, 0, none⟩) n n) n ((fillF (fun j => ws.getD (I.getD j 0).toNat 0) n j).map (Value.int .u64))) ∧ Hid (Below w.heap.size w wr)) (fun i _ => n - (intOf i).toNat)
  case atStart => exact ⟨0, Nat.zero_le _, rfl, Lib.hid (by rw [← HI.out]; exact hown), Lib.hid ((Below.refl _ _).grown hg (Nat.le_refl _) (fun _ h => by cases h))⟩
  case round =>
    clear hown hg HI
    obtain ⟨j, hj, rfl, hown, hB⟩ := hrel
    by_cases hlt : j < n
    · obtain ⟨b, off, rfl, hb, hcell⟩ := HR.out.at (by omega)
      have b0 := stepc hB.out hb (hcell j hlt)
      obtain ⟨i, ei, hi2⟩ := HI2.out j hlt
      have hFj : Hid ((fun j => ws.getD (I.getD j 0).toNat 0) j = ws.getD i 0) := Lib.hid (by show ws.getD (I.getD j 0).toNat 0 = _; rw [ei, Int.toNat_natCast])
      rw [ei] at b0
      have hbx : Hid (Below wr.heap.size wr wr) := Lib.hid (Below.refl _ _)
      have hca := Lib.hid (HC.out _ (nextw hB.out hbx.out) i hi2)
      rw [← hFj.out] at hca
      clear hcell
  
      have hwz := hB.out.size
      have hst0 := Lib.hid (fun (w2 : World) (hb2 : Below wr.heap.size wr w2) => own_below hown.out hb2)
      have hset := Lib.hid (fillK_set .u64 (fun j => ws.getD (I.getD j 0).toNat 0) n j)
      go_wp2_with (go_at_call 100; (with_reducible refine (hca.out).mono ?_); rintro e w2 ⟨rfl, hb2⟩; have hb3 := nextw hbx.out hb2; have ho2 := hst0.out _ hb3; have hfr := ho2.frozenAt j; obtain ⟨u, hu⟩ := own_some ho2 hlt; have hst := Lib.hid (ho2.stored j (.int .u64 ((fun j => ws.getD (I.getD j 0).toNat 0) j))).1; have hB2 := Lib.hid (nextw hB.out hb3); clear ho2 hb2 hb3)
      refine ⟨⟨j + 1, by omega, by go_num, Lib.hid ?_, Lib.hid (hB2.out.setCell (Nat.le_refl _) _)⟩, by simp [intOf]; omega⟩
      have e := hst.out
      rw [hset.out] at e
      exact e
    · obtain rfl : j = n := by omega
      go_wp2
      go_ret
      have hO2 := hown.out
      rw [fillF_full] at hO2
      exact ⟨rfl, hO2, hB.out⟩
set_option maxHeartbeats 1000000 in
theorem each_lit {w : World} {a : Option Addr} {n c : Nat} {l : List Int} (h : Row .u32 w a n l) (hm : n ≤ 400000) (hl : ∀ x ∈ l, IsLit x) {p : Nat} {wa : Option Addr} {wn wc : Nat} {ws : List Int} (hp : p < w.heap.size) (hc : w.cell? ⟨p, 2, none⟩ = some (.slice wa wn wc)) (hr : Row .u64 w wa wn ws) (hw : Words ws) :
    Calls Tryz.prog 102 #[.slice a n c, .func (.func 103) #[] #[.pointer (some ⟨p, 0, none⟩)]] w fun e w' => e = .returned (.slice (some ⟨w.heap.size, 0, none⟩) n n) ∧ w'.ownsRow w.heap.size 62 1 (.slice (some ⟨w.heap.size, 0, none⟩) n n) n ((row n (fun j => wordV (l.getD j 0) ws)).map (Value.int .u64)) ∧ Below w.heap.size w w' := by
  have HR := Lib.hid h
  have HL := Lib.hid (fun j (hj : j < n) => hl (l.getD j 0) (by simp [List.getD, h.len, hj]))
  have HC := Lib.hid (fun w2 (hb : Below w.heap.size w w2) (x : Int) (hx : IsLit x) => words1_any (w := w2) (stepc hb hp hc) (hr.step hb) hw hx)
  clear h hp hc hr hw hl
  obtain ⟨i0, hi, hz0, hz1, hz2⟩ := info_parts info_u64
  go_enter Tryz.func102, Tryz.ntmps102
  go_wp2_with (at_make; refine wpList_make_full _ rfl _ _ 44 rfl w.heap.size 62 i0 (.int .u64 0) 1 Tryz.underlying44 hi hz0 hz1 .i64 .i64 n n n rfl rfl rfl rfl (by rw [hz2]; omega) (by unfold maxLen; omega) (Nat.le_refl _) ?_; intro w1 hown hg)
  have HI := Lib.hid (fillK_zero .u64 (fun j => wordV (l.getD j 0) ws) n)
  go_loopw [13] (fun i wr => ∃ j : Nat, j ≤ n ∧ i = .int .i64 j ∧ Hid (wr.ownsRow w.heap.size 62 1 (.slice (some ⟨w.heap.size, 0, none⟩) n n) n ((fillF (fun j => wordV (l.getD j 0) ws) n j).map (Value.int .u64))) ∧ Hid (Below w.heap.size w wr)) (fun i _ => n - (intOf i).toNat)
  case atStart => exact ⟨0, Nat.zero_le _, rfl, Lib.hid (by rw [← HI.out]; exact hown), Lib.hid ((Below.refl _ _).grown hg (Nat.le_refl _) (fun _ h => by cases h))⟩
  case round =>
    clear hown hg HI
    obtain ⟨j, hj, rfl, hown, hB⟩ := hrel
    by_cases hlt : j < n
    · obtain ⟨b, off, rfl, hb, hcell⟩ := HR.out.at (by omega)
      have b0 := stepc hB.out hb (hcell j hlt)
      have hx := HL.out j hlt
      obtain ⟨y, hy⟩ : ∃ y, l.getD j 0 = y := ⟨_, rfl⟩
      rw [hy] at b0 hx
      have hFj : Hid ((fun j => wordV (l.getD j 0) ws) j = wordV y ws) := Lib.hid (by show wordV (l.getD j 0) ws = _; rw [hy])
      have hbx : Hid (Below wr.heap.size wr wr) := Lib.hid (Below.refl _ _)
      have hca := Lib.hid (HC.out _ (nextw hB.out hbx.out) _ hx)
      rw [← hFj.out] at hca
      clear hcell hy
  
      have hwz := hB.out.size
      have hst0 := Lib.hid (fun (w2 : World) (hb2 : Below wr.heap.size wr w2) => own_below hown.out hb2)
      have hset := Lib.hid (fillK_set .u64 (fun j => wordV (l.getD j 0) ws) n j)
      go_wp2_with (go_at_call 103; (with_reducible refine (hca.out).mono ?_); rintro e w2 ⟨rfl, hb2⟩; have hb3 := nextw hbx.out hb2; have ho2 := hst0.out _ hb3; have hfr := ho2.frozenAt j; obtain ⟨u, hu⟩ := own_some ho2 hlt; have hst := Lib.hid (ho2.stored j (.int .u64 ((fun j => wordV (l.getD j 0) ws) j))).1; have hB2 := Lib.hid (nextw hB.out hb3); clear ho2 hb2 hb3)
      refine ⟨⟨j + 1, by omega, by go_num, Lib.hid ?_, Lib.hid (hB2.out.setCell (Nat.le_refl _) _)⟩, by simp [intOf]; omega⟩
      have e := hst.out
      rw [hset.out] at e
      exact e
    · obtain rfl : j = n := by omega
      go_wp2
      go_ret
      have hO2 := hown.out
      rw [fillF_full] at hO2
      exact ⟨rfl, hO2, hB.out⟩
end Go.Proofs.YtlkainmkhofpaaaGreat
end

section
namespace Go.Proofs.YtlkainmkhofpaaaGreat
open Go.RowKit Go.Maps Bits
set_option maxRecDepth 100000

/-- Steps, as a call reads them. -/
structure StRow (w : World) (a : Option Addr) (n : Nat) (S : Nat → StV) : Prop where
  le : n ≤ 9223372036854775807
  cells : n = 0 ∨ ∃ b off, a = some ⟨b, off, none⟩ ∧ b < w.heap.size ∧ ∀ i, i < n → w.cell? ⟨b, off + i * 7, none⟩ = some (.int .i64 (S i).what) ∧ w.cell? ⟨b, off + i * 7 + 1, none⟩ = some (.string (S i).name) ∧ w.cell? ⟨b, off + i * 7 + 2, none⟩ = some (.int .i64 (S i).n) ∧ w.cell? ⟨b, off + i * 7 + 3, none⟩ = some (.int .u32 (S i).a) ∧ w.cell? ⟨b, off + i * 7 + 4, none⟩ = some (.int .u32 (S i).b) ∧ w.cell? ⟨b, off + i * 7 + 5, none⟩ = some (.int .u32 (S i).c) ∧ w.cell? ⟨b, off + i * 7 + 6, none⟩ = some (.slice (S i).la (S i).ln (S i).lc)
  ok : ∀ i, i < n → StOk w (S i)
theorem StRow.at {w : World} {a : Option Addr} {n : Nat} {S : Nat → StV} (h : StRow w a n S) {i : Nat} (hi : i < n) : ∃ b off, a = some ⟨b, off, none⟩ ∧ b < w.heap.size ∧ w.cell? ⟨b, off + i * 7, none⟩ = some (.int .i64 (S i).what) ∧ w.cell? ⟨b, off + i * 7 + 1, none⟩ = some (.string (S i).name) ∧ w.cell? ⟨b, off + i * 7 + 2, none⟩ = some (.int .i64 (S i).n) ∧ w.cell? ⟨b, off + i * 7 + 3, none⟩ = some (.int .u32 (S i).a) ∧ w.cell? ⟨b, off + i * 7 + 4, none⟩ = some (.int .u32 (S i).b) ∧ w.cell? ⟨b, off + i * 7 + 5, none⟩ = some (.int .u32 (S i).c) ∧ w.cell? ⟨b, off + i * 7 + 6, none⟩ = some (.slice (S i).la (S i).ln (S i).lc) := by
  rcases h.cells with h0 | ⟨b, off, e, hb, hc⟩
  · omega
  · exact ⟨b, off, e, hb, hc i hi⟩

theorem AtN.copy {w0 w : World} {B C : Nat} {q : NPl} {N : Nt} (h : AtN w0 B C w q N) {rest : List Int} (hg : Good N rest) (hS : Small N) :
    Calls Tryz.prog 10 #[.pointer (some ⟨B, 0, none⟩)] w fun e w' => ∃ q2 : NPl, e = .returned (.pointer (some ⟨q2.b, 0, none⟩)) ∧ NetIs w' q2 N ∧ Below w.heap.size w w' ∧ ∀ k, q2.has k → w.heap.size ≤ k := by
  have := NCopy_any h.is hg (by have := hS.g; omega) (by have := hS.ins; omega) (by have := hS.regs; omega) (by have := hS.outs; omega)
  rw [h.b] at this
  exact this
/-- A step, and what is beside. -/
theorem AtN.does {w0 w : World} {B C : Nat} {q : NPl} {N : Nt} (h : AtN w0 B C w q N) {rest : List Int} (hg : Good N rest) (hS : Small N) {s : StV} (hs : StOk w s) {N' : Nt} {ls : List Int} {r : Int} (hd : doesN N s = (N', ls, r)) :
    Calls Tryz.prog 34 #[.pointer (some ⟨B, 0, none⟩), .agg #[.int .i64 s.what, .string s.name, .int .i64 s.n, .int .u32 s.a, .int .u32 s.b, .int .u32 s.c, .slice s.la s.ln s.lc]] w fun e w' => ∃ (a : Option Addr) (c : Nat) (q' : NPl), e = .returned (.tuple #[.slice a ls.length c, .int .i64 r]) ∧ LRow w' a ls.length c ls ∧ AtN w0 B C w' q' N' ∧ Kept q.has w w' ∧ NoLits w q.has := by
  have := Does_any w q N rest s h.is hg hS hs trivial
  rw [hd, h.b] at this
  exact this.mono fun _ w' ⟨a, c, he, hl, q', hn⟩ => ⟨a, c, q', he, hl, h.next hn, hn.kept, h.is.noLits⟩
theorem upto0 (F H : Bool) : Upto ⟨newG F H, sTop, [], [], []⟩ 0 := ⟨by simp [newG], by simp, by simp, by simp⟩
theorem neq0 {r : Int} (h : ¬ r = 0) : (r != 0) = true := by simpa using h
theorem neq1 {r : Int} (h : r = 0) : (r != 0) = false := by simpa using h
theorem AtN.nodes {w0 w : World} {B C : Nat} {q : NPl} {N : Nt} (h : AtN w0 B C w q N) (h0 : 0 < N.g.nodes.length) :
    Calls Tryz.prog 26 #[.pointer (some ⟨C, 0, none⟩)] w fun e w' => e = .returned (.int .i64 N.g.nodes.length) ∧ w = w' := by
  have := nodes_any h.is.g.lay h0
  rw [show q.g.b = C from h.gb] at this
  exact this
theorem AtN.inputs {w0 w : World} {B C : Nat} {q : NPl} {N : Nt} (h : AtN w0 B C w q N) (hW : Wf N.g) (hm : N.g.nodes.length ≤ 200000) :
    Calls Tryz.prog 99 #[.pointer (some ⟨C, 0, none⟩)] w fun e w' => ∃ (a : Option Addr) (c : Nat), e = .returned (.slice a N.g.inputs.length c) ∧ w'.ownsRow w.heap.size 3 1 (.slice a N.g.inputs.length c) N.g.inputs.length (N.g.inputs.map (Value.int .i64)) ∧ Below w.heap.size w w' := by
  have := InputsOf_any h.is.g hW hm
  rw [show q.g.b = C from h.gb] at this
  exact this
theorem of_even (k : Nat) (hk : k ≤ 200000) (w : World) : Calls Tryz.prog 27 #[.int .i64 (k : Int), .bool false] w fun e w' => e = .returned (.tuple #[.int .u32 (2 * (k : Int)), .int .i64 0]) ∧ w = w' := by
  have h := of_any k false (by omega) w
  obtain ⟨e1, e2⟩ := of_val (n := k) false (by omega) (by omega)
  rw [show ofV k false = 2 * (k : Int) from e1.symm, e2] at h
  exact h
end Go.Proofs.YtlkainmkhofpaaaGreat
end

section
namespace Go.Proofs.YtlkainmkhofpaaaGreat
open Go.RowKit Go.Maps
set_option maxRecDepth 100000

def rNd (n : Nd) : List Value := [.bool (!n.gate), .int .u32 n.a, .int .u32 n.b]
def rCells : List Nd → List Value
  | [] => []
  | _ :: ns => [.bool false, .int .u32 0, .int .u32 0] ++ ns.flatMap rNd
theorem rCells_push (ns : List Nd) (h : 0 < ns.length) (n : Nd) : rCells (ns ++ [n]) = rCells ns ++ rNd n := by
  cases ns with
  | nil => simp at h
  | cons m ns => simp [rCells]
theorem rTail_len (ns : List Nd) : (ns.flatMap rNd).length = ns.length * 3 := by
  induction ns with
  | nil => rfl
  | cons n ns ih => rw [List.flatMap_cons, List.length_append, ih]; simp [rNd]; omega
theorem rCells_len (ns : List Nd) : (rCells ns).length = ns.length * 3 := by
  cases ns with
  | nil => rfl
  | cons m ns => simp only [rCells, List.length_append, rTail_len, List.length_cons, List.length_nil]; omega
theorem rTail_at (ns : List Nd) (i : Nat) (n : Nd) (h : ns[i]? = some n) : (ns.flatMap rNd)[i * 3]? = some (.bool (!n.gate)) ∧ (ns.flatMap rNd)[i * 3 + 1]? = some (.int .u32 n.a) ∧ (ns.flatMap rNd)[i * 3 + 2]? = some (.int .u32 n.b) := by
  induction ns generalizing i with
  | nil => simp at h
  | cons m ns ih =>
    rw [List.flatMap_cons]
    match i with
    | 0 => simp at h; subst h; exact ⟨rfl, rfl, rfl⟩
    | i + 1 =>
      have := ih i (by simpa using h)
      have hl : (rNd m).length = 3 := rfl
      rw [List.getElem?_append_right (by omega), List.getElem?_append_right (by omega), List.getElem?_append_right (by omega)]
      rw [show (i + 1) * 3 - (rNd m).length = i * 3 by omega, show (i + 1) * 3 + 1 - (rNd m).length = i * 3 + 1 by omega, show (i + 1) * 3 + 2 - (rNd m).length = i * 3 + 2 by omega]
      exact this
theorem rCells_at (ns : List Nd) (i : Nat) (n : Nd) (h0 : 0 < i) (h : ns[i]? = some n) : (rCells ns)[i * 3]? = some (.bool (!n.gate)) ∧ (rCells ns)[i * 3 + 1]? = some (.int .u32 n.a) ∧ (rCells ns)[i * 3 + 2]? = some (.int .u32 n.b) := by
  cases ns with
  | nil => simp at h
  | cons m ns =>
    obtain ⟨i, rfl⟩ : ∃ k, i = k + 1 := ⟨i - 1, by omega⟩
    have := rTail_at ns i n (by simpa using h)
    have hl : ([.bool false, .int .u32 0, .int .u32 0] : List Value).length = 3 := rfl
    simp only [rCells]
    rw [List.getElem?_append_right (by omega), List.getElem?_append_right (by omega), List.getElem?_append_right (by omega)]
    rw [show (i + 1) * 3 - ([.bool false, .int .u32 0, .int .u32 0] : List Value).length = i * 3 by omega, show (i + 1) * 3 + 1 - ([.bool false, .int .u32 0, .int .u32 0] : List Value).length = i * 3 + 1 by omega, show (i + 1) * 3 + 2 - ([.bool false, .int .u32 0, .int .u32 0] : List Value).length = i * 3 + 2 by omega]
    exact this

/-- A document's graph that a call has made for itself. -/
structure Rf (w0 w : World) (B g c : Nat) (F H : Bool) (ns : List Nd) : Prop where
  box : w.heap[B]? = some (.cells #[.bool F, .bool H, .slice (some ⟨g, 0, none⟩) ns.length c] 127 (0, 0))
  row : w.ownsRow w0.heap.size 129 3 (.slice (some ⟨g, 0, none⟩) ns.length c) ns.length (rCells ns)
  lo : w0.heap.size ≤ B
  below : Below w0.heap.size w0 w
  pos : 0 < ns.length

/-- The document's graphs' blocks. -/
def RK (w : World) (k : Nat) : Prop := ∃ cur T fz, w.heap[k]? = some (.cells cur T fz) ∧ (T = 127 ∨ T = 129)
theorem RK.trans {a b c : World} (h : Kept (RK a) a b) (k : Kept (RK b) b c) : Kept (RK a) a c :=
  h.trans k (fun x hx => by
    by_cases hl : x < a.heap.size
    · by_cases hn : RK a x
      · exact .inl hn
      · obtain ⟨cur, T, fz, h1, h2⟩ := hx
        rw [h.block x hl hn] at h1
        exact absurd ⟨cur, T, fz, h1, h2⟩ hn
    · exact .inr (by omega))
theorem RK.refl (w : World) : Kept (RK w) w w := Kept.refl _ _
theorem RK.of_below {w w2 : World} (h : Below w.heap.size w w2) : Kept (RK w) w w2 := Kept.of_below h

theorem Rf.blt {w0 w : World} {B g c : Nat} {F H : Bool} {ns : List Nd} (h : Rf w0 w B g c F H ns) : B < w.heap.size := (Array.getElem?_eq_some_iff.1 h.box).1
theorem Rf.glt {w0 w : World} {B g c : Nat} {F H : Bool} {ns : List Nd} (h : Rf w0 w B g c F H ns) : g < w.heap.size := own_lt h.row
theorem Rf.gty {w0 w : World} {B g c : Nat} {F H : Bool} {ns : List Nd} (h : Rf w0 w B g c F H ns) : ∃ cur, w.heap[g]? = some (.cells cur 129 (0, 0)) := own_type h.row rfl
theorem Rf.ne {w0 w : World} {B g c : Nat} {F H : Bool} {ns : List Nd} (h : Rf w0 w B g c F H ns) : B ≠ g := by
  obtain ⟨cur, hc⟩ := h.gty
  intro e
  have := h.box
  rw [e, hc] at this; simp at this
theorem Rf.step {w0 w w2 : World} {B g c : Nat} {F H : Bool} {ns : List Nd} (h : Rf w0 w B g c F H ns) (hb : Below w.heap.size w w2) : Rf w0 w2 B g c F H ns :=
  ⟨(hb.block _ h.blt).trans h.box, own_below h.row hb, h.lo, nextw h.below hb, h.pos⟩
theorem Rf.cells {w0 w : World} {B g c : Nat} {F H : Bool} {ns : List Nd} (h : Rf w0 w B g c F H ns) :
    w.cell? ⟨B, 0, none⟩ = some (.bool F) ∧ w.cell? ⟨B, 1, none⟩ = some (.bool H) ∧ w.cell? ⟨B, 2, none⟩ = some (.slice (some ⟨g, 0, none⟩) ns.length c) ∧ ∀ o, w.frozen? ⟨B, o, none⟩ = false := by
  have hb := h.box
  refine ⟨?_, ?_, ?_, fun o => ?_⟩ <;> simp [World.cell?, World.frozen?, hb]
theorem Rf.node {w0 w : World} {B g c : Nat} {F H : Bool} {ns : List Nd} (h : Rf w0 w B g c F H ns) {i : Nat} (h0 : 0 < i) (hi : i < ns.length) :
    w.cell? ⟨g, i * 3, none⟩ = some (.bool (!(ns.getD i ⟨false, 0, 0⟩).gate)) ∧ w.cell? ⟨g, i * 3 + 1, none⟩ = some (.int .u32 (ns.getD i ⟨false, 0, 0⟩).a) ∧ w.cell? ⟨g, i * 3 + 2, none⟩ = some (.int .u32 (ns.getD i ⟨false, 0, 0⟩).b) := by
  obtain ⟨e0, e1, e2⟩ := rCells_at ns i (ns.getD i ⟨false, 0, 0⟩) h0 (by simp [List.getD, hi])
  rw [h.row.cellAt _ (by omega), h.row.cellAt _ (by omega), h.row.cellAt _ (by omega)]
  exact ⟨e0, e1, e2⟩
/-- Kept while blocks of other types change. -/
theorem Rf.kept {w0 w w2 : World} {B g c : Nat} {F H : Bool} {ns : List Nd} (h : Rf w0 w B g c F H ns) {K : Nat → Prop} (hk : Kept K w w2) (hK : ∀ k, K k → w0.heap.size ≤ k) (h1 : ¬ K B) (h2 : ¬ K g) : Rf w0 w2 B g c F H ns :=
  ⟨(hk.block _ h.blt h1).trans h.box, own_keptF h.row hk (fun k e => by simp [Value.ownBlock] at e; subst e; exact h2), h.lo, h.below.trans (hk.below hK h.below.size), h.pos⟩
theorem Rf.aside {w0 w w2 : World} {B g c : Nat} {F H : Bool} {ns : List Nd} (h : Rf w0 w B g c F H ns) {p : Pl} {G : Gr} (hI : Is w p G) (hp : ∀ k, p.has k → w0.heap.size ≤ k) (hk : Kept p.has w w2) : Rf w0 w2 B g c F H ns := by
  obtain ⟨cur, hc⟩ := h.gty
  exact h.kept hk hp (hI.other h.box (by decide) (by decide) (by decide)) (hI.other hc (by decide) (by decide) (by decide))
theorem AtG.aside {w0 w w2 : World} {B : Nat} {p : Pl} {G : Gr} (h : AtG w0 B w p G) (hk : Kept (RK w) w w2) (hb : Below w0.heap.size w0 w2) : AtG w0 B w2 p G :=
  ⟨h.is.beside hk (fun k ⟨cur, T, fz, hc, hT⟩ => h.is.other hc (by rcases hT with rfl | rfl <;> decide) (by rcases hT with rfl | rfl <;> decide) (by rcases hT with rfl | rfl <;> decide)), h.wf, h.b, h.out, hb, h.len⟩

/-- Behind the append and the store. -/
theorem rf_next {w0 w wa w1 : World} {B g c : Nat} {F H : Bool} {ns : List Nd} (h : Rf w0 w B g c F H ns) (hb : Below w.heap.size w wa) (n : Nd) {g1 cap1 : Nat}
    (hown : w1.ownsRow w0.heap.size 129 3 (.slice (some ⟨g1, 0, none⟩) (ns.length + 1) cap1) (ns.length + 1) (rCells ns ++ [.bool (!n.gate), .int .u32 n.a, .int .u32 n.b]))
    (hg : wa.grownBy w1 (some g)) (hat : some g = some g1 ∨ g1 = wa.heap.size) :
    Rf w0 (w1.setCell ⟨B, 2, none⟩ (.slice (some ⟨g1, 0, none⟩) (ns.length + 1) cap1)) B g1 cap1 F H (ns ++ [n])
      ∧ Kept (RK w) w (w1.setCell ⟨B, 2, none⟩ (.slice (some ⟨g1, 0, none⟩) (ns.length + 1) cap1)) := by
  have hlt := h.blt
  have hsz := hb.size
  have hne := h.ne
  obtain ⟨cur, hcur⟩ := h.gty
  have hbox1 : w1.heap[B]? = some (.cells #[.bool F, .bool H, .slice (some ⟨g, 0, none⟩) ns.length c] 127 (0, 0)) := by
    rw [hg.block B (by omega) (by simpa using hne), hb.block _ hlt]; exact h.box
  have hgb : g1 ≠ B := by
    rcases hat with e | e
    · simp at e; omega
    · omega
  have hK : Kept (RK w) w (w1.setCell ⟨B, 2, none⟩ (.slice (some ⟨g1, 0, none⟩) (ns.length + 1) cap1)) := by
    refine ⟨hg.os.trans hb.os, hg.tape.trans hb.tape, hg.output.trans hb.output, by have := hg.size; simp [World.setCell]; omega, fun k hk hn => ?_⟩
    have n1 : k ≠ B := fun e => hn (by subst e; exact ⟨_, _, _, h.box, .inl rfl⟩)
    have n2 : k ≠ g := fun e => hn (by subst e; exact ⟨_, _, _, hcur, .inr rfl⟩)
    rw [Below.heap_setCell _ _ _ _ n1, hg.block k (by omega) (by simpa using n2), hb.block k hk]
  refine ⟨⟨?_, ?_, h.lo, ?_, by simp⟩, hK⟩
  · have := box_set (o := 2) hbox1 (.slice (some ⟨g1, 0, none⟩) (ns.length + 1) cap1)
    simpa using this
  · rw [rCells_push _ h.pos, List.length_append, List.length_singleton]
    refine ⟨hown.1, ?_⟩
    rcases hown.2 with h0 | ⟨g', cap', cur', hv, hg', hh, r⟩
    · exact .inl h0
    · simp at hv
      obtain ⟨rfl, rfl⟩ := hv
      exact .inr ⟨_, _, cur', rfl, hg', by rw [Below.heap_setCell _ _ _ _ hgb]; exact hh, r⟩
  · have h1 : Below w0.heap.size w0 w1 := (nextw h.below hb).grown hg (Nat.le_trans h.below.size hsz) (fun k hk => by
      cases hk
      have := own_ge h.row g rfl
      exact this)
    exact h1.setCell h.lo _

theorem info_rnode : (Tryz.prog.info? 129).map (fun i => (i.zero, i.size, i.bytes)) = some (some (.agg #[.bool false, .int .u32 0, .int .u32 0]), 3, 12) := by kernel_rfl

theorem rnew_any (F H : Bool) (w0 w : World) (h0 : Below w0.heap.size w0 w) :
    Calls Tryz.prog 68 #[.bool F, .bool H] w fun e w' => ∃ B g c, e = .returned (.pointer (some ⟨B, 0, none⟩)) ∧ Rf w0 w' B g c F H [⟨false, 0, 0⟩] ∧ Below w.heap.size w w' := by
  obtain ⟨i0, hi, hz0, hz1, hz2⟩ := info_parts info_rnode
  go_enter Tryz.func68, Tryz.ntmps68
  go_wp2_with (at_make; refine wpList_make_full _ rfl _ _ 125 rfl w.heap.size 129 i0 (.agg #[.bool false, .int .u32 0, .int .u32 0]) 3 Tryz.underlying125 hi hz0 hz1 .i64 .i64 1 1 1 rfl rfl rfl rfl (by rw [hz2]; omega) (by unfold maxLen; omega) (Nat.le_refl _) ?_; intro w1 hown hg; have hB1 : Below w.heap.size w w1 := (Below.refl w.heap.size w).grown hg (Nat.le_refl _) (fun _ h => by cases h))
  go_ret
  refine ⟨w1.heap.size, w.heap.size, 1, rfl, ⟨Deep.blk_alloc_new _ _, ?_, Nat.le_trans h0.size hB1.size, nextw h0 (hB1.alloc hB1.size _), by simp⟩, hB1.alloc hB1.size _⟩
  have e : (madeCells (Value.agg #[Value.bool false, Value.int IntKind.u32 0, Value.int IntKind.u32 0]).cells (1 * 3)).toList = rCells [⟨false, 0, 0⟩] := by kernel_rfl
  rw [e] at hown
  exact own_base (hown.alloc _) h0.size

/-- How many inputs there are below i. -/
def cI (ns : List Nd) : Nat → Nat
  | 0 => 0
  | i + 1 => cI ns i + if (decide (0 < i) && !(ns.getD i ⟨false, 0, 0⟩).gate) = true then 1 else 0
theorem cI_lt (ns : List Nd) (i : Nat) : cI ns (i + 1) ≤ i := by
  induction i with
  | zero => simp [cI]
  | succ i ih => rw [cI]; split <;> omega
theorem rinputs_any {w0 w : World} {B g c : Nat} {F H : Bool} {ns : List Nd} (h : Rf w0 w B g c F H ns) (hm : ns.length ≤ 200000) :
    Calls Tryz.prog 130 #[.pointer (some ⟨B, 0, none⟩)] w fun e w' => e = .returned (.int .i64 (cI ns ns.length)) ∧ w = w' := by
  obtain ⟨-, -, c2, -⟩ := h.cells
  have hn := Lib.hid (fun i (h0 : 0 < i) (hi : i < ns.length) => (h.node h0 hi).1)
  have hp := h.pos
  generalize hk : ns.length = k at *
  have hs := Lib.hid (fun i (h0 : 0 < i) => show cI ns (i + 1) = cI ns i + if (!(ns.getD i ⟨false, 0, 0⟩).gate) = true then 1 else 0 by simp [cI, h0])
  have hl := Lib.hid (cI_lt ns)
  have h1 := Lib.hid (show cI ns 1 = 0 from by simp [cI])
  generalize cI ns = C at *
  clear h hk
  go_enter Tryz.func130, Tryz.ntmps130
  go_wp2
  go_loopw [3, 4] (fun s3 s4 wr => wr = w ∧ ∃ i : Nat, s4 = .int .i64 i ∧ s3 = .int .i64 (C i) ∧ 0 < i ∧ i ≤ k) (fun _ s4 _ => k - (intOf s4).toNat)
  case atStart => exact ⟨rfl, 1, rfl, by rw [h1.out]; rfl, by omega, by omega⟩
  case round =>
    obtain ⟨rfl, i, rfl, rfl, h0, hi⟩ := hrel
    by_cases hlt : i < k
    · have hc := hn.out i h0 hlt
      have hsi := Lib.hid (hs.out i h0)
      have hli := Lib.hid (hl.out i)
      have hCi : C i ≤ i := by have := hsi.out; have := hli.out; omega
      generalize (!(ns.getD i ⟨false, 0, 0⟩).gate) = b at *
      generalize C i = m at *
      cases b with
      | false =>
        go_wp2
        go_roundw
        case rel => exact ⟨trivial, i + 1, by go_num, by rw [hsi.out]; rfl, by omega, by omega⟩
        case measure => simp [intOf]; omega
      | true =>
        go_wp2
        go_roundw
        case rel => exact ⟨trivial, i + 1, by go_num, by rw [hsi.out]; go_num, by omega, by omega⟩
        case measure => simp [intOf]; omega
    · obtain rfl : i = k := by omega
      go_wp2
      go_ret
      exact ⟨rfl, rfl⟩

theorem rgates_any {w0 w : World} {B g c : Nat} {F H : Bool} {ns : List Nd} (h : Rf w0 w B g c F H ns) (hm : ns.length ≤ 200000) :
    Calls Tryz.prog 129 #[.pointer (some ⟨B, 0, none⟩)] w fun e w' => (∃ m : Int, e = .returned (.int .i64 m) ∧ m < ns.length) ∧ Below w.heap.size w w' := by
  obtain ⟨-, -, c2, -⟩ := h.cells
  have hi := Lib.hid (fun w2 (hb : Below w.heap.size w w2) => rinputs_any (h.step hb) hm)
  have hBn := Lib.hid (fun n => below_draws w n)
  have hp := h.pos
  have hl : cI ns ns.length < ns.length := by
    have := cI_lt ns (ns.length - 1)
    rw [show ns.length - 1 + 1 = ns.length by omega] at this
    omega
  generalize cI ns ns.length = m at *
  generalize hk : ns.length = k at *
  have c2' := fun n => stepc (hBn.out n) (h.blt) c2
  clear h hk
  go_enter Tryz.func129, Tryz.ntmps129
  go_wp2
  go_quiet (first | (go_at_call 130; with_reducible exact Calls.quiet_of_same ((hi.out _ (hBn.out _)).mono (fun _ _ h => ⟨h.1, h.2.symm⟩))))
  go_wp2
  go_ret
  exact ⟨⟨(k : Int) - 1 - m, by congr 2, by omega⟩, below_draws _ _⟩

theorem rinput_any {w0 w : World} {B g c : Nat} {F H : Bool} {ns : List Nd} (h : Rf w0 w B g c F H ns) (hm : ns.length ≤ 200000) :
    Calls Tryz.prog 79 #[.pointer (some ⟨B, 0, none⟩)] w fun e w' => (∃ v, e = .returned v) ∧ ∃ g1 c1, Rf w0 w' B g1 c1 F H (ns ++ [⟨false, 0, 0⟩]) ∧ Kept (RK w) w w' := by
  obtain ⟨-, -, c2, f2⟩ := h.cells
  have f2 := f2 2
  have hlt := h.blt
  have hglt := h.glt
  have HR := Lib.hid h.row
  have HF := Lib.hid h
  have hne2 : some B ≠ Value.ownBlock (.slice (some ⟨g, 0, none⟩) ns.length c) := by have := h.ne; simpa [Value.ownBlock] using this
  have hp := h.pos
  have hs0 := h.below.size
  obtain ⟨i0, hi, hz0, hz1, hz2⟩ := info_parts info_rnode
  have g0 : decide ((278528 : Int) < (ns.length : Int)) = false := by simp; omega
  generalize hk : ns.length = k at *
  have hk := Lib.hid hk
  clear h
  go_enter Tryz.func79, Tryz.ntmps79
  go_wp2_with (at_builtin; refine wpList_append_lies _ rfl _ _ 125 rfl w0.heap.size 129 i0 (.agg #[.bool false, .int .u32 0, .int .u32 0]) 3 12 Tryz.underlying125 hi hz0 hz1 hz2 rfl (by decide) (.slice (some ⟨g, 0, none⟩) k c) k _ rfl (HR.out.alloc _) ⟨w.heap.size, 0, none⟩ 1 1 [.bool true, .int .u32 0, .int .u32 0] rfl rfl (news3 (by go_simp) (by go_simp) (by go_simp)) (by simp [Value.oneCell']) (by decide) (by unfold maxLen; omega) (by omega) (by simp; omega) _ rfl ?_; intro g1 cap1 w1 hown1 hgrow1 hat1 hlt1; obtain ⟨x0, x1⟩ := grow_box hgrow1 (b := B) (o := 2) (v := .slice (some ⟨g, 0, none⟩) k c) (by go_simp) (by go_simp) hne2)
  go_ret2
  obtain ⟨r1, r2⟩ := rf_next HF.out ((Below.refl _ _).alloc (Nat.le_refl _) _) ⟨false, 0, 0⟩ (by rw [hk.out]; exact hown1) hgrow1 hat1
  rw [hk.out] at r1 r2
  exact ⟨⟨_, rfl⟩, _, _, r1, r2⟩
end Go.Proofs.YtlkainmkhofpaaaGreat
end
