/-
  Two that hold the same are told to be the same: rows, buses, graphs, netlists.
  Two graphs, two netlists that hold the same are told to be the same.
  The chapter's rows (tells).
  Simulations: what is told of each register, node, literal; a run that begins; a cycle's words of literals; the next run.
  Steps that came in; a netlist under any steps but Input of the graph itself.
-/
import Derived.Test.YtafoohdndlhbnaaGreatFSSH
import Derived.ChangeKeysEq
import Derived.Test.YtafoohdndlhbnaaGreatFSSK
import Derived.Test.YtafoohdndlhbnaaGreatFSSD
import Derived.Deep.CutBlock
import Derived.Deep.DeepCutAuto
section
namespace Go.Proofs.YtafoohdndlhbnaaGreat
open Go.RowKit Go.Maps Bits Go.ChangeMaps
set_option maxRecDepth 100000

theorem bnef' {a b : Int} (h : a = b) : (a != b) = false := by simp [h]
theorem plainT : Tryz.prog.plainKey 40 = true ∧ Tryz.prog.plainKey 4 = true := ⟨by kernel_rfl, by kernel_rfl⟩
theorem part_lit (xs : Array Value) (W : World) {i : Nat} {v : Value} (h : xs[i]? = some v) : (part 40 xs i).run Tryz.prog W = .ok v W := run_part_plain W plainT.1 h
theorem part_bool (xs : Array Value) (W : World) {i : Nat} {v : Value} (h : xs[i]? = some v) : (part 4 xs i).run Tryz.prog W = .ok v W := run_part_plain W plainT.2 h
theorem reg_eqIn (q d e : Int) (i : Bool) (W : World) : (Op.equalIn 10000 71 (.agg #[.int .u32 q, .int .u32 d, .int .u32 e, .bool i]) (.agg #[.int .u32 q, .int .u32 d, .int .u32 e, .bool i])).run Tryz.prog W = .ok true W := by
  rw [run_equalIn_agg W 9999 _ _ _ (by kernel_rfl) (by kernel_rfl)]
  have p0 := part_lit #[.int .u32 q, .int .u32 d, .int .u32 e, .bool i] W (i := 0) (v := .int .u32 q) rfl
  have p1 := part_lit #[.int .u32 q, .int .u32 d, .int .u32 e, .bool i] W (i := 1) (v := .int .u32 d) rfl
  have p2 := part_lit #[.int .u32 q, .int .u32 d, .int .u32 e, .bool i] W (i := 2) (v := .int .u32 e) rfl
  have p3 := part_bool #[.int .u32 q, .int .u32 d, .int .u32 e, .bool i] W (i := 3) (v := .bool i) rfl
  have e0 := run_equalIn_int (P := Tryz.prog) W 9998 40 .u32 .u32 q q Tryz.underlying40
  have e1 := run_equalIn_int (P := Tryz.prog) W 9998 40 .u32 .u32 d d Tryz.underlying40
  have e2 := run_equalIn_int (P := Tryz.prog) W 9998 40 .u32 .u32 e e Tryz.underlying40
  have e3 := run_equalIn_bool' (P := Tryz.prog) W 9998 4 i i Tryz.underlying4
  generalize hX : #[Value.int .u32 q, .int .u32 d, .int .u32 e, .bool i] = X at *
  clear hX
  simp only [Program.fieldsOf, Tryz.underlying71]
  simp [Op.eqFields, p0, p1, p2, p3, e0, e1, e2, e3]
theorem info_litS : ∃ i, Tryz.prog.info? 40 = some i := Option.isSome_iff_exists.1 (by kernel_rfl)
theorem cells_litS : Tryz.prog.cellsOf 40 = 1 := by kernel_rfl
theorem node_eqIn (g : Bool) (a b : Int) (W : World) : (Op.equalIn 10000 143 (.agg #[.bool g, .int .u32 a, .int .u32 b]) (.agg #[.bool g, .int .u32 a, .int .u32 b])).run Tryz.prog W = .ok true W := by
  rw [run_equalIn_agg W 9999 _ _ _ (by kernel_rfl) (by kernel_rfl)]
  obtain ⟨i0, hi0⟩ := info_litS
  have p0 := part_bool #[.bool g, .int .u32 a, .int .u32 b] W (i := 0) (v := .bool g) rfl
  have p1 : (part 141 #[.bool g, .int .u32 a, .int .u32 b] 1).run Tryz.prog W = .ok (.agg #[.int .u32 a, .int .u32 b]) W := by kernel_rfl
  have e0 := run_equalIn_bool' (P := Tryz.prog) W 9998 4 g g Tryz.underlying4
  have e1 : (Op.equalIn 9999 141 (.agg #[.int .u32 a, .int .u32 b]) (.agg #[.int .u32 a, .int .u32 b])).run Tryz.prog W = .ok true W := by
    rw [run_equalIn_array W 9998 _ _ Tryz.underlying141 hi0, cells_litS]
    have q0 := part_lit #[.int .u32 a, .int .u32 b] W (i := 0) (v := .int .u32 a) rfl
    have q1 := part_lit #[.int .u32 a, .int .u32 b] W (i := 1) (v := .int .u32 b) rfl
    have f0 := run_equalIn_int (P := Tryz.prog) W 9997 40 .u32 .u32 a a Tryz.underlying40
    have f1 := run_equalIn_int (P := Tryz.prog) W 9997 40 .u32 .u32 b b Tryz.underlying40
    rw [show List.range 2 = [0, 1] from rfl]
    simp [Op.eqItems, q0, q1, f0, f1]
  generalize hX : #[Value.bool g, .int .u32 a, .int .u32 b] = X at *
  clear hX
  simp only [Program.fieldsOf, Tryz.underlying143]
  simp [Op.eqFields, p0, p1, e0, e1]
theorem nodeAt_cells {w : World} {a : Option Addr} {n c : Nat} {ns : List Nd} (h : w.ownsRow 0 143 3 (.slice a n c) n (nodeCells ns)) (hn : n = ns.length) {j : Nat} (hj : j < ns.length) :
    ∃ g : Nat, a = some ⟨g, 0, none⟩ ∧ g < w.heap.size ∧ w.cell? ⟨g, j * 3, none⟩ = some (.bool ns[j].gate) ∧ w.cell? ⟨g, j * 3 + 1, none⟩ = some (.int .u32 ns[j].a) ∧ w.cell? ⟨g, j * 3 + 2, none⟩ = some (.int .u32 ns[j].b) := by
  obtain ⟨g, cap, e⟩ := own_form h (by omega)
  rw [e] at h
  have hl := nodeCells_len ns
  obtain ⟨e0, e1, e2⟩ := nodeCells_at ns j ns[j] (List.getElem?_eq_getElem hj)
  simp only [Value.slice.injEq] at e
  refine ⟨g, e.1, own_lt h, ?_, ?_, ?_⟩
  · rw [h.cellAt _ (by omega), Nat.mul_comm j 3, e0]
  · rw [h.cellAt _ (by omega), Nat.mul_comm j 3, e1]
  · rw [h.cellAt _ (by omega), Nat.mul_comm j 3, e2]
end Go.Proofs.YtafoohdndlhbnaaGreat
end

section
namespace Go.Proofs.YtafoohdndlhbnaaGreat
open Go.RowKit Go.Maps Bits Go.ChangeMaps
set_option maxRecDepth 100000

theorem opt_eqIn (F H : Bool) (W : World) : (Op.equalIn 10000 23 (.agg #[.bool F, .bool H]) (.agg #[.bool F, .bool H])).run Tryz.prog W = .ok true W := by
  rw [run_equalIn_agg W 9999 _ _ _ (by kernel_rfl) (by kernel_rfl)]
  have p0 := part_bool #[.bool F, .bool H] W (i := 0) (v := .bool F) rfl
  have p1 := part_bool #[.bool F, .bool H] W (i := 1) (v := .bool H) rfl
  have e0 := run_equalIn_bool' (P := Tryz.prog) W 9998 4 F F Tryz.underlying4
  have e1 := run_equalIn_bool' (P := Tryz.prog) W 9998 4 H H Tryz.underlying4
  generalize hX : #[Value.bool F, .bool H] = X at *
  clear hX
  simp only [Program.fieldsOf, Tryz.underlying23]
  simp [Op.eqFields, p0, p1, e0, e1]
end Go.Proofs.YtafoohdndlhbnaaGreat
end

section
namespace Go.Proofs.YtafoohdndlhbnaaGreat
open Go.RowKit Go.Maps Bits
set_option maxRecDepth 100000

end Go.Proofs.YtafoohdndlhbnaaGreat
end

section
namespace Go.Proofs.YtafoohdndlhbnaaGreat
open Go.RowKit Go.Maps Bits Num
set_option maxRecDepth 100000

/-- A row of words that nobody writes. -/
structure WR (w : World) (a : Option Addr) (n c : Nat) (l : List Int) : Prop where
  len : l.length = n
  own : w.ownsRow 0 62 1 (.slice a n c) n (l.map (Value.int .u64))
  words : Words l
theorem WR.below {w w' : World} {a : Option Addr} {n c : Nat} {l : List Int} (h : WR w a n c l) (hb : Below w.heap.size w w') : WR w' a n c l := ⟨h.len, own_below h.own hb, h.words⟩
theorem WR.row {w : World} {a : Option Addr} {n c : Nat} {l : List Int} (h : WR w a n c l) : Row .u64 w a n l := Row.of_own h.own h.len (own_maxLen h.own)
theorem WR.keptF {F : Nat → Prop} {w w' : World} {a : Option Addr} {n c : Nat} {l : List Int} (h : WR w a n c l) (hk : Kept F w w') (hF : ∀ k cur fz, F k → w.heap[k]? ≠ some (.cells cur 62 fz)) : WR w' a n c l :=
  ⟨h.len, own_keptF h.own hk (fun k e hf => by obtain ⟨cur, hh⟩ := own_type h.own e; exact hF k cur _ hf hh), h.words⟩
theorem WR.nil (w : World) : WR w none 0 0 [] := ⟨rfl, own_nil _ _ _, fun i => by simp⟩
/-- A row of words that a call has made. -/
def NewW (w : World) (n : Nat) (F : Nat → Int) (e : Ending) (w' : World) : Prop := ∃ g : Nat, e = .returned (.slice (some ⟨g, 0, none⟩) n n) ∧ w'.ownsRow w.heap.size 62 1 (.slice (some ⟨g, 0, none⟩) n n) n ((row n F).map (Value.int .u64)) ∧ Below w.heap.size w w'

theorem begun1_any (r : Rg) (w : World) :
    Calls Tryz.prog 80 #[.agg #[.int .u32 r.q, .int .u32 r.d, .int .u32 r.en, .bool r.init]] w fun e w' => e = .returned (.int .u64 (iniW r)) ∧ Below w.heap.size w w' := by
  obtain ⟨q, d, en, init⟩ := r
  have hb : Hid (Below w.heap.size w (w.alloc (.cells #[.int .u32 q, .int .u32 d, .int .u32 en, .bool init] 71))) := Lib.hid ((Below.refl _ _).alloc (Nat.le_refl _) _)
  unfold iniW
  cases init
  · go_enter Tryz.func80, Tryz.ntmps80
    go_wp2
    go_ret
    exact ⟨rfl, hb.out⟩
  · go_enter Tryz.func80, Tryz.ntmps80
    go_wp2
    go_ret
    exact ⟨rfl, hb.out⟩
theorem next1_any {w : World} {p : Nat} {a : Option Addr} {n c : Nat} {ws : List Int} (hp : p < w.heap.size) (hc : w.cell? ⟨p, 0, none⟩ = some (.slice a n c)) (hr : Row .u64 w a n ws) (hw : Words ws) (r : Rg) (hq : IsLit r.q) (hd : IsLit r.d) (hen : IsLit r.en) :
    Calls Tryz.prog 97 #[.agg #[.int .u32 r.q, .int .u32 r.d, .int .u32 r.en, .bool r.init], .pointer (some ⟨p, 0, none⟩)] w fun e w' => e = .returned (.int .u64 (nxW ws r)) ∧ Below w.heap.size w w' := by
  obtain ⟨q, d, en, init⟩ := r
  have hb : Below w.heap.size w (w.alloc (.cells #[.int .u32 q, .int .u32 d, .int .u32 en, .bool init] 71)) := (Below.refl _ _).alloc (Nat.le_refl _) _
  have hc1 := stepc hb hp hc
  have k0 : (w.alloc (.cells #[.int .u32 q, .int .u32 d, .int .u32 en, .bool init] 71)).cell? ⟨w.heap.size, 0, none⟩ = some (.int .u32 q) := by simp [go_sem]
  have k1 : (w.alloc (.cells #[.int .u32 q, .int .u32 d, .int .u32 en, .bool init] 71)).cell? ⟨w.heap.size, 1, none⟩ = some (.int .u32 d) := by simp [go_sem]
  have k2 : (w.alloc (.cells #[.int .u32 q, .int .u32 d, .int .u32 en, .bool init] 71)).cell? ⟨w.heap.size, 2, none⟩ = some (.int .u32 en) := by simp [go_sem]
  unfold nxW
  simp only []
  simp only [] at hq hd hen
  generalize hw1 : w.alloc (.cells #[.int .u32 q, .int .u32 d, .int .u32 en, .bool init] 71) = w1 at *
  have hwq := Lib.hid (fun w2 (hb2 : Below w1.heap.size w1 w2) => word_any q a n c ws hq w2 ((hr.step hb).step hb2) hw)
  have hwd := Lib.hid (fun w2 (hb2 : Below w1.heap.size w1 w2) => word_any d a n c ws hd w2 ((hr.step hb).step hb2) hw)
  have hwe := Lib.hid (fun w2 (hb2 : Below w1.heap.size w1 w2) => word_any en a n c ws hen w2 ((hr.step hb).step hb2) hw)
  have hrf := Lib.hid (Below.refl w1.heap.size w1)
  have hBn := Lib.hid (fun k => below_draws w1 k)
  have hb := Lib.hid hb
  have hlz : w.heap.size < w1.heap.size := World.block_lt_of_cell? w1 _ k0
  have hpl : p < w1.heap.size := World.block_lt_of_cell? w1 _ hc1
  have k0' := fun k => stepc (hBn.out k) hlz k0
  have k1' := fun k => stepc (hBn.out k) hlz k1
  have hc' := fun k => stepc (hBn.out k) hpl hc1
  generalize wordV q ws = X at *
  generalize wordV d ws = Y at *
  generalize wordV en ws = Z at *
  clear hr hw hc
  go_enter Tryz.func97, Tryz.ntmps97
  go_wp2_with (go_at_call 93; (with_reducible refine (hwe.out _ hrf.out).mono ?_); rintro e w2 ⟨rfl, rfl⟩)
  go_quiet (first | (go_at_call 93; with_reducible exact Calls.quiet_of_same ((hwd.out _ (hBn.out _)).mono (fun _ _ h => ⟨h.1, h.2.symm⟩))) | (go_at_call 93; with_reducible exact Calls.quiet_of_same ((hwq.out _ (hBn.out _)).mono (fun _ _ h => ⟨h.1, h.2.symm⟩))))
  go_wp2
  go_ret
  exact ⟨rfl, nextw hb.out (hBn.out _)⟩
theorem inputs1_any {w : World} {p : Nat} {a : Option Addr} {n c : Nat} {ws : List Int} (hc : w.cell? ⟨p, 0, none⟩ = some (.slice a n c)) (hr : Row .u64 w a n ws) {i : Nat} (hi : i < n) :
    Calls Tryz.prog 96 #[.int .i64 i, .pointer (some ⟨p, 0, none⟩)] w fun e w' => e = .returned (.int .u64 (ws.getD i 0)) ∧ Below w.heap.size w w' := by
  obtain ⟨b, off, rfl, hb, hcell⟩ := hr.at (by omega)
  have hci := hcell i hi
  clear hcell
  generalize ws.getD i 0 = x at *
  go_enter Tryz.func96, Tryz.ntmps96
  go_wp2
  go_ret
  exact ⟨rfl, Below.refl _ _⟩
theorem words1_any {w : World} {p : Nat} {a : Option Addr} {n c : Nat} {ws : List Int} (hc : w.cell? ⟨p, 2, none⟩ = some (.slice a n c)) (hr : Row .u64 w a n ws) (hw : Words ws) {l : Int} (hl : IsLit l) :
    Calls Tryz.prog 99 #[.int .u32 l, .pointer (some ⟨p, 0, none⟩)] w fun e w' => e = .returned (.int .u64 (wordV l ws)) ∧ Below w.heap.size w w' := by
  have h := Lib.hid (word_any l a n c ws hl w hr hw)
  clear hr hw
  go_enter Tryz.func99, Tryz.ntmps99
  go_wp2_with (go_at_call 93; (with_reducible refine h.out.mono ?_); rintro e w2 ⟨rfl, rfl⟩)
  go_ret
  exact ⟨rfl, Below.refl _ _⟩
theorem fits1_any (wa : Option Addr) (wn wc : Nat) (s : ByteArray) (la : Option Addr) (ln lc : Nat) (w : World) :
    Calls Tryz.prog 92 #[.slice wa wn wc, .agg #[.string s, .slice la ln lc]] w fun e w' => e = .returned (.bool (decide ((wn : Int) = ln))) ∧ Below w.heap.size w w' := by
  have hb : Hid (Below w.heap.size w (w.alloc (.cells #[.string s, .slice la ln lc] 81))) := Lib.hid ((Below.refl _ _).alloc (Nat.le_refl _) _)
  go_enter Tryz.func92, Tryz.ntmps92
  go_wp2
  go_ret
  exact ⟨by first | rfl | (congr 2), hb.out⟩

/-! ### each -/
def rgOf (R : List Rg) (j : Nat) : Rg := R.getD j ⟨0, 0, 0, false⟩
theorem rgOf_at {R : List Rg} {j : Nat} (h : j < R.length) : rgOf R j = R[j] := by simp [rgOf, List.getD, h]
set_option maxHeartbeats 1000000 in
theorem each_begun {w : World} {a : Option Addr} {n c : Nat} {R : List Rg} (h : RegRow w (.slice a n c) R) (hn : n = R.length) (hm : n ≤ 100000) :
    Calls Tryz.prog 79 #[.slice a n c, .func (.func 80) #[] #[]] w fun e w' => e = .returned (.slice (some ⟨w.heap.size, 0, none⟩) n n) ∧ w'.ownsRow w.heap.size 62 1 (.slice (some ⟨w.heap.size, 0, none⟩) n n) n ((row n (fun j => iniW (rgOf R j))).map (Value.int .u64)) ∧ Below w.heap.size w w' := by
  have HR := Lib.hid h
  have HN := Lib.hid hn
  clear h hn
  obtain ⟨i0, hi, hz0, hz1, hz2⟩ := info_parts info_u64
  go_enter Tryz.func79, Tryz.ntmps79
  go_wp2_with (at_make; refine wpList_make_full _ rfl _ _ 44 rfl w.heap.size 62 i0 (.int .u64 0) 1 Tryz.underlying44 hi hz0 hz1 .i64 .i64 n n n rfl rfl rfl rfl (by rw [hz2]; omega) (by unfold maxLen; omega) (Nat.le_refl _) ?_; intro w1 hown hg)
  have HI := Lib.hid (fillK_zero .u64 (fun j => iniW (rgOf R j)) n)
  go_loopw [13] (fun i wr => ∃ j : Nat, j ≤ n ∧ i = .int .i64 j ∧ Hid (wr.ownsRow w.heap.size 62 1 (.slice (some ⟨w.heap.size, 0, none⟩) n n) n ((fillF (fun j => iniW (rgOf R j)) n j).map (Value.int .u64))) ∧ Hid (Below w.heap.size w wr)) (fun i _ => n - (intOf i).toNat)
  case atStart => exact ⟨0, Nat.zero_le _, rfl, Lib.hid (by rw [← HI.out]; exact hown), Lib.hid ((Below.refl _ _).grown hg (Nat.le_refl _) (fun _ h => by cases h))⟩
  case round =>
    clear hown hg HI
    obtain ⟨j, hj, rfl, hown, hB⟩ := hrel
    by_cases hlt : j < n
    · have hjR : j < R.length := by rw [← HN.out]; exact hlt
      obtain ⟨g, rfl, hg, b0, b1, b2, b3⟩ := HR.out.at hjR
      have b0 := stepc hB.out hg b0
      have b1 := stepc hB.out hg b1
      have b2 := stepc hB.out hg b2
      have b3 := stepc hB.out hg b3
      rw [← rgOf_at hjR] at b0 b1 b2 b3
      have hca := Lib.hid (fun w => begun1_any (rgOf R j) w)
      have hbx : Hid (Below wr.heap.size wr (wr.alloc (.cells #[.int .u32 (rgOf R j).q, .int .u32 (rgOf R j).d, .int .u32 (rgOf R j).en, .bool (rgOf R j).init] 71))) := Lib.hid ((Below.refl _ _).alloc (Nat.le_refl _) _)
  
      have hwz := hB.out.size
      have hst0 := Lib.hid (fun (w2 : World) (hb2 : Below wr.heap.size wr w2) => own_below hown.out hb2)
      have hset := Lib.hid (fillK_set .u64 (fun j => iniW (rgOf R j)) n j)
      go_wp2_with (go_at_call 80; (with_reducible refine (hca.out _).mono ?_); rintro e w2 ⟨rfl, hb2⟩; have hb3 := nextw hbx.out hb2; have ho2 := hst0.out _ hb3; have hfr := ho2.frozenAt j; obtain ⟨u, hu⟩ := own_some ho2 hlt; have hst := Lib.hid (ho2.stored j (.int .u64 ((fun j => iniW (rgOf R j)) j))).1; have hB2 := Lib.hid (nextw hB.out hb3); clear ho2 hb2 hb3)
      refine ⟨⟨j + 1, by omega, by go_num, Lib.hid ?_, Lib.hid (hB2.out.setCell (Nat.le_refl _) _)⟩, by simp [intOf]; omega⟩
      have e := hst.out
      rw [hset.out] at e
      exact e
    · obtain rfl : j = n := by omega
      go_wp2
      go_ret
      have hO2 := hown.out
      rw [fillF_full] at hO2
      exact ⟨rfl, hO2, hB.out⟩
set_option maxHeartbeats 1000000 in
theorem each_next {w : World} {a : Option Addr} {n c : Nat} {R : List Rg} (h : RegRow w (.slice a n c) R) (hn : n = R.length) (hm : n ≤ 100000) (hl : ∀ r ∈ R, IsLit r.q ∧ IsLit r.d ∧ IsLit r.en) {p : Nat} {wa : Option Addr} {wn wc : Nat} {ws : List Int} (hp : p < w.heap.size) (hc : w.cell? ⟨p, 0, none⟩ = some (.slice wa wn wc)) (hr : Row .u64 w wa wn ws) (hw : Words ws) :
    Calls Tryz.prog 79 #[.slice a n c, .func (.func 97) #[] #[.pointer (some ⟨p, 0, none⟩)]] w fun e w' => e = .returned (.slice (some ⟨w.heap.size, 0, none⟩) n n) ∧ w'.ownsRow w.heap.size 62 1 (.slice (some ⟨w.heap.size, 0, none⟩) n n) n ((row n (fun j => nxW ws (rgOf R j))).map (Value.int .u64)) ∧ Below w.heap.size w w' := by
  have HR := Lib.hid h
  have HN := Lib.hid hn
  have HL := Lib.hid hl
  have HC := Lib.hid (fun w2 (hb : Below w.heap.size w w2) (r : Rg) (hr2 : r ∈ R) => next1_any (w := w2) (Nat.lt_of_lt_of_le hp hb.size) (stepc hb hp hc) (hr.step hb) hw r (hl r hr2).1 (hl r hr2).2.1 (hl r hr2).2.2)
  clear h hn hl hp hc hr hw
  obtain ⟨i0, hi, hz0, hz1, hz2⟩ := info_parts info_u64
  go_enter Tryz.func79, Tryz.ntmps79
  go_wp2_with (at_make; refine wpList_make_full _ rfl _ _ 44 rfl w.heap.size 62 i0 (.int .u64 0) 1 Tryz.underlying44 hi hz0 hz1 .i64 .i64 n n n rfl rfl rfl rfl (by rw [hz2]; omega) (by unfold maxLen; omega) (Nat.le_refl _) ?_; intro w1 hown hg)
  have HI := Lib.hid (fillK_zero .u64 (fun j => nxW ws (rgOf R j)) n)
  go_loopw [13] (fun i wr => ∃ j : Nat, j ≤ n ∧ i = .int .i64 j ∧ Hid (wr.ownsRow w.heap.size 62 1 (.slice (some ⟨w.heap.size, 0, none⟩) n n) n ((fillF (fun j => nxW ws (rgOf R j)) n j).map (Value.int .u64))) ∧ Hid (Below w.heap.size w wr)) (fun i _ => n - (intOf i).toNat)
  case atStart => exact ⟨0, Nat.zero_le _, rfl, Lib.hid (by rw [← HI.out]; exact hown), Lib.hid ((Below.refl _ _).grown hg (Nat.le_refl _) (fun _ h => by cases h))⟩
  case round =>
    clear hown hg HI
    obtain ⟨j, hj, rfl, hown, hB⟩ := hrel
    by_cases hlt : j < n
    · have hjR : j < R.length := by rw [← HN.out]; exact hlt
      obtain ⟨g, rfl, hg, b0, b1, b2, b3⟩ := HR.out.at hjR
      have b0 := stepc hB.out hg b0
      have b1 := stepc hB.out hg b1
      have b2 := stepc hB.out hg b2
      have b3 := stepc hB.out hg b3
      have hmem : rgOf R j ∈ R := by rw [rgOf_at hjR]; exact List.getElem_mem _
      rw [← rgOf_at hjR] at b0 b1 b2 b3
      have hbx : Hid (Below wr.heap.size wr (wr.alloc (.cells #[.int .u32 (rgOf R j).q, .int .u32 (rgOf R j).d, .int .u32 (rgOf R j).en, .bool (rgOf R j).init] 71))) := Lib.hid ((Below.refl _ _).alloc (Nat.le_refl _) _)
      have hca := Lib.hid (HC.out _ (nextw hB.out hbx.out) _ hmem)
  
      have hwz := hB.out.size
      have hst0 := Lib.hid (fun (w2 : World) (hb2 : Below wr.heap.size wr w2) => own_below hown.out hb2)
      have hset := Lib.hid (fillK_set .u64 (fun j => nxW ws (rgOf R j)) n j)
      go_wp2_with (go_at_call 97; (with_reducible refine (hca.out).mono ?_); rintro e w2 ⟨rfl, hb2⟩; have hb3 := nextw hbx.out hb2; have ho2 := hst0.out _ hb3; have hfr := ho2.frozenAt j; obtain ⟨u, hu⟩ := own_some ho2 hlt; have hst := Lib.hid (ho2.stored j (.int .u64 ((fun j => nxW ws (rgOf R j)) j))).1; have hB2 := Lib.hid (nextw hB.out hb3); clear ho2 hb2 hb3)
      refine ⟨⟨j + 1, by omega, by go_num, Lib.hid ?_, Lib.hid (hB2.out.setCell (Nat.le_refl _) _)⟩, by simp [intOf]; omega⟩
      have e := hst.out
      rw [hset.out] at e
      exact e
    · obtain rfl : j = n := by omega
      go_wp2
      go_ret
      have hO2 := hown.out
      rw [fillF_full] at hO2
      exact ⟨rfl, hO2, hB.out⟩
set_option maxHeartbeats 1000000 in
theorem each_node {w : World} {a : Option Addr} {n c : Nat} {I : List Int} (h : Row .i64 w a n I) (hm : n ≤ 400000) {p : Nat} {wa : Option Addr} {wn wc : Nat} {ws : List Int} (hI : ∀ j, j < n → ∃ i : Nat, I.getD j 0 = i ∧ i < wn) (hp : p < w.heap.size) (hc : w.cell? ⟨p, 0, none⟩ = some (.slice wa wn wc)) (hr : Row .u64 w wa wn ws) :
    Calls Tryz.prog 94 #[.slice a n c, .func (.func 96) #[] #[.pointer (some ⟨p, 0, none⟩)]] w fun e w' => e = .returned (.slice (some ⟨w.heap.size, 0, none⟩) n n) ∧ w'.ownsRow w.heap.size 62 1 (.slice (some ⟨w.heap.size, 0, none⟩) n n) n ((row n (fun j => ws.getD (I.getD j 0).toNat 0)).map (Value.int .u64)) ∧ Below w.heap.size w w' := by
  have HR := Lib.hid h
  have HI2 := Lib.hid hI
  have HC := Lib.hid (fun w2 (hb : Below w.heap.size w w2) (i : Nat) (hi : i < wn) => inputs1_any (w := w2) (stepc hb hp hc) (hr.step hb) hi)
  clear h hp hc hr hI
  obtain ⟨i0, hi, hz0, hz1, hz2⟩ := info_parts info_u64
  go_enter Tryz.func94, Tryz.ntmps94
  go_wp2_with (at_make; refine wpList_make_full _ rfl _ _ 44 rfl w.heap.size 62 i0 (.int .u64 0) 1 Tryz.underlying44 hi hz0 hz1 .i64 .i64 n n n rfl rfl rfl rfl (by rw [hz2]; omega) (by unfold maxLen; omega) (Nat.le_refl _) ?_; intro w1 hown hg)
  have HI := Lib.hid (fillK_zero .u64 (fun j => ws.getD (I.getD j 0).toNat 0) n)
  go_loopw [13] (fun i wr => ∃ j : Nat, j ≤ n ∧ i = .int .i64 j ∧ Hid (wr.ownsRow w.heap.size 62 1 (.slice (some ⟨w.heap.size, 0, none⟩) n n) n ((fillF (fun j => ws.getD (I.getD j 0).toNat 0) n j).map (Value.int .u64))) ∧ Hid (Below w.heap.size w wr)) (fun i _ => n - (intOf i).toNat)
  case atStart => exact ⟨0, Nat.zero_le _, rfl, Lib.hid (by rw [← HI.out]; exact hown), Lib.hid ((Below.refl _ _).grown hg (Nat.le_refl _) (fun _ h => by cases h))⟩
  case round =>
    clear hown hg HI
    obtain ⟨j, hj, rfl, hown, hB⟩ := hrel
    by_cases hlt : j < n
    · obtain ⟨b, off, rfl, hb, hcell⟩ := HR.out.at (by omega)
      have b0 := stepc hB.out hb (hcell j hlt)
      obtain ⟨i, ei, hi2⟩ := HI2.out j hlt
      have hFj : Hid ((fun j => ws.getD (I.getD j 0).toNat 0) j = ws.getD i 0) := Lib.hid (by show ws.getD (I.getD j 0).toNat 0 = _; rw [ei, Int.toNat_natCast])
      rw [ei] at b0
      have hbx : Hid (Below wr.heap.size wr wr) := Lib.hid (Below.refl _ _)
      have hca := Lib.hid (HC.out _ (nextw hB.out hbx.out) i hi2)
      rw [← hFj.out] at hca
      clear hcell
  
      have hwz := hB.out.size
      have hst0 := Lib.hid (fun (w2 : World) (hb2 : Below wr.heap.size wr w2) => own_below hown.out hb2)
      have hset := Lib.hid (fillK_set .u64 (fun j => ws.getD (I.getD j 0).toNat 0) n j)
      go_wp2_with (go_at_call 96; (with_reducible refine (hca.out).mono ?_); rintro e w2 ⟨rfl, hb2⟩; have hb3 := nextw hbx.out hb2; have ho2 := hst0.out _ hb3; have hfr := ho2.frozenAt j; obtain ⟨u, hu⟩ := own_some ho2 hlt; have hst := Lib.hid (ho2.stored j (.int .u64 ((fun j => ws.getD (I.getD j 0).toNat 0) j))).1; have hB2 := Lib.hid (nextw hB.out hb3); clear ho2 hb2 hb3)
      refine ⟨⟨j + 1, by omega, by go_num, Lib.hid ?_, Lib.hid (hB2.out.setCell (Nat.le_refl _) _)⟩, by simp [intOf]; omega⟩
      have e := hst.out
      rw [hset.out] at e
      exact e
    · obtain rfl : j = n := by omega
      go_wp2
      go_ret
      have hO2 := hown.out
      rw [fillF_full] at hO2
      exact ⟨rfl, hO2, hB.out⟩
set_option maxHeartbeats 1000000 in
theorem each_lit {w : World} {a : Option Addr} {n c : Nat} {l : List Int} (h : Row .u32 w a n l) (hm : n ≤ 400000) (hl : ∀ x ∈ l, IsLit x) {p : Nat} {wa : Option Addr} {wn wc : Nat} {ws : List Int} (hp : p < w.heap.size) (hc : w.cell? ⟨p, 2, none⟩ = some (.slice wa wn wc)) (hr : Row .u64 w wa wn ws) (hw : Words ws) :
    Calls Tryz.prog 98 #[.slice a n c, .func (.func 99) #[] #[.pointer (some ⟨p, 0, none⟩)]] w fun e w' => e = .returned (.slice (some ⟨w.heap.size, 0, none⟩) n n) ∧ w'.ownsRow w.heap.size 62 1 (.slice (some ⟨w.heap.size, 0, none⟩) n n) n ((row n (fun j => wordV (l.getD j 0) ws)).map (Value.int .u64)) ∧ Below w.heap.size w w' := by
  have HR := Lib.hid h
  have HL := Lib.hid (fun j (hj : j < n) => hl (l.getD j 0) (by simp [List.getD, h.len, hj]))
  have HC := Lib.hid (fun w2 (hb : Below w.heap.size w w2) (x : Int) (hx : IsLit x) => words1_any (w := w2) (stepc hb hp hc) (hr.step hb) hw hx)
  clear h hp hc hr hw hl
  obtain ⟨i0, hi, hz0, hz1, hz2⟩ := info_parts info_u64
  go_enter Tryz.func98, Tryz.ntmps98
  go_wp2_with (at_make; refine wpList_make_full _ rfl _ _ 44 rfl w.heap.size 62 i0 (.int .u64 0) 1 Tryz.underlying44 hi hz0 hz1 .i64 .i64 n n n rfl rfl rfl rfl (by rw [hz2]; omega) (by unfold maxLen; omega) (Nat.le_refl _) ?_; intro w1 hown hg)
  have HI := Lib.hid (fillK_zero .u64 (fun j => wordV (l.getD j 0) ws) n)
  go_loopw [13] (fun i wr => ∃ j : Nat, j ≤ n ∧ i = .int .i64 j ∧ Hid (wr.ownsRow w.heap.size 62 1 (.slice (some ⟨w.heap.size, 0, none⟩) n n) n ((fillF (fun j => wordV (l.getD j 0) ws) n j).map (Value.int .u64))) ∧ Hid (Below w.heap.size w wr)) (fun i _ => n - (intOf i).toNat)
  case atStart => exact ⟨0, Nat.zero_le _, rfl, Lib.hid (by rw [← HI.out]; exact hown), Lib.hid ((Below.refl _ _).grown hg (Nat.le_refl _) (fun _ h => by cases h))⟩
  case round =>
    clear hown hg HI
    obtain ⟨j, hj, rfl, hown, hB⟩ := hrel
    by_cases hlt : j < n
    · obtain ⟨b, off, rfl, hb, hcell⟩ := HR.out.at (by omega)
      have b0 := stepc hB.out hb (hcell j hlt)
      have hx := HL.out j hlt
      obtain ⟨y, hy⟩ : ∃ y, l.getD j 0 = y := ⟨_, rfl⟩
      rw [hy] at b0 hx
      have hFj : Hid ((fun j => wordV (l.getD j 0) ws) j = wordV y ws) := Lib.hid (by show wordV (l.getD j 0) ws = _; rw [hy])
      have hbx : Hid (Below wr.heap.size wr wr) := Lib.hid (Below.refl _ _)
      have hca := Lib.hid (HC.out _ (nextw hB.out hbx.out) _ hx)
      rw [← hFj.out] at hca
      clear hcell hy
  
      have hwz := hB.out.size
      have hst0 := Lib.hid (fun (w2 : World) (hb2 : Below wr.heap.size wr w2) => own_below hown.out hb2)
      have hset := Lib.hid (fillK_set .u64 (fun j => wordV (l.getD j 0) ws) n j)
      go_wp2_with (go_at_call 99; (with_reducible refine (hca.out).mono ?_); rintro e w2 ⟨rfl, hb2⟩; have hb3 := nextw hbx.out hb2; have ho2 := hst0.out _ hb3; have hfr := ho2.frozenAt j; obtain ⟨u, hu⟩ := own_some ho2 hlt; have hst := Lib.hid (ho2.stored j (.int .u64 ((fun j => wordV (l.getD j 0) ws) j))).1; have hB2 := Lib.hid (nextw hB.out hb3); clear ho2 hb2 hb3)
      refine ⟨⟨j + 1, by omega, by go_num, Lib.hid ?_, Lib.hid (hB2.out.setCell (Nat.le_refl _) _)⟩, by simp [intOf]; omega⟩
      have e := hst.out
      rw [hset.out] at e
      exact e
    · obtain rfl : j = n := by omega
      go_wp2
      go_ret
      have hO2 := hown.out
      rw [fillF_full] at hO2
      exact ⟨rfl, hO2, hB.out⟩
end Go.Proofs.YtafoohdndlhbnaaGreat
end

section
namespace Go.Proofs.YtafoohdndlhbnaaGreat
open Go.RowKit Go.Maps Bits
set_option maxRecDepth 100000

/-- Steps, as a call reads them. -/
structure StRow (w : World) (a : Option Addr) (n : Nat) (S : Nat → StV) : Prop where
  le : n ≤ 9223372036854775807
  cells : n = 0 ∨ ∃ b off, a = some ⟨b, off, none⟩ ∧ b < w.heap.size ∧ ∀ i, i < n → w.cell? ⟨b, off + i * 7, none⟩ = some (.int .i64 (S i).what) ∧ w.cell? ⟨b, off + i * 7 + 1, none⟩ = some (.string (S i).name) ∧ w.cell? ⟨b, off + i * 7 + 2, none⟩ = some (.int .i64 (S i).n) ∧ w.cell? ⟨b, off + i * 7 + 3, none⟩ = some (.int .u32 (S i).a) ∧ w.cell? ⟨b, off + i * 7 + 4, none⟩ = some (.int .u32 (S i).b) ∧ w.cell? ⟨b, off + i * 7 + 5, none⟩ = some (.int .u32 (S i).c) ∧ w.cell? ⟨b, off + i * 7 + 6, none⟩ = some (.slice (S i).la (S i).ln (S i).lc)
  ok : ∀ i, i < n → StOk w (S i)
theorem StRow.at {w : World} {a : Option Addr} {n : Nat} {S : Nat → StV} (h : StRow w a n S) {i : Nat} (hi : i < n) : ∃ b off, a = some ⟨b, off, none⟩ ∧ b < w.heap.size ∧ w.cell? ⟨b, off + i * 7, none⟩ = some (.int .i64 (S i).what) ∧ w.cell? ⟨b, off + i * 7 + 1, none⟩ = some (.string (S i).name) ∧ w.cell? ⟨b, off + i * 7 + 2, none⟩ = some (.int .i64 (S i).n) ∧ w.cell? ⟨b, off + i * 7 + 3, none⟩ = some (.int .u32 (S i).a) ∧ w.cell? ⟨b, off + i * 7 + 4, none⟩ = some (.int .u32 (S i).b) ∧ w.cell? ⟨b, off + i * 7 + 5, none⟩ = some (.int .u32 (S i).c) ∧ w.cell? ⟨b, off + i * 7 + 6, none⟩ = some (.slice (S i).la (S i).ln (S i).lc) := by
  rcases h.cells with h0 | ⟨b, off, e, hb, hc⟩
  · omega
  · exact ⟨b, off, e, hb, hc i hi⟩

theorem AtN.copy {w0 w : World} {B C : Nat} {q : NPl} {N : Nt} (h : AtN w0 B C w q N) {rest : List Int} (hg : Good N rest) (hS : Small N) :
    Calls Tryz.prog 8 #[.pointer (some ⟨B, 0, none⟩)] w fun e w' => ∃ q2 : NPl, e = .returned (.pointer (some ⟨q2.b, 0, none⟩)) ∧ NetIs w' q2 N ∧ Below w.heap.size w w' ∧ ∀ k, q2.has k → w.heap.size ≤ k := by
  have := NCopy_any h.is hg (by have := hS.g; omega) (by have := hS.ins; omega) (by have := hS.regs; omega) (by have := hS.outs; omega)
  rw [h.b] at this
  exact this
/-- A step, and what is beside. -/
theorem AtN.does {w0 w : World} {B C : Nat} {q : NPl} {N : Nt} (h : AtN w0 B C w q N) {rest : List Int} (hg : Good N rest) (hS : Small N) {s : StV} (hs : StOk w s) {N' : Nt} {ls : List Int} {r : Int} (hd : doesN N s = (N', ls, r)) :
    Calls Tryz.prog 30 #[.pointer (some ⟨B, 0, none⟩), .agg #[.int .i64 s.what, .string s.name, .int .i64 s.n, .int .u32 s.a, .int .u32 s.b, .int .u32 s.c, .slice s.la s.ln s.lc]] w fun e w' => ∃ (a : Option Addr) (c : Nat) (q' : NPl), e = .returned (.tuple #[.slice a ls.length c, .int .i64 r]) ∧ LRow w' a ls.length c ls ∧ AtN w0 B C w' q' N' ∧ Kept q.has w w' ∧ NoLits w q.has := by
  have := Does_any w q N rest s h.is hg hS hs trivial
  rw [hd, h.b] at this
  exact this.mono fun _ w' ⟨a, c, he, hl, q', hn⟩ => ⟨a, c, q', he, hl, h.next hn, hn.kept, h.is.noLits⟩
theorem upto0 (F H : Bool) : Upto ⟨newG F H, sTop, [], [], []⟩ 0 := ⟨by simp [newG], by simp, by simp, by simp⟩
theorem neq0 {r : Int} (h : ¬ r = 0) : (r != 0) = true := by simpa using h
theorem neq1 {r : Int} (h : r = 0) : (r != 0) = false := by simpa using h
theorem AtN.nodes {w0 w : World} {B C : Nat} {q : NPl} {N : Nt} (h : AtN w0 B C w q N) (h0 : 0 < N.g.nodes.length) :
    Calls Tryz.prog 24 #[.pointer (some ⟨C, 0, none⟩)] w fun e w' => e = .returned (.int .i64 N.g.nodes.length) ∧ w = w' := by
  have := nodes_any h.is.g.lay h0
  rw [show q.g.b = C from h.gb] at this
  exact this
theorem AtN.inputs {w0 w : World} {B C : Nat} {q : NPl} {N : Nt} (h : AtN w0 B C w q N) (hW : Wf N.g) (hm : N.g.nodes.length ≤ 200000) :
    Calls Tryz.prog 95 #[.pointer (some ⟨C, 0, none⟩)] w fun e w' => ∃ (a : Option Addr) (c : Nat), e = .returned (.slice a N.g.inputs.length c) ∧ w'.ownsRow w.heap.size 3 1 (.slice a N.g.inputs.length c) N.g.inputs.length (N.g.inputs.map (Value.int .i64)) ∧ Below w.heap.size w w' := by
  have := InputsOf_any h.is.g hW hm
  rw [show q.g.b = C from h.gb] at this
  exact this
theorem of_even (k : Nat) (hk : k ≤ 200000) (w : World) : Calls Tryz.prog 25 #[.int .i64 (k : Int), .bool false] w fun e w' => e = .returned (.tuple #[.int .u32 (2 * (k : Int)), .int .i64 0]) ∧ w = w' := by
  have h := of_any k false (by omega) w
  obtain ⟨e1, e2⟩ := of_val (n := k) false (by omega) (by omega)
  rw [show ofV k false = 2 * (k : Int) from e1.symm, e2] at h
  exact h
end Go.Proofs.YtafoohdndlhbnaaGreat
end
