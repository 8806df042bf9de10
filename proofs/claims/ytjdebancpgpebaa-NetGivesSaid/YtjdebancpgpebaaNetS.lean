/-
  Two that hold the same are told to be the same: rows, buses, graphs, netlists.
-/
import Derived.Test.YtjdebancpgpebaaNetD
import Derived.ChangeKeysEq
namespace Go.Proofs.Ytjdebancpgpebaa
open Go.RowKit Go.Maps Bits Go.ChangeMaps
set_option maxRecDepth 100000

theorem bnef' {a b : Int} (h : a = b) : (a != b) = false := by simp [h]
set_option maxHeartbeats 1000000 in
theorem eq_lit {w : World} {a a2 : Option Addr} {n c c2 : Nat} {l : List Int} (h1 : Row .u32 w a n l) (h2 : Row .u32 w a2 n l) :
    Calls Try.prog 59 #[.slice a n c, .slice a2 n c2] w fun e w' => e = .returned (.bool true) ∧ Below w.heap.size w w' := by
  have H1 := Lib.hid h1
  have H2 := Lib.hid h2
  have hle := h1.le
  have hne := bnef' (a := (n : Int)) (b := n) rfl
  clear h1 h2
  go_enter Try.func59, Try.ntmps59
  go_wp2
  go_loopw [13] (fun s wr => ∃ j : Nat, j ≤ n ∧ s = .int .i64 j ∧ Hid (Below w.heap.size w wr)) (fun s _ => n - (intOf s).toNat)
  case atStart => exact ⟨0, Nat.zero_le _, rfl, Lib.hid (Below.refl _ _)⟩
  case round =>
    obtain ⟨j, hj, rfl, hB⟩ := hrel
    by_cases hlt : j < n
    · obtain ⟨b, off, rfl, hb, hcell⟩ := H1.out.at (by omega)
      obtain ⟨b2, off2, rfl, hb2, hcell2⟩ := H2.out.at (by omega)
      have c1 := stepc hB.out hb (hcell j hlt)
      have c2 := stepc hB.out hb2 (hcell2 j hlt)
      have hjn : (j : Int) < n := by omega
      generalize l.getD j 0 = x at *
      have hxx := bnef' (a := (x : Int)) (b := x) rfl
      have hBn := Lib.hid (fun q => nextw hB.out (below_draws wr q))
      clear hcell hcell2
      go_wp2
      go_quiet (fail)
      go_wp2
      exact ⟨⟨j + 1, by omega, by go_num, Lib.hid (hBn.out _)⟩, by simp [intOf]; omega⟩
    · obtain rfl : j = n := by omega
      go_wp2
      go_ret
      exact ⟨rfl, hB.out⟩

theorem plainT : Try.prog.plainKey 50 = true ∧ Try.prog.plainKey 4 = true := ⟨by kernel_rfl, by kernel_rfl⟩
theorem part_lit (xs : Array Value) (W : World) {i : Nat} {v : Value} (h : xs[i]? = some v) : (part 50 xs i).run Try.prog W = .ok v W := run_part_plain W plainT.1 h
theorem part_bool (xs : Array Value) (W : World) {i : Nat} {v : Value} (h : xs[i]? = some v) : (part 4 xs i).run Try.prog W = .ok v W := run_part_plain W plainT.2 h
theorem reg_eqIn (q d e : Int) (i : Bool) (W : World) : (Op.equalIn 10000 52 (.agg #[.int .u32 q, .int .u32 d, .int .u32 e, .bool i]) (.agg #[.int .u32 q, .int .u32 d, .int .u32 e, .bool i])).run Try.prog W = .ok true W := by
  rw [run_equalIn_agg W 9999 _ _ _ (by kernel_rfl) (by kernel_rfl)]
  have p0 := part_lit #[.int .u32 q, .int .u32 d, .int .u32 e, .bool i] W (i := 0) (v := .int .u32 q) rfl
  have p1 := part_lit #[.int .u32 q, .int .u32 d, .int .u32 e, .bool i] W (i := 1) (v := .int .u32 d) rfl
  have p2 := part_lit #[.int .u32 q, .int .u32 d, .int .u32 e, .bool i] W (i := 2) (v := .int .u32 e) rfl
  have p3 := part_bool #[.int .u32 q, .int .u32 d, .int .u32 e, .bool i] W (i := 3) (v := .bool i) rfl
  have e0 := run_equalIn_int (P := Try.prog) W 9998 50 .u32 .u32 q q Try.underlying50
  have e1 := run_equalIn_int (P := Try.prog) W 9998 50 .u32 .u32 d d Try.underlying50
  have e2 := run_equalIn_int (P := Try.prog) W 9998 50 .u32 .u32 e e Try.underlying50
  have e3 := run_equalIn_bool' (P := Try.prog) W 9998 4 i i Try.underlying4
  generalize hX : #[Value.int .u32 q, .int .u32 d, .int .u32 e, .bool i] = X at *
  clear hX
  simp only [Program.fieldsOf, Try.underlying52]
  simp [Op.eqFields, p0, p1, p2, p3, e0, e1, e2, e3]
theorem info_litS : ∃ i, Try.prog.info? 50 = some i := Option.isSome_iff_exists.1 (by kernel_rfl)
theorem cells_litS : Try.prog.cellsOf 50 = 1 := by kernel_rfl
theorem node_eqIn (g : Bool) (a b : Int) (W : World) : (Op.equalIn 10000 98 (.agg #[.bool g, .int .u32 a, .int .u32 b]) (.agg #[.bool g, .int .u32 a, .int .u32 b])).run Try.prog W = .ok true W := by
  rw [run_equalIn_agg W 9999 _ _ _ (by kernel_rfl) (by kernel_rfl)]
  obtain ⟨i0, hi0⟩ := info_litS
  have p0 := part_bool #[.bool g, .int .u32 a, .int .u32 b] W (i := 0) (v := .bool g) rfl
  have p1 : (part 96 #[.bool g, .int .u32 a, .int .u32 b] 1).run Try.prog W = .ok (.agg #[.int .u32 a, .int .u32 b]) W := by kernel_rfl
  have e0 := run_equalIn_bool' (P := Try.prog) W 9998 4 g g Try.underlying4
  have e1 : (Op.equalIn 9999 96 (.agg #[.int .u32 a, .int .u32 b]) (.agg #[.int .u32 a, .int .u32 b])).run Try.prog W = .ok true W := by
    rw [run_equalIn_array W 9998 _ _ Try.underlying96 hi0, cells_litS]
    have q0 := part_lit #[.int .u32 a, .int .u32 b] W (i := 0) (v := .int .u32 a) rfl
    have q1 := part_lit #[.int .u32 a, .int .u32 b] W (i := 1) (v := .int .u32 b) rfl
    have f0 := run_equalIn_int (P := Try.prog) W 9997 50 .u32 .u32 a a Try.underlying50
    have f1 := run_equalIn_int (P := Try.prog) W 9997 50 .u32 .u32 b b Try.underlying50
    rw [show List.range 2 = [0, 1] from rfl]
    simp [Op.eqItems, q0, q1, f0, f1]
  generalize hX : #[Value.bool g, .int .u32 a, .int .u32 b] = X at *
  clear hX
  simp only [Program.fieldsOf, Try.underlying98]
  simp [Op.eqFields, p0, p1, e0, e1]
set_option maxHeartbeats 1000000 in
theorem eq_reg {w : World} {a a2 : Option Addr} {n c c2 : Nat} {R : List Rg} (h1 : RegRow w (.slice a n c) R) (h2 : RegRow w (.slice a2 n c2) R) (hn : n = R.length) :
    Calls Try.prog 37 #[.slice a n c, .slice a2 n c2] w fun e w' => e = .returned (.bool true) ∧ Below w.heap.size w w' := by
  have hle : n ≤ 9223372036854775807 := by rw [hn]; exact own_maxLen h1
  have H1 := Lib.hid h1
  have H2 := Lib.hid h2
  have HN := Lib.hid hn
  have hne := bnef' (a := (n : Int)) (b := n) rfl
  clear h1 h2 hn
  go_enter Try.func37, Try.ntmps37
  go_wp2
  go_loopw [13] (fun s wr => ∃ j : Nat, j ≤ n ∧ s = .int .i64 j ∧ Hid (Below w.heap.size w wr)) (fun s _ => n - (intOf s).toNat)
  case atStart => exact ⟨0, Nat.zero_le _, rfl, Lib.hid (Below.refl _ _)⟩
  case round =>
    obtain ⟨j, hj, rfl, hB⟩ := hrel
    by_cases hlt : j < n
    · have hjR : j < R.length := by rw [← HN.out]; exact hlt
      obtain ⟨g, rfl, hb, b0, b1, b2, b3⟩ := H1.out.at hjR
      obtain ⟨g2, rfl, hb2, d0, d1, d2, d3⟩ := H2.out.at hjR
      have b0 := stepc hB.out hb b0
      have b1 := stepc hB.out hb b1
      have b2 := stepc hB.out hb b2
      have b3 := stepc hB.out hb b3
      have d0 := stepc hB.out hb2 d0
      have d1 := stepc hB.out hb2 d1
      have d2 := stepc hB.out hb2 d2
      have d3 := stepc hB.out hb2 d3
      have hjn : (j : Int) < n := by omega
      generalize R[j] = r at *
      obtain ⟨rq, rd, re, ri⟩ := r
      have hxx := fun W => reg_eqIn rq rd re ri W
      have hBn := Lib.hid (fun q => nextw hB.out (below_draws wr q))
      simp only [] at b0 b1 b2 b3 d0 d1 d2 d3
      go_wp2
      go_quiet (fail)
      go_wp2
      exact ⟨⟨j + 1, by omega, by go_num, Lib.hid (hBn.out _)⟩, by simp [intOf]; omega⟩
    · obtain rfl : j = n := by omega
      go_wp2
      go_ret
      exact ⟨rfl, hB.out⟩
theorem nodeAt_cells {w : World} {a : Option Addr} {n c : Nat} {ns : List Nd} (h : w.ownsRow 0 98 3 (.slice a n c) n (nodeCells ns)) (hn : n = ns.length) {j : Nat} (hj : j < ns.length) :
    ∃ g : Nat, a = some ⟨g, 0, none⟩ ∧ g < w.heap.size ∧ w.cell? ⟨g, j * 3, none⟩ = some (.bool ns[j].gate) ∧ w.cell? ⟨g, j * 3 + 1, none⟩ = some (.int .u32 ns[j].a) ∧ w.cell? ⟨g, j * 3 + 2, none⟩ = some (.int .u32 ns[j].b) := by
  obtain ⟨g, cap, e⟩ := own_form h (by omega)
  rw [e] at h
  have hl := nodeCells_len ns
  obtain ⟨e0, e1, e2⟩ := nodeCells_at ns j ns[j] (List.getElem?_eq_getElem hj)
  simp only [Value.slice.injEq] at e
  refine ⟨g, e.1, own_lt h, ?_, ?_, ?_⟩
  · rw [h.cellAt _ (by omega), Nat.mul_comm j 3, e0]
  · rw [h.cellAt _ (by omega), Nat.mul_comm j 3, e1]
  · rw [h.cellAt _ (by omega), Nat.mul_comm j 3, e2]
set_option maxHeartbeats 1000000 in
theorem eq_node {w : World} {a a2 : Option Addr} {n c c2 : Nat} {ns : List Nd} (h1 : w.ownsRow 0 98 3 (.slice a n c) n (nodeCells ns)) (h2 : w.ownsRow 0 98 3 (.slice a2 n c2) n (nodeCells ns)) (hn : n = ns.length) :
    Calls Try.prog 58 #[.slice a n c, .slice a2 n c2] w fun e w' => e = .returned (.bool true) ∧ Below w.heap.size w w' := by
  have hle : n ≤ 9223372036854775807 := own_maxLen h1
  have H1 := Lib.hid h1
  have H2 := Lib.hid h2
  have HN := Lib.hid hn
  have hne := bnef' (a := (n : Int)) (b := n) rfl
  clear h1 h2 hn
  go_enter Try.func58, Try.ntmps58
  go_wp2
  go_loopw [13] (fun s wr => ∃ j : Nat, j ≤ n ∧ s = .int .i64 j ∧ Hid (Below w.heap.size w wr)) (fun s _ => n - (intOf s).toNat)
  case atStart => exact ⟨0, Nat.zero_le _, rfl, Lib.hid (Below.refl _ _)⟩
  case round =>
    obtain ⟨j, hj, rfl, hB⟩ := hrel
    by_cases hlt : j < n
    · have hjR : j < ns.length := by rw [← HN.out]; exact hlt
      obtain ⟨g, rfl, hb, b0, b1, b2⟩ := nodeAt_cells H1.out HN.out hjR
      obtain ⟨g2, rfl, hb2, d0, d1, d2⟩ := nodeAt_cells H2.out HN.out hjR
      have b0 := stepc hB.out hb b0
      have b1 := stepc hB.out hb b1
      have b2 := stepc hB.out hb b2
      have d0 := stepc hB.out hb2 d0
      have d1 := stepc hB.out hb2 d1
      have d2 := stepc hB.out hb2 d2
      have hjn : (j : Int) < n := by omega
      generalize ns[j] = r at *
      obtain ⟨rg, ra, rb⟩ := r
      have hxx := fun W => node_eqIn rg ra rb W
      have hBn := Lib.hid (fun q => nextw hB.out (below_draws wr q))
      simp only [] at b0 b1 b2 d0 d1 d2
      go_wp2
      go_quiet (fail)
      go_wp2
      exact ⟨⟨j + 1, by omega, by go_num, Lib.hid (hBn.out _)⟩, by simp [intOf]; omega⟩
    · obtain rfl : j = n := by omega
      go_wp2
      go_ret
      exact ⟨rfl, hB.out⟩

theorem alike_any {w : World} {a a2 : Option Addr} {n c c2 : Nat} {l : List Int} (h1 : Row .u32 w a n l) (h2 : Row .u32 w a2 n l) (s : ByteArray) :
    Calls Try.prog 36 #[.agg #[.string s, .slice a n c], .agg #[.string s, .slice a2 n c2]] w fun e w' => e = .returned (.bool true) ∧ Below w.heap.size w w' := by
  have hb1 : Below w.heap.size w (w.alloc (.cells #[.string s, .slice a n c] 46)) := (Below.refl _ _).alloc (Nat.le_refl _) _
  have hb2 := hb1.alloc hb1.size (.cells #[.string s, .slice a2 n c2] 46)
  have he := Lib.hid (eq_lit (c := c) (c2 := c2) (h1.step hb2) (h2.step hb2))
  have hb2 := Lib.hid hb2
  have hss : (s.toList == s.toList) = true := by simp
  clear h1 h2 hb1
  go_enter Try.func36, Try.ntmps36
  go_wp2_with (go_at_call 59; (with_reducible refine he.out.mono ?_); rintro e w3 ⟨rfl, hb3⟩)
  go_ret
  exact ⟨rfl, nextw hb2.out hb3⟩
set_option maxHeartbeats 1000000 in
theorem eqFunc_any {w : World} {a a2 : Option Addr} {n c c2 : Nat} {L : List Bus} (h1 : BusRow w (.slice a n c) L) (h2 : BusRow w (.slice a2 n c2) L) (hn : n = L.length) :
    Calls Try.prog 35 #[.slice a n c, .slice a2 n c2, .func (.func 36) #[] #[]] w fun e w' => e = .returned (.bool true) ∧ Below w.heap.size w w' := by
  have hle : n ≤ 9223372036854775807 := by obtain ⟨K, hK⟩ := h1; rw [hn]; exact own_maxLen hK.own
  have H1 := Lib.hid h1
  have H2 := Lib.hid h2
  have HN := Lib.hid hn
  have hne := bnef' (a := (n : Int)) (b := n) rfl
  clear h1 h2 hn
  go_enter Try.func35, Try.ntmps35
  go_wp2
  go_loopw [17] (fun s wr => ∃ j : Nat, j ≤ n ∧ s = .int .i64 j ∧ Hid (Below w.heap.size w wr)) (fun s _ => n - (intOf s).toNat)
  case atStart => exact ⟨0, Nat.zero_le _, rfl, Lib.hid (Below.refl _ _)⟩
  case round =>
    obtain ⟨j, hj, rfl, hB⟩ := hrel
    by_cases hlt : j < n
    · have hjR : j < L.length := by rw [← HN.out]; exact hlt
      obtain ⟨g, la, lc, rfl, hb, b0, b1, r1⟩ := H1.out.at hjR
      obtain ⟨g2, la2, lc2, rfl, hb2, d0, d1, r2⟩ := H2.out.at hjR
      have hsz := hB.out.size
      have b0 := stepc hB.out hb b0
      have b1 := stepc hB.out hb b1
      have d0 := stepc hB.out hb2 d0
      have d1 := stepc hB.out hb2 d1
      have hjn : (j : Int) < n := by omega
      have hg1 : g < wr.heap.size := by omega
      have hg2 : g2 < wr.heap.size := by omega
      have hA := Lib.hid (fun w2 (hb2 : Below wr.heap.size wr w2) => alike_any (c := lc) (c2 := lc2) ((r1.below hB.out).below hb2).row ((r2.below hB.out).below hb2).row L[j].name)
      have hall := Lib.hid (fun o1 o2 => ((Below.refl wr.heap.size wr).alloc (Nat.le_refl _) o1).alloc (by simp) o2)
      clear r1 r2
      generalize L[j].name = nm at *
      generalize L[j].lits.length = ll at *
      go_wp2_with (go_at_call 36; (with_reducible refine (hA.out _ (hall.out _ _)).mono ?_); rintro e w3 ⟨rfl, hb3⟩)
      exact ⟨⟨j + 1, by omega, by go_num, Lib.hid (nextw hB.out (nextw (hall.out _ _) hb3))⟩, by simp [intOf]; omega⟩
    · obtain rfl : j = n := by omega
      go_wp2
      go_ret
      exact ⟨rfl, hB.out⟩
end Go.Proofs.Ytjdebancpgpebaa
