/-
  Two that hold the same are told to be the same: rows, buses, graphs, netlists.
  Two graphs, two netlists that hold the same are told to be the same.
  A netlist that a call has made for itself; the chapter's rows (tells).
-/
import Derived.Test.YtlkainmkhofpaaaGreatFSAI
import Derived.ChangeKeysEq
import Derived.Test.YtlkainmkhofpaaaGreatFSAK
import Derived.Test.YtlkainmkhofpaaaGreatFSAM
section
namespace Go.Proofs.YtlkainmkhofpaaaGreat
open Go.RowKit Go.Maps Bits Go.ChangeMaps
set_option maxRecDepth 100000

theorem bnef' {a b : Int} (h : a = b) : (a != b) = false := by simp [h]
theorem plainT : Tryz.prog.plainKey 40 = true ∧ Tryz.prog.plainKey 4 = true := ⟨by kernel_rfl, by kernel_rfl⟩
theorem part_lit (xs : Array Value) (W : World) {i : Nat} {v : Value} (h : xs[i]? = some v) : (part 40 xs i).run Tryz.prog W = .ok v W := run_part_plain W plainT.1 h
theorem part_bool (xs : Array Value) (W : World) {i : Nat} {v : Value} (h : xs[i]? = some v) : (part 4 xs i).run Tryz.prog W = .ok v W := run_part_plain W plainT.2 h
theorem reg_eqIn (q d e : Int) (i : Bool) (W : World) : (Op.equalIn 10000 71 (.agg #[.int .u32 q, .int .u32 d, .int .u32 e, .bool i]) (.agg #[.int .u32 q, .int .u32 d, .int .u32 e, .bool i])).run Tryz.prog W = .ok true W := by
  rw [run_equalIn_agg W 9999 _ _ _ (by kernel_rfl) (by kernel_rfl)]
  have p0 := part_lit #[.int .u32 q, .int .u32 d, .int .u32 e, .bool i] W (i := 0) (v := .int .u32 q) rfl
  have p1 := part_lit #[.int .u32 q, .int .u32 d, .int .u32 e, .bool i] W (i := 1) (v := .int .u32 d) rfl
  have p2 := part_lit #[.int .u32 q, .int .u32 d, .int .u32 e, .bool i] W (i := 2) (v := .int .u32 e) rfl
  have p3 := part_bool #[.int .u32 q, .int .u32 d, .int .u32 e, .bool i] W (i := 3) (v := .bool i) rfl
  have e0 := run_equalIn_int (P := Tryz.prog) W 9998 40 .u32 .u32 q q Tryz.underlying40
  have e1 := run_equalIn_int (P := Tryz.prog) W 9998 40 .u32 .u32 d d Tryz.underlying40
  have e2 := run_equalIn_int (P := Tryz.prog) W 9998 40 .u32 .u32 e e Tryz.underlying40
  have e3 := run_equalIn_bool' (P := Tryz.prog) W 9998 4 i i Tryz.underlying4
  generalize hX : #[Value.int .u32 q, .int .u32 d, .int .u32 e, .bool i] = X at *
  clear hX
  simp only [Program.fieldsOf, Tryz.underlying71]
  simp [Op.eqFields, p0, p1, p2, p3, e0, e1, e2, e3]
theorem info_litS : ∃ i, Tryz.prog.info? 40 = some i := Option.isSome_iff_exists.1 (by kernel_rfl)
theorem cells_litS : Tryz.prog.cellsOf 40 = 1 := by kernel_rfl
theorem node_eqIn (g : Bool) (a b : Int) (W : World) : (Op.equalIn 10000 148 (.agg #[.bool g, .int .u32 a, .int .u32 b]) (.agg #[.bool g, .int .u32 a, .int .u32 b])).run Tryz.prog W = .ok true W := by
  rw [run_equalIn_agg W 9999 _ _ _ (by kernel_rfl) (by kernel_rfl)]
  obtain ⟨i0, hi0⟩ := info_litS
  have p0 := part_bool #[.bool g, .int .u32 a, .int .u32 b] W (i := 0) (v := .bool g) rfl
  have p1 : (part 146 #[.bool g, .int .u32 a, .int .u32 b] 1).run Tryz.prog W = .ok (.agg #[.int .u32 a, .int .u32 b]) W := by kernel_rfl
  have e0 := run_equalIn_bool' (P := Tryz.prog) W 9998 4 g g Tryz.underlying4
  have e1 : (Op.equalIn 9999 146 (.agg #[.int .u32 a, .int .u32 b]) (.agg #[.int .u32 a, .int .u32 b])).run Tryz.prog W = .ok true W := by
    rw [run_equalIn_array W 9998 _ _ Tryz.underlying146 hi0, cells_litS]
    have q0 := part_lit #[.int .u32 a, .int .u32 b] W (i := 0) (v := .int .u32 a) rfl
    have q1 := part_lit #[.int .u32 a, .int .u32 b] W (i := 1) (v := .int .u32 b) rfl
    have f0 := run_equalIn_int (P := Tryz.prog) W 9997 40 .u32 .u32 a a Tryz.underlying40
    have f1 := run_equalIn_int (P := Tryz.prog) W 9997 40 .u32 .u32 b b Tryz.underlying40
    rw [show List.range 2 = [0, 1] from rfl]
    simp [Op.eqItems, q0, q1, f0, f1]
  generalize hX : #[Value.bool g, .int .u32 a, .int .u32 b] = X at *
  clear hX
  simp only [Program.fieldsOf, Tryz.underlying148]
  simp [Op.eqFields, p0, p1, e0, e1]
theorem nodeAt_cells {w : World} {a : Option Addr} {n c : Nat} {ns : List Nd} (h : w.ownsRow 0 148 3 (.slice a n c) n (nodeCells ns)) (hn : n = ns.length) {j : Nat} (hj : j < ns.length) :
    ∃ g : Nat, a = some ⟨g, 0, none⟩ ∧ g < w.heap.size ∧ w.cell? ⟨g, j * 3, none⟩ = some (.bool ns[j].gate) ∧ w.cell? ⟨g, j * 3 + 1, none⟩ = some (.int .u32 ns[j].a) ∧ w.cell? ⟨g, j * 3 + 2, none⟩ = some (.int .u32 ns[j].b) := by
  obtain ⟨g, cap, e⟩ := own_form h (by omega)
  rw [e] at h
  have hl := nodeCells_len ns
  obtain ⟨e0, e1, e2⟩ := nodeCells_at ns j ns[j] (List.getElem?_eq_getElem hj)
  simp only [Value.slice.injEq] at e
  refine ⟨g, e.1, own_lt h, ?_, ?_, ?_⟩
  · rw [h.cellAt _ (by omega), Nat.mul_comm j 3, e0]
  · rw [h.cellAt _ (by omega), Nat.mul_comm j 3, e1]
  · rw [h.cellAt _ (by omega), Nat.mul_comm j 3, e2]
end Go.Proofs.YtlkainmkhofpaaaGreat
end

section
namespace Go.Proofs.YtlkainmkhofpaaaGreat
open Go.RowKit Go.Maps Bits Go.ChangeMaps
set_option maxRecDepth 100000

theorem opt_eqIn (F H : Bool) (W : World) : (Op.equalIn 10000 23 (.agg #[.bool F, .bool H]) (.agg #[.bool F, .bool H])).run Tryz.prog W = .ok true W := by
  rw [run_equalIn_agg W 9999 _ _ _ (by kernel_rfl) (by kernel_rfl)]
  have p0 := part_bool #[.bool F, .bool H] W (i := 0) (v := .bool F) rfl
  have p1 := part_bool #[.bool F, .bool H] W (i := 1) (v := .bool H) rfl
  have e0 := run_equalIn_bool' (P := Tryz.prog) W 9998 4 F F Tryz.underlying4
  have e1 := run_equalIn_bool' (P := Tryz.prog) W 9998 4 H H Tryz.underlying4
  generalize hX : #[Value.bool F, .bool H] = X at *
  clear hX
  simp only [Program.fieldsOf, Tryz.underlying23]
  simp [Op.eqFields, p0, p1, e0, e1]
end Go.Proofs.YtlkainmkhofpaaaGreat
end

section
namespace Go.Proofs.YtlkainmkhofpaaaGreat
open Go.RowKit Go.Maps Bits
set_option maxRecDepth 100000

structure AtN (w0 : World) (B C : Nat) (w : World) (q : NPl) (N : Nt) : Prop where
  is : NetIs w q N
  b : q.b = B
  gb : q.g.b = C
  out : ∀ k, q.has k → w0.heap.size ≤ k
  below : Below w0.heap.size w0 w
theorem AtN.step {w0 w w2 : World} {B C : Nat} {q : NPl} {N : Nt} (h : AtN w0 B C w q N) (hb : Below w.heap.size w w2) : AtN w0 B C w2 q N :=
  ⟨h.is.below hb, h.b, h.gb, h.out, nextw h.below hb⟩
theorem AtN.next {w0 w w2 : World} {B C : Nat} {q q' : NPl} {N N' : Nt} (h : AtN w0 B C w q N) (hS : NStep q w q' w2 N') : AtN w0 B C w2 q' N' :=
  ⟨hS.is, hS.b.trans h.b, hS.gb.trans h.gb, fun k hk => by
    rcases hS.new k hk with h1 | h1
    · exact h.out k h1
    · exact Nat.le_trans h.below.size h1, h.below.trans (hS.kept.below h.out h.below.size)⟩
theorem AtN.cells {w0 w : World} {B C : Nat} {q : NPl} {N : Nt} (h : AtN w0 B C w q N) : w.cell? ⟨B, 0, none⟩ = some (.pointer (some ⟨C, 0, none⟩)) ∧ B < w.heap.size := by
  obtain ⟨-, -, -, -, -, -, -, -, -, c0, -⟩ := h.is.cells
  rw [h.b, h.gb] at c0
  exact ⟨c0, World.block_lt_of_cell? w _ c0⟩
theorem AtN.new (w0 : World) {w : World} (h0 : Below w0.heap.size w0 w) (F H : Bool) {s : ByteArray} (hs : mayName s = true) :
    Calls Tryz.prog 32 #[.string s, .agg #[.bool F, .bool H]] w fun e w' => ∃ (q : NPl) (B C : Nat), e = .returned (.tuple #[.pointer (some ⟨B, 0, none⟩), .int .i64 0]) ∧ AtN w0 B C w' q ⟨newG F H, s, [], [], []⟩ :=
  (New_ok F H hs w).mono fun e w' ⟨q, he, hI, hB, hout⟩ => ⟨q, q.b, q.g.b, he, hI, rfl, rfl, fun k hk => Nat.le_trans h0.size (hout k hk), nextw h0 hB⟩

abbrev sTop : ByteArray := { data := #[116, 111, 112] }
abbrev sA : ByteArray := { data := #[97] }
abbrev sX : ByteArray := { data := #[120] }
theorem top_may : mayName sTop = true := by decide
def t0 : Nt := ⟨newG false false, sTop, [], [], []⟩
def t1 : Nt := ⟨inputsN (newG false false) 2, sTop, [⟨sA, [2, 4]⟩], [], []⟩
def t2 : Nt := ⟨inputsN (newG false false) 3, sTop, [⟨sA, [2, 4]⟩], [⟨6, 0, 0, true⟩], []⟩
def t3 : Nt := { t2 with g := (gateG t2.g 2 6).1 }
def t4 : Nt := { t3 with regs := [⟨6, 8, 1, true⟩] }
def t5 : Nt := { t4 with outs := [⟨sX, [9]⟩] }
theorem t0_good : Good t0 [] := Good.new false false top_may
theorem e1 : addIn t0 sA 2 = (t1, [2, 4], 0) := by rfl
theorem e2 : addReg t1 true = (t2, 6) := by rfl
theorem e3 : gateN andG t2 2 6 = (t3, 8, 0) := by rfl
theorem e4 : setReg t3 6 8 1 = (t4, 0) := by rfl
theorem e5 : addOut t4 sX [9] = (t5, 0) := by rfl
theorem lit2 : IsLit 2 := by unfold IsLit; omega
theorem lit6 : IsLit 6 := by unfold IsLit; omega
theorem lit8 : IsLit 8 := by unfold IsLit; omega
theorem lit1 : IsLit 1 := by unfold IsLit; omega
theorem lit9 : IsLit 9 := by unfold IsLit; omega
theorem t1_good : Good t1 [] := by have := t0_good.addIn sA 2; rw [e1] at this; exact this
theorem t2_good : Good t2 [] := by have := t1_good.addReg true; rw [e2] at this; exact this
theorem t3_good : Good t3 [] := by have := (gate_good and_ok t2_good (by decide) lit2 lit6).1; rw [e3] at this; exact this
theorem t4_good : Good t4 [] := by have := t3_good.setReg 6 8 1 lit8 lit1; rw [e4] at this; exact this
theorem t5_good : Good t5 [] := by have := t4_good.addOut sX [9] (by intro x hx; simp at hx; subst hx; exact lit9); rw [e5] at this; exact this
theorem t6_good : Good { t5 with g := inputG t5.g } [10] := t5_good.input
/-- .. with a row of literals beside it. -/
structure AtL (w0 : World) (B C : Nat) (a : Option Addr) (n c : Nat) (l : List Int) (w : World) (q : NPl) (N : Nt) : Prop where
  at_ : AtN w0 B C w q N
  row : LRow w a n c l
theorem AtL.step {w0 w w2 : World} {B C : Nat} {a : Option Addr} {n c : Nat} {l : List Int} {q : NPl} {N : Nt} (h : AtL w0 B C a n c l w q N) (hb : Below w.heap.size w w2) : AtL w0 B C a n c l w2 q N := ⟨h.at_.step hb, h.row.below hb⟩
theorem AtL.next {w0 w w2 : World} {B C : Nat} {a : Option Addr} {n c : Nat} {l : List Int} {q q' : NPl} {N N' : Nt} (h : AtL w0 B C a n c l w q N) (hS : NStep q w q' w2 N') : AtL w0 B C a n c l w2 q' N' := ⟨h.at_.next hS, h.row.keptF hS.kept h.at_.is.noLits⟩
theorem AtN.addIn {w0 w : World} {B C : Nat} {q : NPl} {N N' : Nt} {l : List Int} {k : Int} {s : ByteArray} (h : AtN w0 B C w q N) (hW : Wf N.g) (hm : N.g.nodes.length ≤ 190000) (ho : N.ins.length ≤ 10000) (e : addIn N s k = (N', l, 0)) :
    Calls Tryz.prog 12 #[.pointer (some ⟨B, 0, none⟩), .string s, .int .i64 k] w fun e w' => ∃ (a : Option Addr) (c : Nat) (q' : NPl), e = .returned (.tuple #[.slice a l.length c, .int .i64 0]) ∧ AtL w0 B C a l.length c l w' q' N' := by
  have := AddIn_any h.is hW hm ho s k
  rw [e, h.b] at this
  exact this.mono fun _ w' ⟨a, c, he, hl, q', hS⟩ => ⟨a, c, q', he, h.next hS, hl⟩
theorem AtL.addReg {w0 w : World} {B C : Nat} {a : Option Addr} {n c : Nat} {l : List Int} {q : NPl} {N N' : Nt} {x : Int} {i : Bool} (h : AtL w0 B C a n c l w q N) (hW : Wf N.g) (hm : N.g.nodes.length ≤ 190000) (hr : N.regs.length ≤ 10000) (e : addReg N i = (N', x)) :
    Calls Tryz.prog 70 #[.pointer (some ⟨B, 0, none⟩), .bool i] w fun e w' => ∃ q' : NPl, e = .returned (.tuple #[.int .u32 x, .int .i64 0]) ∧ AtL w0 B C a n c l w' q' N' := by
  have := AddReg_any h.at_.is hW hm hr i
  rw [e, h.at_.b] at this
  have hx : 2 * (N.g.nodes.length : Int) = x := by have := congrArg Prod.snd e; exact this
  rw [hx] at this
  exact this.mono fun _ w' ⟨he, q', hS⟩ => ⟨q', he, h.next hS⟩
theorem AtL.and {w0 w : World} {B C : Nat} {a : Option Addr} {n c : Nat} {l : List Int} {q : NPl} {N N' : Nt} {x y z : Int} (h : AtL w0 B C a n c l w q N) {rest : List Int} (hg : Good N rest) (hm : N.g.nodes.length ≤ 190000) (hx : IsLit x) (hy : IsLit y) (e : gateN andG N x y = (N', z, 0)) :
    Calls Tryz.prog 72 #[.pointer (some ⟨C, 0, none⟩), .slice (some ⟨w.heap.size, 0, none⟩) 2 2] (w.alloc (.cells #[.int .u32 x, .int .u32 y] 40)) fun e w' => ∃ q' : NPl, e = .returned (.tuple #[.int .u32 z, .int .i64 0]) ∧ AtL w0 B C a n c l w' q' N' := by
  have hb : Below w.heap.size w (w.alloc (.cells #[.int .u32 x, .int .u32 y] 40)) := (Below.refl _ _).alloc (Nat.le_refl _) _
  have h1 := h.step hb
  have := gate_any' And_any And_no and_ok h1.at_.is hg hm (row2 w x y 40) hx hy (fun u hu hp => by cases hu; have := h.at_.is.g.has_lt (k := w.heap.size) hp; omega)
  rw [e, h.at_.gb] at this
  exact this.mono fun _ w' ⟨he, q', hS⟩ => ⟨q', he, h1.next hS⟩
theorem AtL.setReg {w0 w : World} {B C : Nat} {a : Option Addr} {n c : Nat} {l : List Int} {q : NPl} {N N' : Nt} {x d en r : Int} (h : AtL w0 B C a n c l w q N) (hW : Wf N.g) (hd : IsLit d) (hen : IsLit en) (e : setReg N x d en = (N', r)) :
    Calls Tryz.prog 71 #[.pointer (some ⟨B, 0, none⟩), .int .u32 x, .int .u32 d, .int .u32 en] w fun e w' => ∃ q' : NPl, e = .returned (.int .i64 r) ∧ AtL w0 B C a n c l w' q' N' := by
  have := SetReg_any h.at_.is hW x d en hd hen
  rw [e, h.at_.b] at this
  exact this.mono fun _ w' ⟨he, q', hS⟩ => ⟨q', he, h.next hS⟩
theorem AtL.addOut1 {w0 w : World} {B C : Nat} {a : Option Addr} {n c : Nat} {l : List Int} {q : NPl} {N N' : Nt} {x r : Int} {s : ByteArray} (h : AtL w0 B C a n c l w q N) (hW : Wf N.g) (ho : N.outs.length ≤ 10000) (hx : IsLit x) (e : addOut N s [x] = (N', r)) :
    Calls Tryz.prog 11 #[.pointer (some ⟨B, 0, none⟩), .string s, .slice (some ⟨w.heap.size, 0, none⟩) 1 1] (w.alloc (.cells #[.int .u32 x] 40)) fun e w' => ∃ q' : NPl, e = .returned (.int .i64 r) ∧ AtL w0 B C a n c l w' q' N' := by
  have hb : Below w.heap.size w (w.alloc (.cells #[.int .u32 x] 40)) := (Below.refl _ _).alloc (Nat.le_refl _) _
  have h1 := h.step hb
  have := AddOut_any h1.at_.is hW ho s (c := 1) (row1 w x 40) (by intro y hy; simp at hy; subst hy; exact hx)
  rw [e, h.at_.b] at this
  exact this.mono fun _ w' ⟨he, q', hS⟩ => ⟨q', he, h1.next hS⟩
theorem AtN.check {w0 w : World} {B C : Nat} {q : NPl} {N : Nt} (h : AtN w0 B C w q N) {rest : List Int} (hg : Good N rest) (hS : Small N) {v : Int} (hv : ckV rest = v) :
    Calls Tryz.prog 36 #[.pointer (some ⟨B, 0, none⟩)] w fun e w' => e = .returned (.int .i64 v) ∧ Below w.heap.size w w' := by
  have := Check_any h.is hg (by have := hS.g; omega) (by have := hS.ins; omega) (by have := hS.regs; omega) (by have := hS.outs; omega)
  rw [h.b, hv] at this
  exact this
theorem AtL.input {w0 w : World} {B C : Nat} {a : Option Addr} {n c : Nat} {l : List Int} {q : NPl} {N N' : Nt} {x : Int} (h : AtL w0 B C a n c l w q N) (hW : Wf N.g) (hm : N.g.nodes.length ≤ 190000) (hx : 2 * (N.g.nodes.length : Int) = x) (hN : { N with g := inputG N.g } = N') :
    Calls Tryz.prog 48 #[.pointer (some ⟨C, 0, none⟩)] w fun e w' => ∃ q' : NPl, e = .returned (.tuple #[.int .u32 x, .int .i64 0]) ∧ AtL w0 B C a n c l w' q' N' := by
  have := Input_any h.at_.is.g hW (by omega)
  rw [show q.g.b = C from h.at_.gb, hx] at this
  subst hN
  exact this.mono fun _ w' ⟨he, p', hS⟩ => ⟨_, he, h.next (h.at_.is.grow hS)⟩
theorem small_t {N : Nt} (h : decide (N.g.nodes.length ≤ 180000) && (decide (N.ins.length ≤ 9000) && (decide (N.regs.length ≤ 9000) && decide (N.outs.length ≤ 9000))) = true) : Small N := by
  simp at h; exact ⟨h.1, h.2.1, h.2.2.1, h.2.2.2⟩

end Go.Proofs.YtlkainmkhofpaaaGreat
end
