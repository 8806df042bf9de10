/-
  A netlist that a call has made for itself; the chapter's rows (tells).
-/
import Derived.Test.YtjdebancpgpebaaNetR
import Derived.Test.YtjdebancpgpebaaNetP
import Derived.Test.YtjdebancpgpebaaNetG
import Derived.Test.YtjdebancpgpebaaNetT
namespace Go.Proofs.Ytjdebancpgpebaa
open Go.RowKit Go.Maps Bits
set_option maxRecDepth 100000

structure AtN (w0 : World) (B C : Nat) (w : World) (q : NPl) (N : Nt) : Prop where
  is : NetIs w q N
  b : q.b = B
  gb : q.g.b = C
  out : ∀ k, q.has k → w0.heap.size ≤ k
  below : Below w0.heap.size w0 w
theorem AtN.step {w0 w w2 : World} {B C : Nat} {q : NPl} {N : Nt} (h : AtN w0 B C w q N) (hb : Below w.heap.size w w2) : AtN w0 B C w2 q N :=
  ⟨h.is.below hb, h.b, h.gb, h.out, nextw h.below hb⟩
theorem AtN.next {w0 w w2 : World} {B C : Nat} {q q' : NPl} {N N' : Nt} (h : AtN w0 B C w q N) (hS : NStep q w q' w2 N') : AtN w0 B C w2 q' N' :=
  ⟨hS.is, hS.b.trans h.b, hS.gb.trans h.gb, fun k hk => by
    rcases hS.new k hk with h1 | h1
    · exact h.out k h1
    · exact Nat.le_trans h.below.size h1, h.below.trans (hS.kept.below h.out h.below.size)⟩
theorem AtN.cells {w0 w : World} {B C : Nat} {q : NPl} {N : Nt} (h : AtN w0 B C w q N) : w.cell? ⟨B, 0, none⟩ = some (.pointer (some ⟨C, 0, none⟩)) ∧ B < w.heap.size := by
  obtain ⟨-, -, -, -, -, -, -, -, -, c0, -⟩ := h.is.cells
  rw [h.b, h.gb] at c0
  exact ⟨c0, World.block_lt_of_cell? w _ c0⟩
theorem AtN.new (w0 : World) {w : World} (h0 : Below w0.heap.size w0 w) (F H : Bool) {s : ByteArray} (hs : mayName s = true) :
    Calls Try.prog 5 #[.string s, .agg #[.bool F, .bool H]] w fun e w' => ∃ (q : NPl) (B C : Nat), e = .returned (.tuple #[.pointer (some ⟨B, 0, none⟩), .int .i64 0]) ∧ AtN w0 B C w' q ⟨newG F H, s, [], [], []⟩ :=
  (New_ok F H hs w).mono fun e w' ⟨q, he, hI, hB, hout⟩ => ⟨q, q.b, q.g.b, he, hI, rfl, rfl, fun k hk => Nat.le_trans h0.size (hout k hk), nextw h0 hB⟩

set_option maxHeartbeats 1000000 in
theorem rows_any {w : World} {a a2 : Option Addr} {n c c2 : Nat} {l : List Int} (h1 : Row .u32 w a n l) (h2 : Row .u32 w a2 n l) :
    Calls Try.prog 47 #[.slice a n c, .slice a2 n c2] w fun e w' => e = .returned (.bool true) ∧ Below w.heap.size w w' := by
  have H1 := Lib.hid h1
  have H2 := Lib.hid h2
  have hle := h1.le
  have hne := bnef (a := (n : Int)) (b := n) rfl
  clear h1 h2
  go_enter Try.func47, Try.ntmps47
  go_wp2
  go_loopw [5] (fun s wr => ∃ j : Nat, j ≤ n ∧ s = .int .i64 j ∧ Hid (Below w.heap.size w wr)) (fun s _ => n - (intOf s).toNat)
  case atStart => exact ⟨0, Nat.zero_le _, rfl, Lib.hid (Below.refl _ _)⟩
  case round =>
    obtain ⟨j, hj, rfl, hB⟩ := hrel
    by_cases hlt : j < n
    · obtain ⟨b, off, rfl, hb, hcell⟩ := H1.out.at (by omega)
      obtain ⟨b2, off2, rfl, hb2, hcell2⟩ := H2.out.at (by omega)
      have c1 := stepc hB.out hb (hcell j hlt)
      have c2 := stepc hB.out hb2 (hcell2 j hlt)
      have hjn : (j : Int) < n := by omega
      generalize l.getD j 0 = x at *
      have hxx := bnef (a := x) (b := x) rfl
      have hBr := Lib.hid (nextw hB.out (below_draws wr 0))
      have hBn := Lib.hid (fun q => nextw hB.out (below_draws wr q))
      clear hcell hcell2
      go_wp2
      go_quiet (fail)
      go_wp2
      exact ⟨⟨j + 1, by omega, by go_num, Lib.hid (hBn.out _)⟩, by simp [intOf]; omega⟩
    · obtain rfl : j = n := by omega
      go_wp2
      go_ret
      exact ⟨rfl, hB.out⟩
abbrev sTop : ByteArray := { data := #[116, 111, 112] }
abbrev sA : ByteArray := { data := #[97] }
abbrev sX : ByteArray := { data := #[120] }
theorem top_may : mayName sTop = true := by decide
def t0 : Nt := ⟨newG false false, sTop, [], [], []⟩
def t1 : Nt := ⟨inputsN (newG false false) 2, sTop, [⟨sA, [2, 4]⟩], [], []⟩
def t2 : Nt := ⟨inputsN (newG false false) 3, sTop, [⟨sA, [2, 4]⟩], [⟨6, 0, 0, true⟩], []⟩
def t3 : Nt := { t2 with g := (gateG t2.g 2 6).1 }
def t4 : Nt := { t3 with regs := [⟨6, 8, 1, true⟩] }
def t5 : Nt := { t4 with outs := [⟨sX, [9]⟩] }
theorem t0_good : Good t0 [] := Good.new false false top_may
theorem e1 : addIn t0 sA 2 = (t1, [2, 4], 0) := by rfl
theorem e2 : addReg t1 true = (t2, 6) := by rfl
theorem e3 : gateN andG t2 2 6 = (t3, 8, 0) := by rfl
theorem e4 : setReg t3 6 8 1 = (t4, 0) := by rfl
theorem e5 : addOut t4 sX [9] = (t5, 0) := by rfl
theorem lit2 : IsLit 2 := by unfold IsLit; omega
theorem lit6 : IsLit 6 := by unfold IsLit; omega
theorem lit8 : IsLit 8 := by unfold IsLit; omega
theorem lit1 : IsLit 1 := by unfold IsLit; omega
theorem lit9 : IsLit 9 := by unfold IsLit; omega
theorem t1_good : Good t1 [] := by have := t0_good.addIn sA 2; rw [e1] at this; exact this
theorem t2_good : Good t2 [] := by have := t1_good.addReg true; rw [e2] at this; exact this
theorem t3_good : Good t3 [] := by have := (gate_good and_ok t2_good (by decide) lit2 lit6).1; rw [e3] at this; exact this
theorem t4_good : Good t4 [] := by have := t3_good.setReg 6 8 1 lit8 lit1; rw [e4] at this; exact this
theorem t5_good : Good t5 [] := by have := t4_good.addOut sX [9] (by intro x hx; simp at hx; subst hx; exact lit9); rw [e5] at this; exact this
theorem t6_good : Good { t5 with g := inputG t5.g } [10] := t5_good.input
/-- .. with a row of literals beside it. -/
structure AtL (w0 : World) (B C : Nat) (a : Option Addr) (n c : Nat) (l : List Int) (w : World) (q : NPl) (N : Nt) : Prop where
  at_ : AtN w0 B C w q N
  row : LRow w a n c l
theorem AtL.step {w0 w w2 : World} {B C : Nat} {a : Option Addr} {n c : Nat} {l : List Int} {q : NPl} {N : Nt} (h : AtL w0 B C a n c l w q N) (hb : Below w.heap.size w w2) : AtL w0 B C a n c l w2 q N := ⟨h.at_.step hb, h.row.below hb⟩
theorem AtL.next {w0 w w2 : World} {B C : Nat} {a : Option Addr} {n c : Nat} {l : List Int} {q q' : NPl} {N N' : Nt} (h : AtL w0 B C a n c l w q N) (hS : NStep q w q' w2 N') : AtL w0 B C a n c l w2 q' N' := ⟨h.at_.next hS, h.row.keptF hS.kept h.at_.is.noLits⟩
theorem AtN.addIn {w0 w : World} {B C : Nat} {q : NPl} {N N' : Nt} {l : List Int} {k : Int} {s : ByteArray} (h : AtN w0 B C w q N) (hW : Wf N.g) (hm : N.g.nodes.length ≤ 190000) (ho : N.ins.length ≤ 10000) (e : addIn N s k = (N', l, 0)) :
    Calls Try.prog 27 #[.pointer (some ⟨B, 0, none⟩), .string s, .int .i64 k] w fun e w' => ∃ (a : Option Addr) (c : Nat) (q' : NPl), e = .returned (.tuple #[.slice a l.length c, .int .i64 0]) ∧ AtL w0 B C a l.length c l w' q' N' := by
  have := AddIn_any h.is hW hm ho s k
  rw [e, h.b] at this
  exact this.mono fun _ w' ⟨a, c, he, hl, q', hS⟩ => ⟨a, c, q', he, h.next hS, hl⟩
theorem AtL.addReg {w0 w : World} {B C : Nat} {a : Option Addr} {n c : Nat} {l : List Int} {q : NPl} {N N' : Nt} {x : Int} {i : Bool} (h : AtL w0 B C a n c l w q N) (hW : Wf N.g) (hm : N.g.nodes.length ≤ 190000) (hr : N.regs.length ≤ 10000) (e : addReg N i = (N', x)) :
    Calls Try.prog 28 #[.pointer (some ⟨B, 0, none⟩), .bool i] w fun e w' => ∃ q' : NPl, e = .returned (.tuple #[.int .u32 x, .int .i64 0]) ∧ AtL w0 B C a n c l w' q' N' := by
  have := AddReg_any h.at_.is hW hm hr i
  rw [e, h.at_.b] at this
  have hx : 2 * (N.g.nodes.length : Int) = x := by have := congrArg Prod.snd e; exact this
  rw [hx] at this
  exact this.mono fun _ w' ⟨he, q', hS⟩ => ⟨q', he, h.next hS⟩
theorem AtL.and {w0 w : World} {B C : Nat} {a : Option Addr} {n c : Nat} {l : List Int} {q : NPl} {N N' : Nt} {x y z : Int} (h : AtL w0 B C a n c l w q N) {rest : List Int} (hg : Good N rest) (hm : N.g.nodes.length ≤ 190000) (hx : IsLit x) (hy : IsLit y) (e : gateN andG N x y = (N', z, 0)) :
    Calls Try.prog 31 #[.pointer (some ⟨C, 0, none⟩), .slice (some ⟨w.heap.size, 0, none⟩) 2 2] (w.alloc (.cells #[.int .u32 x, .int .u32 y] 50)) fun e w' => ∃ q' : NPl, e = .returned (.tuple #[.int .u32 z, .int .i64 0]) ∧ AtL w0 B C a n c l w' q' N' := by
  have hb : Below w.heap.size w (w.alloc (.cells #[.int .u32 x, .int .u32 y] 50)) := (Below.refl _ _).alloc (Nat.le_refl _) _
  have h1 := h.step hb
  have := gate_any' And_any And_no and_ok h1.at_.is hg hm (row2 w x y 50) hx hy (fun u hu hp => by cases hu; have := h.at_.is.g.has_lt (k := w.heap.size) hp; omega)
  rw [e, h.at_.gb] at this
  exact this.mono fun _ w' ⟨he, q', hS⟩ => ⟨q', he, h1.next hS⟩
theorem AtL.setReg {w0 w : World} {B C : Nat} {a : Option Addr} {n c : Nat} {l : List Int} {q : NPl} {N N' : Nt} {x d en r : Int} (h : AtL w0 B C a n c l w q N) (hW : Wf N.g) (hd : IsLit d) (hen : IsLit en) (e : setReg N x d en = (N', r)) :
    Calls Try.prog 29 #[.pointer (some ⟨B, 0, none⟩), .int .u32 x, .int .u32 d, .int .u32 en] w fun e w' => ∃ q' : NPl, e = .returned (.int .i64 r) ∧ AtL w0 B C a n c l w' q' N' := by
  have := SetReg_any h.at_.is hW x d en hd hen
  rw [e, h.at_.b] at this
  exact this.mono fun _ w' ⟨he, q', hS⟩ => ⟨q', he, h.next hS⟩
theorem AtL.addOut1 {w0 w : World} {B C : Nat} {a : Option Addr} {n c : Nat} {l : List Int} {q : NPl} {N N' : Nt} {x r : Int} {s : ByteArray} (h : AtL w0 B C a n c l w q N) (hW : Wf N.g) (ho : N.outs.length ≤ 10000) (hx : IsLit x) (e : addOut N s [x] = (N', r)) :
    Calls Try.prog 30 #[.pointer (some ⟨B, 0, none⟩), .string s, .slice (some ⟨w.heap.size, 0, none⟩) 1 1] (w.alloc (.cells #[.int .u32 x] 50)) fun e w' => ∃ q' : NPl, e = .returned (.int .i64 r) ∧ AtL w0 B C a n c l w' q' N' := by
  have hb : Below w.heap.size w (w.alloc (.cells #[.int .u32 x] 50)) := (Below.refl _ _).alloc (Nat.le_refl _) _
  have h1 := h.step hb
  have := AddOut_any h1.at_.is hW ho s (c := 1) (row1 w x 50) (by intro y hy; simp at hy; subst hy; exact hx)
  rw [e, h.at_.b] at this
  exact this.mono fun _ w' ⟨he, q', hS⟩ => ⟨q', he, h1.next hS⟩
theorem AtN.check {w0 w : World} {B C : Nat} {q : NPl} {N : Nt} (h : AtN w0 B C w q N) {rest : List Int} (hg : Good N rest) (hS : Small N) {v : Int} (hv : ckV rest = v) :
    Calls Try.prog 9 #[.pointer (some ⟨B, 0, none⟩)] w fun e w' => e = .returned (.int .i64 v) ∧ Below w.heap.size w w' := by
  have := Check_any h.is hg (by have := hS.g; omega) (by have := hS.ins; omega) (by have := hS.regs; omega) (by have := hS.outs; omega)
  rw [h.b, hv] at this
  exact this
theorem AtL.input {w0 w : World} {B C : Nat} {a : Option Addr} {n c : Nat} {l : List Int} {q : NPl} {N N' : Nt} {x : Int} (h : AtL w0 B C a n c l w q N) (hW : Wf N.g) (hm : N.g.nodes.length ≤ 190000) (hx : 2 * (N.g.nodes.length : Int) = x) (hN : { N with g := inputG N.g } = N') :
    Calls Try.prog 33 #[.pointer (some ⟨C, 0, none⟩)] w fun e w' => ∃ q' : NPl, e = .returned (.tuple #[.int .u32 x, .int .i64 0]) ∧ AtL w0 B C a n c l w' q' N' := by
  have := Input_any h.at_.is.g hW (by omega)
  rw [show q.g.b = C from h.at_.gb, hx] at this
  subst hN
  exact this.mono fun _ w' ⟨he, p', hS⟩ => ⟨_, he, h.next (h.at_.is.grow hS)⟩
theorem small_t {N : Nt} (h : decide (N.g.nodes.length ≤ 180000) && (decide (N.ins.length ≤ 9000) && (decide (N.regs.length ≤ 9000) && decide (N.outs.length ≤ 9000))) = true) : Small N := by
  simp at h; exact ⟨h.1, h.2.1, h.2.2.1, h.2.2.2⟩

set_option maxHeartbeats 4000000 in
theorem tells_any (w : World) : Calls Try.prog 16 #[] w fun e w' => e = .returned (.bool true) ∧ Below w.heap.size w w' := by
  have hnew := Lib.hid (AtN.new w (Below.refl w.heap.size w) false false top_may)
  go_enter Try.func16, Try.ntmps16
  go_wp2_with (first
    | (go_at_call 5; refine hnew.out.mono ?_; rintro e w2 ⟨q0, B, C, rfl, hA0⟩; obtain ⟨c0, c1⟩ := hA0.cells; have hk1 := Lib.hid (hA0.addIn t0_good.wf (by decide) (by decide) e1))
    | (go_at_call 27; (with_reducible refine hk1.out.mono ?_); rintro e w3 ⟨a, c, q1, rfl, hA1'⟩; have hA1 : AtL w B C a 2 c [2, 4] w3 q1 t1 := hA1'; clear hA1'; have hk2 := Lib.hid (hA1.addReg t1_good.wf (by decide) (by decide) e2); clear hk1)
    | (go_at_call 28; (with_reducible refine hk2.out.mono ?_); rintro e w4 ⟨q2, rfl, hA2⟩; obtain ⟨c2, c3⟩ := hA2.at_.cells; have hk3 := Lib.hid (hA2.and t2_good (by decide) lit2 lit6 e3); clear hk2)
    | (go_at_call 31; (with_reducible refine hk3.out.mono ?_); rintro e w5 ⟨q3, rfl, hA3⟩; have hk4 := Lib.hid (hA3.setReg t3_good.wf lit8 lit1 e4); clear hk3)
    | (go_at_call 29; (with_reducible refine hk4.out.mono ?_); rintro e w6 ⟨q4, rfl, hA4⟩; have hk5 := Lib.hid (hA4.addOut1 t4_good.wf (by decide) lit9 e5); clear hk4)
    | (go_at_call 30; (with_reducible refine hk5.out.mono ?_); rintro e w7 ⟨q5, rfl, hA5⟩; have hk6 := Lib.hid (hA5.at_.check t5_good (small_t (by decide)) (v := 0) rfl); clear hk5)
    | (go_at_call 9; (with_reducible refine hk6.out.mono ?_); rintro e w8 ⟨rfl, hb8⟩; have hA8 := hA5.step hb8; obtain ⟨c4, c5⟩ := hA8.at_.cells; have hk7 := Lib.hid (hA8.input t5_good.wf (by decide) (x := 10) rfl rfl); clear hk6)
    | (go_at_call 33; (with_reducible refine hk7.out.mono ?_); rintro e w9 ⟨q9, rfl, hA9⟩; have hb10 : Below w9.heap.size w9 (w9.alloc (.cells #[.int .u32 2, .int .u32 4] 34)) := (Below.refl _ _).alloc (Nat.le_refl _) _; have hk8 := Lib.hid (rows_any (c := c) (c2 := 2) (hA9.row.below hb10).row (row2 w9 2 4 34)); clear hk7)
    | (go_at_call 47; (with_reducible refine hk8.out.mono ?_); rintro e w11 ⟨rfl, hb11⟩; have hA11 := (hA9.step hb10).step hb11; have hk9 := Lib.hid (hA11.at_.check t6_good (small_t (by decide)) (v := 37) rfl); clear hk8)
    | (go_at_call 9; (with_reducible refine hk9.out.mono ?_); rintro e w12 ⟨rfl, hb12⟩))
  go_ret
  exact ⟨rfl, nextw hA11.at_.below hb12⟩
end Go.Proofs.Ytjdebancpgpebaa
