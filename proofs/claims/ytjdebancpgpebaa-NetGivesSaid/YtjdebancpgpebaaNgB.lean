/-
  NetGives: a netlist beside its three maps; laws at the maps' operations; what an accepted step adds.
-/
import Derived.Test.YtjdebancpgpebaaNgA
namespace Go.Proofs.Ytjdebancpgpebaa
open Go.RowKit Go.Maps Bits
set_option maxRecDepth 100000

def BMap (wr : World) (M j : Nat) (L : List Bus) : Prop := ∃ n D, n ≤ j ∧ BusMap wr M n D L
def RMap (wr : World) (M j : Nat) (R : List Rg) : Prop := ∃ n D, n ≤ j ∧ RegMap wr M n D R
theorem BMap.mono {wr : World} {M j k : Nat} {L : List Bus} (h : BMap wr M j L) (hj : j ≤ k) : BMap wr M k L := let ⟨n, D, hn, hM⟩ := h; ⟨n, D, Nat.le_trans hn hj, hM⟩
theorem RMap.mono {wr : World} {M j k : Nat} {R : List Rg} (h : RMap wr M j R) (hj : j ≤ k) : RMap wr M k R := let ⟨n, D, hn, hM⟩ := h; ⟨n, D, Nat.le_trans hn hj, hM⟩
theorem BMap.below {wr w2 : World} {M j : Nat} {L : List Bus} (h : BMap wr M j L) (hb : Below wr.heap.size wr w2) : BMap w2 M j L := let ⟨n, D, hn, hM⟩ := h; ⟨n, D, hn, hM.below hb⟩
theorem RMap.below {wr w2 : World} {M j : Nat} {R : List Rg} (h : RMap wr M j R) (hb : Below wr.heap.size wr w2) : RMap w2 M j R := let ⟨n, D, hn, hM⟩ := h; ⟨n, D, hn, hM.below hb⟩
theorem BMap.kept {F : Nat → Prop} {wr w2 : World} {M j : Nat} {L : List Bus} (h : BMap wr M j L) (hk : Kept F wr w2) (hM : ¬ F M) (hL : NoLits wr F) : BMap w2 M j L := let ⟨n, D, hn, hB⟩ := h; ⟨n, D, hn, hB.kept hk hM hL⟩
theorem RMap.kept {F : Nat → Prop} {wr w2 : World} {M j : Nat} {R : List Rg} (h : RMap wr M j R) (hk : Kept F wr w2) (hM : ¬ F M) : RMap w2 M j R := let ⟨n, D, hn, hB⟩ := h; ⟨n, D, hn, hB.kept hk hM⟩
theorem BMap.block {wr : World} {M j : Nat} {L : List Bus} (h : BMap wr M j L) : ∃ es cl, wr.heap[M]? = some (.map es cl) := by
  obtain ⟨n, D, -, hB⟩ := h
  obtain ⟨es, cl, h1, -⟩ := hB.own
  exact ⟨es, cl, h1⟩
theorem RMap.block {wr : World} {M j : Nat} {R : List Rg} (h : RMap wr M j R) : ∃ es cl, wr.heap[M]? = some (.map es cl) := by
  obtain ⟨n, D, -, hB⟩ := h
  obtain ⟨es, cl, h1, -⟩ := hB.own
  exact ⟨es, cl, h1⟩
theorem BMap.nil (w : World) (j : Nat) : BMap (w.alloc (.map #[] 0)) w.heap.size j [] := ⟨0, _, Nat.zero_le _, BusMap.nil w⟩
theorem RMap.nil (w : World) (j : Nat) : RMap (w.alloc (.map #[] 0)) w.heap.size j [] := ⟨0, _, Nat.zero_le _, RegMap.nil w⟩

/-- A netlist that a call has made, and what it was told to be: names and rows in two maps, registers in a third. -/
structure Gv (w0 : World) (B C M1 M2 M3 j : Nat) (q : NPl) (N : Nt) (I O : List Bus) (R : List Rg) (wr : World) : Prop where
  at_ : AtN w0 B C wr q N
  mi : BMap wr M1 j I
  mo : BMap wr M2 j O
  mr : RMap wr M3 j R
  f1 : ¬ q.has M1
  f2 : ¬ q.has M2
  f3 : ¬ q.has M3
  n12 : M1 ≠ M2
  n13 : M1 ≠ M3
  n23 : M2 ≠ M3
  h1 : w0.heap.size ≤ M1
  h2 : w0.heap.size ≤ M2
  h3 : w0.heap.size ≤ M3
section
variable {w0 wr : World} {B C M1 M2 M3 j : Nat} {q : NPl} {N : Nt} {I O : List Bus} {R : List Rg}
theorem Gv.step (h : Gv w0 B C M1 M2 M3 j q N I O R wr) {w2 : World} (hb : Below wr.heap.size wr w2) : Gv w0 B C M1 M2 M3 j q N I O R w2 :=
  ⟨h.at_.step hb, h.mi.below hb, h.mo.below hb, h.mr.below hb, h.f1, h.f2, h.f3, h.n12, h.n13, h.n23, h.h1, h.h2, h.h3⟩
theorem Gv.mono (h : Gv w0 B C M1 M2 M3 j q N I O R wr) {k : Nat} (hk : j ≤ k) : Gv w0 B C M1 M2 M3 k q N I O R wr :=
  ⟨h.at_, h.mi.mono hk, h.mo.mono hk, h.mr.mono hk, h.f1, h.f2, h.f3, h.n12, h.n13, h.n23, h.h1, h.h2, h.h3⟩
theorem Gv.lt (h : Gv w0 B C M1 M2 M3 j q N I O R wr) : M1 < wr.heap.size ∧ M2 < wr.heap.size ∧ M3 < wr.heap.size := by
  obtain ⟨_, _, e1⟩ := h.mi.block
  obtain ⟨_, _, e2⟩ := h.mo.block
  obtain ⟨_, _, e3⟩ := h.mr.block
  exact ⟨(Array.getElem?_eq_some_iff.1 e1).1, (Array.getElem?_eq_some_iff.1 e2).1, (Array.getElem?_eq_some_iff.1 e3).1⟩
theorem Gv.next (h : Gv w0 B C M1 M2 M3 j q N I O R wr) {w2 : World} {q' : NPl} {N' : Nt} (hn : NStep q wr q' w2 N') : Gv w0 B C M1 M2 M3 j q' N' I O R w2 := by
  have hL := h.at_.is.noLits
  obtain ⟨l1, l2, l3⟩ := h.lt
  refine ⟨h.at_.next hn, h.mi.kept hn.kept h.f1 hL, h.mo.kept hn.kept h.f2 hL, h.mr.kept hn.kept h.f3, fun e => ?_, fun e => ?_, fun e => ?_, h.n12, h.n13, h.n23, h.h1, h.h2, h.h3⟩
  · rcases hn.new _ e with e | e
    · exact h.f1 e
    · omega
  · rcases hn.new _ e with e | e
    · exact h.f2 e
    · omega
  · rcases hn.new _ e with e | e
    · exact h.f3 e
    · omega
/-- A step of the law. -/
theorem Gv.does (h : Gv w0 B C M1 M2 M3 j q N I O R wr) {rest : List Int} (hg : Good N rest) (hS : Small N) {s : StV} (hs : StOk wr s) {N' : Nt} {ls : List Int} {r : Int} (hd : doesN N s = (N', ls, r)) :
    Calls Try.prog 7 #[.pointer (some ⟨B, 0, none⟩), .agg #[.int .i64 s.what, .string s.name, .int .i64 s.n, .int .u32 s.a, .int .u32 s.b, .int .u32 s.c, .slice s.la s.ln s.lc]] wr fun e w' => ∃ (a : Option Addr) (c : Nat) (q' : NPl), e = .returned (.tuple #[.slice a ls.length c, .int .i64 r]) ∧ LRow w' a ls.length c ls ∧ Gv w0 B C M1 M2 M3 j q' N' I O R w' ∧ Kept q.has wr w' := by
  have := Does_any wr q N rest s h.at_.is hg hS hs trivial
  rw [hd, h.at_.b] at this
  exact this.mono fun _ w' ⟨a, c, he, hl, q', hn⟩ => ⟨a, c, q', he, hl, h.next hn, hn.kept⟩
theorem AtN.mapTurned (h : AtN w0 B C wr q N) {w7 : World} {M : Nat} (hg : wr.grownBy w7 (some M)) {es : Array MapEntry} {cl : Nat} (hb : wr.heap[M]? = some (.map es cl)) (hf : ¬ q.has M) (hM : w0.heap.size ≤ M) : AtN w0 B C w7 q N :=
  ⟨h.is.beside (kept_grown hg) (fun k e => by cases e; exact hf) (noLits_map hb), h.b, h.gb, h.out, h.below.grown hg h.below.size (fun k e => by cases e; exact hM)⟩
theorem Gv.put1 (h : Gv w0 B C M1 M2 M3 j q N I O R wr) {w7 : World} {I' : List Bus} (hb : BMap w7 M1 (j + 1) I') (hg : wr.grownBy w7 (some M1)) : Gv w0 B C M1 M2 M3 (j + 1) q N I' O R w7 := by
  obtain ⟨es, cl, e⟩ := h.mi.block
  have hk := kept_grown hg
  have hL := noLits_map e
  have n1 : ¬ some M1 = some M2 := fun e => h.n12 (by simpa using e)
  have n2 : ¬ some M1 = some M3 := fun e => h.n13 (by simpa using e)
  exact ⟨h.at_.mapTurned hg e h.f1 h.h1, hb, (h.mo.kept hk n1 hL).mono (by omega), (h.mr.kept hk n2).mono (by omega), h.f1, h.f2, h.f3, h.n12, h.n13, h.n23, h.h1, h.h2, h.h3⟩
theorem Gv.put2 (h : Gv w0 B C M1 M2 M3 j q N I O R wr) {w7 : World} {O' : List Bus} (hb : BMap w7 M2 (j + 1) O') (hg : wr.grownBy w7 (some M2)) : Gv w0 B C M1 M2 M3 (j + 1) q N I O' R w7 := by
  obtain ⟨es, cl, e⟩ := h.mo.block
  have hk := kept_grown hg
  have hL := noLits_map e
  have n1 : ¬ some M2 = some M1 := fun e => h.n12 (by simpa using e.symm)
  have n2 : ¬ some M2 = some M3 := fun e => h.n23 (by simpa using e)
  exact ⟨h.at_.mapTurned hg e h.f2 h.h2, (h.mi.kept hk n1 hL).mono (by omega), hb, (h.mr.kept hk n2).mono (by omega), h.f1, h.f2, h.f3, h.n12, h.n13, h.n23, h.h1, h.h2, h.h3⟩
theorem Gv.put3 (h : Gv w0 B C M1 M2 M3 j q N I O R wr) {w7 : World} {R' : List Rg} (hb : RMap w7 M3 (j + 1) R') (hg : wr.grownBy w7 (some M3)) : Gv w0 B C M1 M2 M3 (j + 1) q N I O R' w7 := by
  obtain ⟨es, cl, e⟩ := h.mr.block
  have hk := kept_grown hg
  have hL := noLits_map e
  have n1 : ¬ some M3 = some M1 := fun e => h.n13 (by simpa using e.symm)
  have n2 : ¬ some M3 = some M2 := fun e => h.n23 (by simpa using e.symm)
  exact ⟨h.at_.mapTurned hg e h.f3 h.h3, (h.mi.kept hk n1 hL).mono (by omega), (h.mo.kept hk n2 hL).mono (by omega), hb, h.f1, h.f2, h.f3, h.n12, h.n13, h.n23, h.h1, h.h2, h.h3⟩
end

theorem small_len {j : Nat} (h : j ≤ 100) : j < maxLen := by unfold maxLen; omega
section
variable {ops : Array Oper} {rest : List Oper} {o : Oper} {a : Act} {Q : Exit → Act → World → Prop} {wr : World} {M j : Nat}
/-- m[s] = row, of a name that m has not. -/
theorem wp_put_bus (hg : o.guard = none) (m x v : Operand) (hop : o.op = Op.mapUpdate 60 m x v) {L : List Bus} (hM : BMap wr M j L) (hj : j ≤ 100) {s : ByteArray} {A : Option Addr} {n c : Nat} {l : List Int}
    (hm : a.eval m = .map (some M)) (hx : a.eval x = .string s) (hv : a.eval v = .slice A n c) (hs : s.size ≤ 80) (hn : (atB L s).isSome ≠ true) (hr : LRow wr A n c l)
    (hK : ∀ w7, BMap w7 M (j + 1) (L ++ [⟨s, l⟩]) → wr.grownBy w7 (some M) → wpList Try.prog ops Q rest (a.put o.dst undef) w7) : wpList Try.prog ops Q (o :: rest) a wr := by
  obtain ⟨k, D, hk, hB⟩ := hM
  have hs2 : s.size ≤ maxLen := Nat.le_trans hs (by unfold maxLen; omega)
  exact wpList_mapUpdate_own wr hg m x v 60 hop 9 39 slaw Try.underlying60 tokR M k D hm hB.own (small_len (by omega)) _ _ (skey s) hx hv (skey_of s hs2) (.held (.slice A n c)) [] rfl
    (fun w7 ho hgr => hK w7 ⟨k + 1, _, by omega, hB.put hs2 hn hr ho hgr⟩ hgr)
/-- m[x] = [2]lit.Lit{0, 0}, of a register that m has not. -/
theorem wp_put_reg (hg : o.guard = none) (m x v : Operand) (hop : o.op = Op.mapUpdate 61 m x v) {R : List Rg} (hM : RMap wr M j R) (hj : j ≤ 100) {y : Int} (i : Bool)
    (hm : a.eval m = .map (some M)) (hx : a.eval x = .int .u32 y) (hv : a.eval v = .agg #[.int .u32 0, .int .u32 0]) (hy : IsLit y) (hn : ∀ r ∈ R, r.q ≠ y)
    (hK : ∀ w7, RMap w7 M (j + 1) (R ++ [⟨y, 0, 0, i⟩]) → wr.grownBy w7 (some M) → wpList Try.prog ops Q rest (a.put o.dst undef) w7) : wpList Try.prog ops Q (o :: rest) a wr := by
  obtain ⟨k, D, hk, hB⟩ := hM
  exact wpList_mapUpdate_own wr hg m x v 61 hop 50 62 llaw Try.underlying61 tokR M k D hm hB.own (small_len (by omega)) _ _ (lkey y) hx hv (lkey_of hy) (.held _) [] rfl
    (fun w7 ho hgr => hK w7 ⟨k + 1, _, by omega, hB.put hy hn ho⟩ hgr)
/-- m[x] = [2]lit.Lit{d, en}, of a register that m has. -/
theorem wp_set_reg (hg : o.guard = none) (m x v : Operand) (hop : o.op = Op.mapUpdate 61 m x v) {R : List Rg} (hM : RMap wr M j R) (hj : j ≤ 100) {y d en : Int} {t : Nat}
    (hm : a.eval m = .map (some M)) (hx : a.eval x = .int .u32 y) (hv : a.eval v = .agg #[.int .u32 d, .int .u32 en]) (hy : IsLit y) (ht : regAt R y = some t) (hd : (R.map (fun r => r.q)).Nodup)
    (hK : ∀ w7, RMap w7 M (j + 1) (R.modify t (setRg d en)) → wr.grownBy w7 (some M) → wpList Try.prog ops Q rest (a.put o.dst undef) w7) : wpList Try.prog ops Q (o :: rest) a wr := by
  obtain ⟨k, D, hk, hB⟩ := hM
  exact wpList_mapUpdate_own wr hg m x v 61 hop 50 62 llaw Try.underlying61 tokR M k D hm hB.own (small_len (by omega)) _ _ (lkey y) hx hv (lkey_of hy) (.held _) [] rfl
    (fun w7 ho hgr => hK w7 ⟨k + 1, _, by omega, hB.set hy ht hd ho⟩ hgr)
theorem zeroP (w : World) : (zeroValue 62).run Try.prog w = .ok (.agg #[.int .u32 0, .int .u32 0]) w := by kernel_rfl
/-- v, is := m[r.q]: what the register takes. -/
theorem wp_look_reg (hg : o.guard = none) (m x : Operand) (hop : o.op = Op.lookup 61 m x true) {R : List Rg} (hM : RMap wr M j R) {r : Rg} (hr : r ∈ R) (hy : IsLit r.q)
    (hm : a.eval m = .map (some M)) (hx : a.eval x = .int .u32 r.q)
    (hK : wpList Try.prog ops Q rest (a.put o.dst (.tuple #[.agg #[.int .u32 r.d, .int .u32 r.en], .bool true])) wr) : wpList Try.prog ops Q (o :: rest) a wr := by
  obtain ⟨k, D, hk, hB⟩ := hM
  refine wpList_lookup_own_ok wr hg m x 61 hop 50 62 llaw Try.underlying61 tokR (zeroP wr) (.held (.agg #[.int .u32 0, .int .u32 0])) [] rfl M k D hm hB.own _ (lkey r.q) hx (lkey_of hy) (fun v ps hv => ?_)
  have e := tok_inv hv
  rw [hB.val r hr hy] at e
  have e1 : v = .agg #[.int .u32 r.d, .int .u32 r.en] := by
    have := congrArg Prod.fst e
    simpa using this.symm
  subst e1
  have e2 : has D (lkey r.q) = true := by rw [hB.has _ hy, List.any_eq_true]; exact ⟨r, hr, by simp⟩
  rw [e2]
  exact hK
end

/-! What an accepted step adds. -/
section
variable {N N' : Nt} {s : StV} {ls : List Int}
theorem acc0 (h : doesN N s = (N', ls, 0)) (hw : s.what = 0) : ∃ k : Nat, s.n = k ∧ k ≤ 64 ∧ ls = newL N.g k ∧ N'.g.nodes.length = N.g.nodes.length + k ∧ N'.ins = N.ins ++ [⟨s.name, newL N.g k⟩] ∧ N'.regs = N.regs ∧ N'.outs = N.outs ∧ s.name.size ≤ 80 ∧ (atB N.ins s.name).isSome ≠ true := by
  unfold doesN addIn at h
  rw [if_pos hw] at h
  split at h
  · rename_i hc
    simp only [Bool.and_eq_true] at hc
    have hk := wide_iff.1 hc.2
    split at h
    · simp at h
    · rename_i hn
      simp only [Prod.mk.injEq] at h
      obtain ⟨rfl, rfl, -⟩ := h
      exact ⟨s.n.toNat, by omega, by omega, rfl, by simp only [inputsN_len], rfl, rfl, rfl, mayName_size hc.1, hn⟩
  · simp at h
theorem acc1 (h : doesN N s = (N', ls, 0)) (hw : s.what = 1) : ls = [2 * (N.g.nodes.length : Int)] ∧ N'.ins = N.ins ∧ N'.regs = N.regs ++ [⟨2 * (N.g.nodes.length : Int), 0, 0, s.n.tmod 2 != 0⟩] ∧ N'.outs = N.outs := by
  unfold doesN addReg at h
  rw [if_neg (by omega), if_pos hw] at h
  simp only [Prod.mk.injEq] at h
  obtain ⟨rfl, rfl, -⟩ := h
  exact ⟨rfl, rfl, rfl, rfl⟩
theorem acc2 (h : doesN N s = (N', ls, 0)) (hw : s.what = 2) : ∃ t, regAt N.regs s.a = some t ∧ N'.ins = N.ins ∧ N'.regs = N.regs.modify t (setRg s.b s.c) ∧ N'.outs = N.outs := by
  unfold doesN setReg at h
  rw [if_neg (by omega), if_neg (by omega), if_pos hw] at h
  split at h
  · simp at h
  · rename_i t ht
    split at h
    · simp only [Prod.mk.injEq] at h
      obtain ⟨rfl, rfl, -⟩ := h
      exact ⟨t, ht, rfl, rfl, rfl⟩
    · simp at h
theorem acc3 (h : doesN N s = (N', ls, 0)) (hw : s.what = 3) : N'.ins = N.ins ∧ N'.regs = N.regs ∧ N'.outs = N.outs ++ [⟨s.name, s.zs.take 70⟩] ∧ s.name.size ≤ 80 ∧ (atB N.outs s.name).isSome ≠ true := by
  unfold doesN addOut at h
  rw [if_neg (by omega), if_neg (by omega), if_neg (by omega), if_pos hw] at h
  split at h
  · rename_i hc
    simp only [Bool.and_eq_true] at hc
    split at h
    · simp at h
    · rename_i hn
      simp only [Prod.mk.injEq] at h
      obtain ⟨rfl, rfl, -⟩ := h
      exact ⟨rfl, rfl, rfl, mayName_size hc.1, hn⟩
  · simp at h
theorem acc4 (h : doesN N s = (N', ls, 0)) (h0 : s.what ≠ 0) (h1 : s.what ≠ 1) (h2 : s.what ≠ 2) (h3 : s.what ≠ 3) : N'.ins = N.ins ∧ N'.regs = N.regs ∧ N'.outs = N.outs := by
  unfold doesN at h
  rw [if_neg h0, if_neg h1, if_neg h2, if_neg h3] at h
  split at h
  · simp only [Prod.mk.injEq] at h
    obtain ⟨rfl, -, -⟩ := h
    exact gate_same andG N s.b s.c
  · split at h
    · simp only [Prod.mk.injEq] at h
      obtain ⟨rfl, -, -⟩ := h
      exact gate_same xorG N s.b s.c
    · split at h <;> (simp only [Prod.mk.injEq] at h; obtain ⟨rfl, -, -⟩ := h; exact ⟨rfl, rfl, rfl⟩)
/-- What a step leaves is well formed, whatever it is. -/
theorem doesN_goodE {rest : List Int} (hg : Good N rest) (hS : Small N) {w : World} (hs : StOk w s) : ∃ rest', Good (doesN N s).1 rest' := by
  by_cases h8 : s.what = 8
  · unfold doesN
    rw [if_neg (by omega), if_neg (by omega), if_neg (by omega), if_neg (by omega), if_neg (by omega), if_neg (by omega), if_pos h8]
    exact ⟨_, hg.input⟩
  · exact ⟨rest, doesN_good hg hS hs h8⟩
end
/-- A new register's Q is no register's yet. -/
theorem Good.freshQ {N : Nt} {rest : List Int} (hg : Good N rest) : ∀ r ∈ N.regs, r.q ≠ 2 * (N.g.nodes.length : Int) := fun r hr e => by
  obtain ⟨i, e1, _, h1⟩ := hg.left.lit r.q (by unfold takenN; simp; exact .inr (.inl ⟨r, hr, rfl⟩))
  omega
end Go.Proofs.Ytjdebancpgpebaa
