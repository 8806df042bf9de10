/-
  Where a netlist lies: its own struct, its graph, its buses and registers; what is left as it was.
-/
import Derived.Test.YtjdebancpgpebaaNetM
import Derived.Test.YtjdebancpgpebaaAigAt
namespace Go.Proofs.Ytjdebancpgpebaa
open Go.RowKit Go.Maps
set_option maxRecDepth 100000

/-- A row of literals. -/
structure LRow (w : World) (a : Option Addr) (n c : Nat) (l : List Int) : Prop where
  len : l.length = n
  own : w.ownsRow 0 50 1 (.slice a n c) n (l.map (Value.int .u32))
theorem LRow.below {w w' : World} {a : Option Addr} {n c : Nat} {l : List Int} (h : LRow w a n c l) (hb : Below w.heap.size w w') : LRow w' a n c l := ⟨h.len, own_below h.own hb⟩
theorem own_maxLen {w : World} {base e size n : Nat} {v : Value} {xs : List Value} (h : w.ownsRow base e size v n xs) : n ≤ 9223372036854775807 := by
  rcases h.2 with ⟨_, h0⟩ | ⟨g, cap, cur, _, _, _, h1, h2, _⟩
  · omega
  · unfold maxLen at h2; omega
theorem LRow.row {w : World} {a : Option Addr} {n c : Nat} {l : List Int} (h : LRow w a n c l) : Row .u32 w a n l := Row.of_own h.own h.len (own_maxLen h.own)
theorem LRow.cap {w : World} {a : Option Addr} {n c : Nat} {l : List Int} (h : LRow w a n c l) : n ≤ c := own_cap h.own
theorem LRow.keptF {F : Nat → Prop} {w w' : World} {a : Option Addr} {n c : Nat} {l : List Int} (h : LRow w a n c l) (hk : Kept F w w') (hF : ∀ k cur fz, F k → w.heap[k]? ≠ some (.cells cur 50 fz)) : LRow w' a n c l :=
  ⟨h.len, own_keptF h.own hk (fun k e hf => by obtain ⟨cur, hh⟩ := own_type h.own e; exact hF k cur _ hf hh)⟩

/-- A bus, as it lies in a row. -/
structure BV where
  name : ByteArray
  a : Option Addr
  n : Nat
  c : Nat
def bvc (k : BV) : List Value := [.string k.name, .slice k.a k.n k.c]
def bvCells (K : List BV) : List Value := K.flatMap bvc
theorem bvCells_push (K : List BV) (k : BV) : bvCells (K ++ [k]) = bvCells K ++ [.string k.name, .slice k.a k.n k.c] := by simp [bvCells, bvc]
theorem bvCells_len (K : List BV) : (bvCells K).length = K.length * 2 := by
  induction K with
  | nil => rfl
  | cons k K ih => rw [show bvCells (k :: K) = bvc k ++ bvCells K from rfl, List.length_append, ih]; simp [bvc]; omega
theorem bvCells_at (K : List BV) (i : Nat) (k : BV) (h : K[i]? = some k) : (bvCells K)[2 * i]? = some (.string k.name) ∧ (bvCells K)[2 * i + 1]? = some (.slice k.a k.n k.c) := by
  induction K generalizing i with
  | nil => simp at h
  | cons m K ih =>
    rw [show bvCells (m :: K) = bvc m ++ bvCells K from rfl]
    match i with
    | 0 => simp at h; subst h; exact ⟨rfl, rfl⟩
    | i + 1 =>
      have := ih i (by simpa using h)
      rw [List.getElem?_append_right (by simp [bvc]; omega), List.getElem?_append_right (by simp [bvc]; omega)]
      rw [show 2 * (i + 1) - (bvc m).length = 2 * i by simp [bvc]; omega, show 2 * (i + 1) + 1 - (bvc m).length = 2 * i + 1 by simp [bvc]; omega]
      exact this
theorem bv_one (K : List BV) : ∀ u ∈ bvCells K, u.oneCell' = true := by
  intro u hu
  obtain ⟨n, -, hn⟩ := List.mem_flatMap.1 hu
  simp [bvc] at hn
  rcases hn with rfl | rfl <;> rfl

structure BusAt (w : World) (v : Value) (L : List Bus) (K : List BV) : Prop where
  own : w.ownsRow 0 46 2 v L.length (bvCells K)
  len : K.length = L.length
  row : ∀ (i : Nat) (k : BV) (b : Bus), K[i]? = some k → L[i]? = some b → k.name = b.name ∧ LRow w k.a k.n k.c b.lits
def BusRow (w : World) (v : Value) (L : List Bus) : Prop := ∃ K, BusAt w v L K
theorem BusRow.nil (w : World) : BusRow w (.slice none 0 0) [] := ⟨[], ⟨rfl, .inl ⟨rfl, rfl⟩⟩, rfl, fun i k b h => by simp at h⟩
theorem BusAt.below {w w' : World} {v : Value} {L : List Bus} {K : List BV} (h : BusAt w v L K) (hb : Below w.heap.size w w') : BusAt w' v L K :=
  ⟨own_below h.own hb, h.len, fun i k b e1 e2 => ⟨(h.row i k b e1 e2).1, (h.row i k b e1 e2).2.below hb⟩⟩
theorem BusRow.below {w w' : World} {v : Value} {L : List Bus} (h : BusRow w v L) (hb : Below w.heap.size w w') : BusRow w' v L := let ⟨K, hK⟩ := h; ⟨K, hK.below hb⟩
/-- F holds no block of literals. -/
def NoLits (w : World) (F : Nat → Prop) : Prop := ∀ k cur fz, F k → w.heap[k]? ≠ some (.cells cur 50 fz)
theorem BusAt.keptF {F : Nat → Prop} {w w' : World} {v : Value} {L : List Bus} {K : List BV} (h : BusAt w v L K) (hk : Kept F w w') (hn : ∀ k, v.ownBlock = some k → ¬ F k) (hF : NoLits w F) : BusAt w' v L K :=
  ⟨own_keptF h.own hk hn, h.len, fun i k b e1 e2 => ⟨(h.row i k b e1 e2).1, (h.row i k b e1 e2).2.keptF hk hF⟩⟩
theorem BusRow.keptF {F : Nat → Prop} {w w' : World} {v : Value} {L : List Bus} (h : BusRow w v L) (hk : Kept F w w') (hn : ∀ k, v.ownBlock = some k → ¬ F k) (hF : NoLits w F) : BusRow w' v L := let ⟨K, hK⟩ := h; ⟨K, hK.keptF hk hn hF⟩
/-- The bus at a place. -/
theorem BusRow.at {w : World} {a : Option Addr} {n c : Nat} {L : List Bus} (h : BusRow w (.slice a n c) L) {j : Nat} (hj : j < L.length) :
    ∃ (g : Nat) (la : Option Addr) (lc : Nat), a = some ⟨g, 0, none⟩ ∧ g < w.heap.size ∧ w.cell? ⟨g, j * 2, none⟩ = some (.string L[j].name) ∧ w.cell? ⟨g, j * 2 + 1, none⟩ = some (.slice la L[j].lits.length lc) ∧ LRow w la L[j].lits.length lc L[j].lits := by
  obtain ⟨K, hK⟩ := h
  obtain ⟨g, cap, e⟩ := own_form hK.own (by omega)
  have ho := hK.own
  rw [e] at ho
  have hl := bvCells_len K
  have hjK : j < K.length := by rw [hK.len]; exact hj
  obtain ⟨e0, e1⟩ := bvCells_at K j K[j] (List.getElem?_eq_getElem hjK)
  obtain ⟨n1, n2⟩ := hK.row j K[j] L[j] (List.getElem?_eq_getElem hjK) (List.getElem?_eq_getElem hj)
  have hn := n2.len
  simp only [Value.slice.injEq] at e
  refine ⟨g, K[j].a, K[j].c, e.1, own_lt ho, ?_, ?_, ?_⟩
  · rw [ho.cellAt _ (by omega), Nat.mul_comm j 2, e0, n1]
  · rw [ho.cellAt _ (by omega), Nat.mul_comm j 2, e1, hn]
  · rw [hn]; exact n2
theorem BusRow.slice {w : World} {v : Value} {L : List Bus} (h : BusRow w v L) : ∃ a c, v = .slice a L.length c := by
  obtain ⟨K, hK⟩ := h
  exact own_slice hK.own

def rgc (r : Rg) : List Value := [.int .u32 r.q, .int .u32 r.d, .int .u32 r.en, .bool r.init]
def rgCells (R : List Rg) : List Value := R.flatMap rgc
theorem rgCells_push (R : List Rg) (r : Rg) : rgCells (R ++ [r]) = rgCells R ++ [.int .u32 r.q, .int .u32 r.d, .int .u32 r.en, .bool r.init] := by simp [rgCells, rgc]
theorem rgCells_len (R : List Rg) : (rgCells R).length = R.length * 4 := by
  induction R with
  | nil => rfl
  | cons k K ih => rw [show rgCells (k :: K) = rgc k ++ rgCells K from rfl, List.length_append, ih]; simp [rgc]; omega
theorem rgCells_at (R : List Rg) (i : Nat) (r : Rg) (h : R[i]? = some r) : (rgCells R)[4 * i]? = some (.int .u32 r.q) ∧ (rgCells R)[4 * i + 1]? = some (.int .u32 r.d) ∧ (rgCells R)[4 * i + 2]? = some (.int .u32 r.en) ∧ (rgCells R)[4 * i + 3]? = some (.bool r.init) := by
  induction R generalizing i with
  | nil => simp at h
  | cons m R ih =>
    rw [show rgCells (m :: R) = rgc m ++ rgCells R from rfl]
    match i with
    | 0 => simp at h; subst h; exact ⟨rfl, rfl, rfl, rfl⟩
    | i + 1 =>
      have := ih i (by simpa using h)
      rw [List.getElem?_append_right (by simp [rgc]; omega), List.getElem?_append_right (by simp [rgc]; omega), List.getElem?_append_right (by simp [rgc]; omega), List.getElem?_append_right (by simp [rgc]; omega)]
      rw [show 4 * (i + 1) - (rgc m).length = 4 * i by simp [rgc]; omega, show 4 * (i + 1) + 1 - (rgc m).length = 4 * i + 1 by simp [rgc]; omega, show 4 * (i + 1) + 2 - (rgc m).length = 4 * i + 2 by simp [rgc]; omega, show 4 * (i + 1) + 3 - (rgc m).length = 4 * i + 3 by simp [rgc]; omega]
      exact this
theorem rg_one (R : List Rg) : ∀ u ∈ rgCells R, u.oneCell' = true := by
  intro u hu
  obtain ⟨n, -, hn⟩ := List.mem_flatMap.1 hu
  simp [rgc] at hn
  rcases hn with rfl | rfl | rfl | rfl <;> rfl
def RegRow (w : World) (v : Value) (R : List Rg) : Prop := w.ownsRow 0 52 4 v R.length (rgCells R)
theorem RegRow.at {w : World} {a : Option Addr} {n c : Nat} {R : List Rg} (h : RegRow w (.slice a n c) R) {j : Nat} (hj : j < R.length) :
    ∃ g : Nat, a = some ⟨g, 0, none⟩ ∧ g < w.heap.size ∧ w.cell? ⟨g, j * 4, none⟩ = some (.int .u32 R[j].q) ∧ w.cell? ⟨g, j * 4 + 1, none⟩ = some (.int .u32 R[j].d) ∧ w.cell? ⟨g, j * 4 + 2, none⟩ = some (.int .u32 R[j].en) ∧ w.cell? ⟨g, j * 4 + 3, none⟩ = some (.bool R[j].init) := by
  obtain ⟨g, cap, e⟩ := own_form h (by omega)
  unfold RegRow at h
  rw [e] at h
  have hl := rgCells_len R
  obtain ⟨e0, e1, e2, e3⟩ := rgCells_at R j R[j] (List.getElem?_eq_getElem hj)
  simp only [Value.slice.injEq] at e
  refine ⟨g, e.1, own_lt h, ?_, ?_, ?_, ?_⟩
  · rw [h.cellAt _ (by omega), Nat.mul_comm j 4, e0]
  · rw [h.cellAt _ (by omega), Nat.mul_comm j 4, e1]
  · rw [h.cellAt _ (by omega), Nat.mul_comm j 4, e2]
  · rw [h.cellAt _ (by omega), Nat.mul_comm j 4, e3]

/-- A netlist's place. -/
structure NPl where
  b : Nat
  g : Pl
  iv : Value
  rv : Value
  ov : Value
def NPl.has (q : NPl) (k : Nat) : Prop := k = q.b ∨ q.g.has k ∨ q.iv.ownBlock = some k ∨ q.rv.ownBlock = some k ∨ q.ov.ownBlock = some k
def netBox (q : NPl) (s : ByteArray) : Obj := .cells #[.pointer (some ⟨q.g.b, 0, none⟩), .string s, q.iv, q.rv, q.ov] 33 (0, 0)

structure NetIs (w : World) (q : NPl) (N : Nt) : Prop where
  box : w.heap[q.b]? = some (netBox q N.name)
  g : Is w q.g N.g
  ins : BusRow w q.iv N.ins
  regs : RegRow w q.rv N.regs
  outs : BusRow w q.ov N.outs
  apart : ∀ k, q.iv.ownBlock = some k → q.ov.ownBlock ≠ some k

theorem NetIs.lt {w : World} {q : NPl} {N : Nt} (h : NetIs w q N) : q.b < w.heap.size := (Array.getElem?_eq_some_iff.1 h.box).1
theorem BusRow.type {w : World} {v : Value} {L : List Bus} (h : BusRow w v L) {k : Nat} (hk : v.ownBlock = some k) : ∃ cur, w.heap[k]? = some (.cells cur 46 (0, 0)) := by
  obtain ⟨K, hK⟩ := h
  exact own_type hK.own hk
theorem NetIs.has_lt {w : World} {q : NPl} {N : Nt} (h : NetIs w q N) {k : Nat} (hk : q.has k) : k < w.heap.size := by
  rcases hk with rfl | hk | hk | hk | hk
  · exact h.lt
  · exact h.g.has_lt hk
  · obtain ⟨c, hc⟩ := h.ins.type hk; exact (Array.getElem?_eq_some_iff.1 hc).1
  · obtain ⟨c, hc⟩ := own_type h.regs hk; exact (Array.getElem?_eq_some_iff.1 hc).1
  · obtain ⟨c, hc⟩ := h.outs.type hk; exact (Array.getElem?_eq_some_iff.1 hc).1
/-- A row of another type lies elsewhere. -/
theorem NetIs.other {w : World} {q : NPl} {N : Nt} (h : NetIs w q N) {k T : Nat} {cur : Array Value} {fz : Nat × Nat} (hk : w.heap[k]? = some (.cells cur T fz)) (h1 : T ≠ 92) (h2 : T ≠ 98) (h3 : T ≠ 3) (h4 : T ≠ 33) (h5 : T ≠ 46) (h6 : T ≠ 52) : ¬ q.has k := by
  intro hp
  rcases hp with rfl | hp | hp | hp | hp
  · rw [h.box] at hk; simp [netBox] at hk; exact h4 hk.2.1.symm
  · exact h.g.other hk h1 h2 h3 hp
  · obtain ⟨c, hc⟩ := h.ins.type hp; rw [hc] at hk; simp at hk; exact h5 hk.2.1.symm
  · obtain ⟨c, hc⟩ := own_type h.regs hp; rw [hc] at hk; simp at hk; exact h6 hk.2.1.symm
  · obtain ⟨c, hc⟩ := h.outs.type hp; rw [hc] at hk; simp at hk; exact h5 hk.2.1.symm
theorem NetIs.noLits {w : World} {q : NPl} {N : Nt} (h : NetIs w q N) : NoLits w q.has := fun _ _ _ hp hk => h.other hk (by decide) (by decide) (by decide) (by decide) (by decide) (by decide) hp
/-- The graph's blocks are none of the netlist's own. -/
theorem NetIs.gFar {w : World} {q : NPl} {N : Nt} (h : NetIs w q N) {k : Nat} (hk : q.g.has k) : k ≠ q.b ∧ q.iv.ownBlock ≠ some k ∧ q.rv.ownBlock ≠ some k ∧ q.ov.ownBlock ≠ some k := by
  refine ⟨?_, ?_, ?_, ?_⟩
  · rintro rfl; exact h.g.other h.box (by decide) (by decide) (by decide) hk
  · intro e; obtain ⟨c, hc⟩ := h.ins.type e; exact h.g.other hc (by decide) (by decide) (by decide) hk
  · intro e; obtain ⟨c, hc⟩ := own_type h.regs e; exact h.g.other hc (by decide) (by decide) (by decide) hk
  · intro e; obtain ⟨c, hc⟩ := h.outs.type e; exact h.g.other hc (by decide) (by decide) (by decide) hk
theorem NetIs.bFar {w : World} {q : NPl} {N : Nt} (h : NetIs w q N) : q.iv.ownBlock ≠ some q.b ∧ q.rv.ownBlock ≠ some q.b ∧ q.ov.ownBlock ≠ some q.b := by
  have hb := h.box
  refine ⟨?_, ?_, ?_⟩
  · intro e; obtain ⟨c, hc⟩ := h.ins.type e; rw [hc] at hb; simp [netBox] at hb
  · intro e; obtain ⟨c, hc⟩ := own_type h.regs e; rw [hc] at hb; simp [netBox] at hb
  · intro e; obtain ⟨c, hc⟩ := h.outs.type e; rw [hc] at hb; simp [netBox] at hb
theorem NetIs.rFar {w : World} {q : NPl} {N : Nt} (h : NetIs w q N) {k : Nat} (hk : q.rv.ownBlock = some k) : q.iv.ownBlock ≠ some k ∧ q.ov.ownBlock ≠ some k := by
  obtain ⟨c, hc⟩ := own_type h.regs hk
  refine ⟨?_, ?_⟩
  · intro e; obtain ⟨d, hd⟩ := h.ins.type e; rw [hc] at hd; simp at hd
  · intro e; obtain ⟨d, hd⟩ := h.outs.type e; rw [hc] at hd; simp at hd

theorem NetIs.below {w w' : World} {q : NPl} {N : Nt} (h : NetIs w q N) (hb : Below w.heap.size w w') : NetIs w' q N :=
  ⟨(hb.block _ h.lt).trans h.box, h.g.below hb, h.ins.below hb, own_below h.regs hb, h.outs.below hb, h.apart⟩
/-- As it was, where what turned is none of its blocks, and none of literals. -/
theorem NetIs.beside {w w' : World} {q : NPl} {N : Nt} {F : Nat → Prop} (h : NetIs w q N) (hk : Kept F w w') (hF : ∀ k, F k → ¬ q.has k) (hL : NoLits w F) : NetIs w' q N :=
  ⟨(hk.block _ h.lt (fun hf => hF _ hf (.inl rfl))).trans h.box, h.g.beside hk (fun k hf hp => hF k hf (.inr (.inl hp))),
   h.ins.keptF hk (fun k e hf => hF k hf (.inr (.inr (.inl e)))) hL, own_keptF h.regs hk (fun k e hf => hF k hf (.inr (.inr (.inr (.inl e))))), h.outs.keptF hk (fun k e hf => hF k hf (.inr (.inr (.inr (.inr e))))) hL, h.apart⟩

/-- One step on: the netlist is N' now; the rest is as it was. -/
structure NStep (q : NPl) (w : World) (q' : NPl) (w' : World) (N' : Nt) : Prop where
  is : NetIs w' q' N'
  kept : Kept q.has w w'
  b : q'.b = q.b
  gb : q'.g.b = q.g.b
  new : ∀ k, q'.has k → q.has k ∨ w.heap.size ≤ k
theorem NStep.refl {q : NPl} {w : World} {N : Nt} (h : NetIs w q N) : NStep q w q w N := ⟨h, Kept.refl _ _, rfl, rfl, fun _ h => .inl h⟩
theorem NStep.of_below {q : NPl} {w w' : World} {N : Nt} (h : NetIs w q N) (hb : Below w.heap.size w w') : NStep q w q w' N := ⟨h.below hb, Kept.of_below hb, rfl, rfl, fun _ h => .inl h⟩
theorem NStep.trans {q q1 q2 : NPl} {w w1 w2 : World} {N1 N2 : Nt} (h : NStep q w q1 w1 N1) (k : NStep q1 w1 q2 w2 N2) : NStep q w q2 w2 N2 :=
  ⟨k.is, h.kept.trans k.kept h.new, k.b.trans h.b, k.gb.trans h.gb, fun x hx => by
    rcases k.new x hx with h1 | h1
    · exact h.new x h1
    · exact .inr (Nat.le_trans h.kept.size h1)⟩
theorem NStep.then {q q1 : NPl} {w w1 w2 : World} {N1 : Nt} (h : NStep q w q1 w1 N1) (hb : Below w1.heap.size w1 w2) : NStep q w q1 w2 N1 := h.trans (NStep.of_below h.is hb)
theorem NStep.front {q q1 : NPl} {w w1 w2 : World} {N N1 : Nt} (hN : NetIs w q N) (hb : Below w.heap.size w w1) (h : NStep q w1 q1 w2 N1) : NStep q w q1 w2 N1 := (NStep.of_below hN hb).trans h
/-- The graph grows. -/
theorem NetIs.grow {w w' : World} {q : NPl} {N : Nt} {p' : Pl} {G' : Gr} (h : NetIs w q N) (hs : Step q.g w p' w' G') : NStep q w { q with g := p' } w' { N with g := G' } := by
  have hF : NoLits w q.g.has := fun k c fz hp => h.noLits k c fz (.inr (.inl hp))
  refine ⟨⟨?_, hs.is, h.ins.keptF hs.kept (fun k e hp => (h.gFar hp).2.1 e) hF, own_keptF h.regs hs.kept (fun k e hp => (h.gFar hp).2.2.1 e), h.outs.keptF hs.kept (fun k e hp => (h.gFar hp).2.2.2 e) hF, h.apart⟩, ?_, rfl, hs.b, ?_⟩
  · have := (hs.kept.block _ h.lt (fun hp => (h.gFar hp).1 rfl)).trans h.box
    unfold netBox at this ⊢
    simp only [hs.b]; exact this
  · exact ⟨hs.kept.os, hs.kept.tape, hs.kept.output, hs.kept.size, fun k hk hn => hs.kept.block k hk (fun hp => hn (.inr (.inl hp)))⟩
  · intro k hk
    rcases hk with hk | hk | hk | hk | hk
    · exact .inl (.inl hk)
    · rcases hs.new k hk with h1 | h1
      · exact .inl (.inr (.inl h1))
      · exact .inr h1
    · exact .inl (.inr (.inr (.inl hk)))
    · exact .inl (.inr (.inr (.inr (.inl hk))))
    · exact .inl (.inr (.inr (.inr (.inr hk))))
/-- The cells of the netlist's own struct. -/
theorem NetIs.cells {w : World} {q : NPl} {N : Nt} (h : NetIs w q N) :
    ∃ (ia : Option Addr) (ic : Nat) (ra : Option Addr) (rc : Nat) (oa : Option Addr) (oc : Nat), q.iv = .slice ia N.ins.length ic ∧ q.rv = .slice ra N.regs.length rc ∧ q.ov = .slice oa N.outs.length oc ∧
      w.cell? ⟨q.b, 0, none⟩ = some (.pointer (some ⟨q.g.b, 0, none⟩)) ∧ w.cell? ⟨q.b, 1, none⟩ = some (.string N.name) ∧ w.cell? ⟨q.b, 2, none⟩ = some (.slice ia N.ins.length ic) ∧ w.cell? ⟨q.b, 3, none⟩ = some (.slice ra N.regs.length rc) ∧ w.cell? ⟨q.b, 4, none⟩ = some (.slice oa N.outs.length oc)
      ∧ ∀ o, w.frozen? ⟨q.b, o, none⟩ = false := by
  have hb := h.box
  obtain ⟨ia, ic, e1⟩ := h.ins.slice
  obtain ⟨ra, rc, e2⟩ := own_slice h.regs
  obtain ⟨oa, oc, e3⟩ := h.outs.slice
  refine ⟨ia, ic, ra, rc, oa, oc, e1, e2, e3, ?_, ?_, ?_, ?_, ?_, fun o => ?_⟩ <;> simp [World.cell?, World.frozen?, hb, netBox, e1, e2, e3]
end Go.Proofs.Ytjdebancpgpebaa
