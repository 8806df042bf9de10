/-
  AigOnce: what is held along the way.
-/
import Derived.Test.YtlbmbpkabmihnaaOnceA
import Derived.Test.YtlbmbpkabmihnaaAigT
namespace Go.Proofs.Ytlbmbpkabmihnaa
open Go.RowKit Go.Maps

/-- Cells of a row of calls. -/
def actCell (A : ActV) : List Value := [.int .i64 A.what, .slice A.a A.n A.c]
def actCells (L : List ActV) : List Value := L.flatMap actCell
theorem actCells_push (L : List ActV) (A : ActV) : actCells (L ++ [A]) = actCells L ++ actCell A := by simp [actCells]
theorem actCells_at (L : List ActV) (i : Nat) (A : ActV) (h : L[i]? = some A) : (actCells L)[i * 2]? = some (.int .i64 A.what) ∧ (actCells L)[i * 2 + 1]? = some (.slice A.a A.n A.c) := by
  induction L generalizing i with
  | nil => simp at h
  | cons B L ih =>
    rw [show actCells (B :: L) = actCell B ++ actCells L from rfl]
    match i with
    | 0 => simp at h; subst h; exact ⟨rfl, rfl⟩
    | i + 1 =>
      have := ih i (by simpa using h)
      rw [List.getElem?_append_right (by simp [actCell]; omega), List.getElem?_append_right (by simp [actCell]; omega)]
      rw [show (i + 1) * 2 - (actCell B).length = i * 2 by simp [actCell]; omega, show (i + 1) * 2 + 1 - (actCell B).length = i * 2 + 1 by simp [actCell]; omega]
      exact this
def ActOk (w : World) (A : ActV) : Prop := Row .u32 w A.a A.n A.zs ∧ A.n ≤ A.c ∧ ∀ k, IsLit (A.zs.getD k 0)
theorem ActOk.zero (w : World) : ActOk w act0 := ⟨⟨rfl, by simp [act0], .inl rfl⟩, Nat.le_refl _, fun k => by unfold IsLit; simp [act0]⟩
theorem ActOk.step {w w2 : World} {A : ActV} (h : ActOk w A) (hb : Below w.heap.size w w2) : ActOk w2 A := ⟨h.1.step hb, h.2⟩
/-- A row of calls that was built reads as one. -/
theorem acts_own {w : World} {base : Nat} {v : Value} {L : List ActV} {n : Nat} (ho : w.ownsRow base 50 2 v n (actCells L)) (hn : n = L.length) (hn9 : n ≤ 1000) (h : ∀ A ∈ L, ActOk w A) : ∃ a c, v = .slice a n c ∧ Acts w a n L := by
  subst hn
  have each : ∀ i, i < L.length → ActOk w (L.getD i act0) := fun i hi => h _ (by simp [List.getD, hi])
  rcases ho.2 with ⟨h0, h1⟩ | ⟨g, cap, cur, hv, hg, hh, hle, -⟩
  · have hn0 : L.length = 0 := h1
    exact ⟨none, 0, by rw [h0, hn0], rfl, by omega, .inl hn0, fun i hi => absurd hi (by omega)⟩
  · subst hv
    refine ⟨_, _, rfl, rfl, by omega, ?_, each⟩
    by_cases h0 : L.length = 0
    · exact .inl h0
    · refine .inr ⟨g, 0, rfl, (Array.getElem?_eq_some_iff.1 hh).1, fun i hi => ?_⟩
      have hL : L[i]? = some (L.getD i act0) := by simp [List.getD, hi]
      obtain ⟨e0, e1⟩ := actCells_at L i _ hL
      rw [Nat.zero_add, ho.cellAt _ (by omega), ho.cellAt _ (by omega)]
      exact ⟨e0, e1⟩
theorem info_act : (Try.prog.info? 50).map (fun i => (i.zero, i.size, i.bytes)) = some (some (.agg #[.int .i64 0, .slice none 0 0]), 2, 32) := by kernel_rfl
theorem news2 {w : World} {b : Nat} {x y : Value} (h0 : w.cell? ⟨b, 0, none⟩ = some x) (h1 : w.cell? ⟨b, 1, none⟩ = some y) : ∀ (j : Nat) (u : Value), [x, y][j]? = some u → w.cell? ((⟨b, 0, none⟩ : Addr).add j) = some u := by
  intro j u h
  match j with
  | 0 => simp at h; subst h; simpa [Addr.add] using h0
  | 1 => simp at h; subst h; simpa [Addr.add] using h1
  | j + 2 => simp at h

/-- The calls that are taken of those that came in. -/
def selL (l : List ActV) : Nat → List ActV
  | 0 => []
  | j + 1 => if j < 30 ∧ 1 ≤ (l.getD j act0).what ∧ (l.getD j act0).what ≤ 4 then selL l j ++ [l.getD j act0] else selL l j
theorem selL_len (l : List ActV) (j : Nat) : (selL l j).length ≤ min j 30 := by
  induction j with
  | zero => simp [selL]
  | succ j ih =>
    unfold selL
    split
    · rename_i h; simp; omega
    · omega
theorem selL_ok {w : World} {a : Option Addr} {n : Nat} {l : List ActV} (hA : Acts w a n l) (j : Nat) (hj : j ≤ n) : ∀ A ∈ selL l j, ActOk w A := by
  induction j with
  | zero => intro A hA; simp [selL] at hA
  | succ j ih =>
    intro A hm
    unfold selL at hm
    split at hm
    · rcases List.mem_append.1 hm with hm | hm
      · exact ih (by omega) A hm
      · simp at hm; subst hm; exact hA.row j (by omega)
    · exact ih (by omega) A hm

/-- Seen: the pairs of the gates so far. -/
structure SeenOf (G : Gr) (j : Nat) (D : DataW Unit) : Prop where
  map : IsMap D
  no : ∀ a b, IsLit a → IsLit b → (∀ (i : Nat) (n : Nd), i < j → G.nodes[i]? = some n → n.gate = true → ¬ (n.a = a ∧ n.b = b)) → D.atKey (pkey a b) (.lit (.bool false)) = .lit (.bool false)
theorem seen_nil (G : Gr) : SeenOf G 0 (.map []) := ⟨isMap_empty, fun _ _ _ _ _ => rfl⟩
theorem SeenOf.skip {G : Gr} {j : Nat} {D : DataW Unit} (h : SeenOf G j D) : SeenOf G (j + 1) D := ⟨h.map, fun a b ha hb hn => h.no a b ha hb (fun i n hi => hn i n (by omega))⟩
theorem SeenOf.put {G : Gr} {j : Nat} {D : DataW Unit} (h : SeenOf G j D) {n : Nd} (hn : G.nodes[j]? = some n) (hg : n.gate = true) (ha : IsLit n.a) (hb : IsLit n.b) : SeenOf G (j + 1) (D.put (pkey n.a n.b) (.lit (.bool true))) := by
  refine ⟨h.map.put _ _, fun a b la lb hno => ?_⟩
  have hne : pkey a b ≠ pkey n.a n.b := fun he => by
    obtain ⟨x, y⟩ := pkey_inj la lb ha hb he
    exact hno j n (by omega) hn hg ⟨x.symm, y.symm⟩
  rw [atKey_put_other hne]
  exact h.no a b la lb (fun i m hi => hno i m (by omega))
theorem skey : WideMaps.ArrKey Try.prog 55 42 2 := ⟨by kernel_rfl, by kernel_rfl, by kernel_rfl, by kernel_rfl⟩
theorem slaw : Keyed Try.prog 55 := Keyed.of_law skey.law
theorem skey_pair {a b : Int} (ha : IsLit a) (hb : IsLit b) : keyOf Try.prog 55 (.agg #[.int .u32 a, .int .u32 b]) = some (pkey a b) :=
  WideMaps.keyOf_pair skey Try.underlying42 tsize (lit_wf ha) (lit_wf hb)
theorem zero_bool (w : World) : (zeroValue 4).run Try.prog w = .ok (.bool false) w := by kernel_rfl
theorem bool_inv {v : Value} {x : Bool} {ps : List MemPlace} (h : plainElem (H := Unit) Try.prog 4 v = some (.lit (.bool x), ps)) : v = .bool x := by
  unfold plainElem at h
  rw [Try.underlying4] at h
  split at h <;> simp_all
theorem seen_look {w : World} {mb n : Nat} {D : DataW Unit} {G : Gr} {j : Nat} (ho : w.ownsMap Try.prog 55 (plainElem Try.prog 4) mb n D) (hS : SeenOf G j D) {a b : Int} (ha : IsLit a) (hb : IsLit b) (hno : ∀ (i : Nat) (n : Nd), i < j → G.nodes[i]? = some n → n.gate = true → ¬ (n.a = a ∧ n.b = b))
    {w' : World} (hw : w'.ownsMap Try.prog 55 (plainElem Try.prog 4) mb n D) :
    (Instr.lookup 51 (.map (some mb)) (.agg #[.int .u32 a, .int .u32 b]) false).run Try.prog w' = .ok (.bool false) w' := by
  obtain ⟨v, ps, hrun, hv⟩ := hw.lookup slaw Try.underlying51 (zero_bool w') (plainElem_bool Try.underlying4 false) (skey_pair ha hb)
  rw [hS.no a b ha hb hno] at hv
  rw [hrun, bool_inv hv]

theorem AtG.beside {w0 w w2 : World} {B : Nat} {p : Pl} {G : Gr} (h : AtG w0 B w p G) {F : Nat → Prop} (hk : Kept F w w2) (hF : ∀ k, F k → ¬ p.has k) (ho : ∀ k, F k → w0.heap.size ≤ k) : AtG w0 B w2 p G :=
  ⟨h.is.beside hk hF, h.wf, h.b, h.out, h.below.trans (hk.below ho h.below.size), h.len⟩
theorem Mine.beside {w0 w w2 : World} {T : Nat} {v : Value} {n : Nat} {xs : List Value} (h : Mine w0 w T v n xs) {F : Nat → Prop} (hk : Kept F w w2) (hF : ∀ k, v.ownBlock = some k → ¬ F k) : Mine w0 w2 T v n xs :=
  ⟨own_keptF h.own hk hF, h.t1, h.t2, h.t3⟩
theorem Mine.grown {w0 w w2 : World} {T T2 : Nat} {v v2 : Value} {n n2 : Nat} {xs xs2 : List Value} (h : Mine w0 w T v n xs) (h2 : Mine w0 w T2 v2 n2 xs2) (hT : T ≠ T2) (hg : w.grownBy w2 v2.ownBlock) : Mine w0 w2 T v n xs :=
  h.beside (kept_grown hg) (fun k e1 e2 => by
    obtain ⟨c1, q1⟩ := own_type h.own e1
    obtain ⟨c2, q2⟩ := own_type h2.own e2
    rw [q1] at q2
    simp at q2
    exact hT q2.2)
theorem AtG.inputS {w0 w : World} {B : Nat} {p : Pl} {G : Gr} (h : AtG w0 B w p G) (hl : G.nodes.length ≤ 90000) :
    Calls Try.prog 23 #[.pointer (some ⟨B, 0, none⟩)] w fun e w' => e = .returned (.tuple #[.int .u32 (2 * (G.nodes.length : Int)), .int .i64 0]) ∧ ∃ p', AtG w0 B w' p' (inputG G) ∧ Step p w p' w' (inputG G) := by
  have := Input_any h.is h.wf (by omega)
  rw [h.b] at this
  exact this.mono fun e w' ⟨he, p', hS⟩ => ⟨he, p', h.next hS (Wf_inputG h.wf) (by rw [inputG_len]; omega), hS⟩
theorem Mine.lt {w0 w : World} {T : Nat} {v : Value} {n : Nat} {xs : List Value} (h : Mine w0 w T v n xs) : ∀ k, v.ownBlock = some k → k < w.heap.size := fun k hk => by
  obtain ⟨cur, hh⟩ := own_type h.own hk
  exact (Array.getElem?_eq_some_iff.1 hh).1
theorem AtG.nodes {w0 w : World} {B : Nat} {p : Pl} {G : Gr} (h : AtG w0 B w p G) :
    Calls Try.prog 17 #[.pointer (some ⟨B, 0, none⟩)] w fun e w' => e = .returned (.int .i64 G.nodes.length) ∧ w = w' := by
  have := nodes_any h.is.lay h.wf.pos
  rw [h.b] at this
  exact this
theorem AtG.gates {w0 w : World} {B : Nat} {p : Pl} {G : Gr} (h : AtG w0 B w p G) :
    Calls Try.prog 20 #[.pointer (some ⟨B, 0, none⟩)] w fun e w' => e = .returned (.int .i64 ((G.nodes.length : Int) - 1 - G.inputs.length)) ∧ Below w.heap.size w w' := by
  have hc := h.wf.cnt
  have := gates_any h.is.lay h.wf.pos (by omega) (by have := h.len; omega)
  rw [h.b] at this
  exact this
theorem AtG.gateAt {w0 w : World} {B : Nat} {p : Pl} {G : Gr} (h : AtG w0 B w p G) {j : Nat} (hj : j < G.nodes.length) :
    Calls Try.prog 18 #[.pointer (some ⟨B, 0, none⟩), .int .i64 j] w fun e w' => e = .returned (.tuple #[.int .u32 (nodeAt G j).a, .int .u32 (nodeAt G j).b, .bool (nodeAt G j).gate]) ∧ Below w.heap.size w w' := by
  have := Gate_any h.is h.wf (by have := h.len; omega) hj
  rw [h.b] at this
  exact this
/-- An And of two, with a row beside it. -/
theorem AtG.andS {w0 w : World} {B : Nat} {p : Pl} {G : Gr} (h : AtG w0 B w p G) {T : Nat} {v : Value} {m : Nat} {xs : List Value} (hM : Mine w0 w T v m xs) {x y : Int} {G' : Gr} {z : Int} (hr : andG G x y = (G', z)) (hx : There G x) (hy : There G y) (h9 : G.nodes.length ≤ 90000) :
    Calls Try.prog 11 #[.pointer (some ⟨B, 0, none⟩), .slice (some ⟨w.heap.size, 0, none⟩) 2 2] (w.alloc (.cells #[.int .u32 x, .int .u32 y] 42)) fun e w' => e = .returned (.tuple #[.int .u32 z, .int .i64 0]) ∧ ∃ p', AtG w0 B w' p' G' ∧ Mine w0 w' T v m xs := by
  have hlt := fun k (hk : p.has k) => h.is.has_lt hk
  have hb := (Below.refl w.heap.size w).alloc (Nat.le_refl _) (.cells #[.int .u32 x, .int .u32 y] 42)
  have h1 := h.step hb
  have hl : AllThere G [x, y] := by intro u hu; simp at hu; rcases hu with rfl | rfl <;> assumption
  have g := andG_good h.wf hx hy (by omega)
  have := And_any _ p G _ 2 2 [x, y] h1.is h1.wf (row2 w x y _) (Nat.le_refl _) (by
    intro b hb hp
    have := hlt _ hp
    cases hb
    simp at this) hl (by omega)
  rw [h.b, show manyG andG 1 G [x, y] = andG G x y from rfl, hr] at this
  rw [hr] at g
  exact this.mono fun e w' ⟨he, p', hS⟩ => ⟨he, p', h1.next hS g.wf (by have := g.len; simp only at this; omega), (hM.step hb).next h1.is hS.kept⟩
end Go.Proofs.Ytlbmbpkabmihnaa
