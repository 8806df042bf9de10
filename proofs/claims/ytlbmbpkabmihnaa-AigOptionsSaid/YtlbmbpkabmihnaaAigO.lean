/-
  Rows of calls, plainly and in memory; a graph that grows by them.
-/
import Derived.Test.YtlbmbpkabmihnaaAigN
namespace Go.Proofs.Ytlbmbpkabmihnaa
open Go.RowKit Go.Maps

structure ActV where
  what : Int
  a : Option Addr
  n : Nat
  c : Nat
  zs : List Int
def act0 : ActV := ⟨0, none, 0, 0, []⟩

/-- A row of calls in memory. -/
structure Acts (w : World) (a : Option Addr) (n : Nat) (l : List ActV) : Prop where
  len : l.length = n
  le : n ≤ 9223372036854775807
  cells : n = 0 ∨ ∃ b off, a = some ⟨b, off, none⟩ ∧ b < w.heap.size ∧ ∀ i, i < n → w.cell? ⟨b, off + i * 2, none⟩ = some (.int .i64 (l.getD i act0).what) ∧ w.cell? ⟨b, off + i * 2 + 1, none⟩ = some (.slice (l.getD i act0).a (l.getD i act0).n (l.getD i act0).c)
  row : ∀ i, i < n → Row .u32 w (l.getD i act0).a (l.getD i act0).n (l.getD i act0).zs ∧ (l.getD i act0).n ≤ (l.getD i act0).c ∧ ∀ k, IsLit ((l.getD i act0).zs.getD k 0)

theorem Acts.step {w w' : World} {a : Option Addr} {n : Nat} {l : List ActV} (h : Acts w a n l) (hb : Below w.heap.size w w') : Acts w' a n l := by
  refine ⟨h.len, h.le, ?_, fun i hi => ⟨(h.row i hi).1.step hb, (h.row i hi).2⟩⟩
  rcases h.cells with h0 | ⟨b, off, rfl, hlt, hc⟩
  · exact .inl h0
  · exact .inr ⟨b, off, rfl, Nat.lt_of_lt_of_le hlt hb.size, fun i hi => ⟨stepc hb hlt (hc i hi).1, stepc hb hlt (hc i hi).2⟩⟩

/-- What a call does. -/
def bOf (G : Gr) (A : ActV) : List Int := broughtL G (A.zs.take 8 ++ [0, 0, 0])
def callG (G : Gr) (k : Int) (b : List Int) : Gr × Int :=
  if k = 0 then (inputG G, 2 * (G.nodes.length : Int)) else if k = 1 then manyG andG 1 G b else if k = 2 then manyG orG 0 G b else if k = 3 then manyG xorG 0 G b
  else if k = 4 then muxG G (b.getD 0 0) (b.getD 1 0) (b.getD 2 0) else gateG G (b.getD 0 0) (b.getD 1 0)
def skips (raw : Bool) (k : Int) : Bool := !(k == 0 || (k == 1 || (k == 2 || (k == 3 || (k == 4 || (k == 5 && raw))))))
def actG (raw : Bool) (s : Gr × List Int) (A : ActV) : Gr × List Int :=
  if skips raw A.what then s else ((callG s.1 A.what (bOf s.1 A)).1, s.2 ++ [(callG s.1 A.what (bOf s.1 A)).2])
def grownG (F H raw : Bool) (l : List ActV) (j : Nat) : Gr × List Int := (l.take j).foldl (actG raw) (newG F H, [])
theorem grownG_zero (F H raw : Bool) (l : List ActV) : grownG F H raw l 0 = (newG F H, []) := rfl
theorem grownG_succ (F H raw : Bool) (l : List ActV) (j : Nat) (h : j < l.length) : grownG F H raw l (j + 1) = actG raw (grownG F H raw l j) (l.getD j act0) := by
  unfold grownG
  rw [List.take_add_one, List.foldl_append]
  simp [List.getD, h]

theorem bOf_len (G : Gr) (A : ActV) : 3 ≤ (bOf G A).length ∧ (bOf G A).length ≤ 8 := by
  unfold bOf broughtL
  simp
  omega
/-- What is known of a graph that grows. -/
structure Kind (G : Gr) (t : List Int) (j : Nat) : Prop where
  wf : Wf G
  len : G.nodes.length ≤ 1 + 24 * j
  told : t.length ≤ j
  there : AllThere G t

theorem manyG_good {T : Gr → Int → Int → Gr × Int} {k : Nat} (hT : OpOk T k) {z : Int} {G : Gr} {b : List Int} (hW : Wf G) (hz : There G z) (hb : AllThere G b) (hl : G.nodes.length + k * b.length ≤ 9000000) : Grows G (manyG T z G b).1 (manyG T z G b).2 (k * b.length) := by
  cases b with
  | nil => exact ⟨hW, Le.refl _, hz, by simp [manyG], rfl⟩
  | cons x r =>
    rw [← manyN_all]
    have hr : AllThere G r := fun y hy => hb y (by simp [hy])
    have g := many_good hT hW (hb x (by simp)) hr (by simp at hl; have : k * r.length ≤ k * (r.length + 1) := Nat.mul_le_mul_left _ (by omega); omega) r.length (Nat.le_refl _)
    refine ⟨g.wf, g.le, g.there, ?_, g.ins⟩
    have := g.len
    have h2 : k * r.length ≤ k * (r.length + 1) := Nat.mul_le_mul_left _ (by omega)
    simp; omega
theorem there_lit {G : Gr} (hW : Wf G) {z : Int} (h : z = 0 ∨ z = 1) : There G z := by
  have := hW.pos
  unfold There IsLit
  rcases h with rfl | rfl <;> simp <;> omega

/-- One call more. -/
theorem callG_good {G : Gr} (hW : Wf G) (hl : G.nodes.length ≤ 100000) {b : List Int} (hb : AllThere G b) (h8 : b.length ≤ 8) (h3 : 3 ≤ b.length) (k : Int) :
    Wf (callG G k b).1 ∧ Le G (callG G k b).1 ∧ There (callG G k b).1 (callG G k b).2 ∧ (callG G k b).1.nodes.length ≤ G.nodes.length + 24 := by
  unfold callG
  split
  · exact ⟨Wf_inputG hW, inputG_le G, ⟨⟨by simp; omega, by simp; omega⟩, by simp [inputG]; omega⟩, by simp [inputG]⟩
  split
  · have g := manyG_good and_ok hW (there_lit hW (.inr rfl)) hb (by omega)
    exact ⟨g.wf, g.le, g.there, by have := g.len; omega⟩
  split
  · have g := manyG_good or_ok hW (there_lit hW (.inl rfl)) hb (by omega)
    exact ⟨g.wf, g.le, g.there, by have := g.len; omega⟩
  split
  · have g := manyG_good xor_ok hW (there_lit hW (.inl rfl)) hb (by omega)
    exact ⟨g.wf, g.le, g.there, by have := g.len; omega⟩
  split
  · have g := muxG_good hW (hb.at (i := 0) (by omega)) (hb.at (i := 1) (by omega)) (hb.at (i := 2) (by omega)) (by omega)
    exact ⟨g.wf, g.le, g.there, by have := g.len; omega⟩
  · have g := gateG_good hW (hb.at (i := 0) (by omega)) (hb.at (i := 1) (by omega)) (by omega)
    exact ⟨g.wf, g.le, g.there, by have := g.len; omega⟩
theorem actG_kind {raw : Bool} {G : Gr} {t : List Int} {j : Nat} (h : Kind G t j) (hj : j ≤ 1000) (A : ActV) : Kind (actG raw (G, t) A).1 (actG raw (G, t) A).2 (j + 1) := by
  unfold actG
  split
  · exact ⟨h.wf, by have := h.len; simp only; omega, by have := h.told; simp only; omega, h.there⟩
  · have hl := h.len
    have hb := bOf_len G A
    obtain ⟨h1, h2, h3, h4⟩ := callG_good h.wf (by omega) (brought_all h.wf (by omega) (A.zs.take 8 ++ [0, 0, 0])) hb.2 hb.1 A.what
    refine ⟨h1, by have h5 : (callG G A.what (bOf G A)).1.nodes.length ≤ G.nodes.length + 24 := h4; simp only; omega, by have := h.told; simp; omega, ?_⟩
    intro x hx
    rcases List.mem_append.1 hx with hx | hx
    · exact h2.there (h.there x hx)
    · simp at hx; subst hx; exact h3
theorem grownG_kind (F H raw : Bool) (l : List ActV) : ∀ j, j ≤ l.length → j ≤ 1000 → Kind (grownG F H raw l j).1 (grownG F H raw l j).2 j := by
  intro j
  induction j with
  | zero => intro _ _; exact ⟨Wf_new F H, by simp [grownG_zero, newG], by simp [grownG_zero], fun x hx => by simp [grownG_zero] at hx⟩
  | succ j ih =>
    intro h1 h2
    rw [grownG_succ _ _ _ _ _ (by omega)]
    exact actG_kind (ih (by omega) (by omega)) (by omega) _

/-- A graph is as it was, where what turned is none of its blocks. -/
theorem Is.beside {w w' : World} {p : Pl} {G : Gr} {F : Nat → Prop} (h : Is w p G) (hk : Kept F w w') (hF : ∀ k, F k → ¬ p.has k) : Is w' p G := by
  have hb : ∀ k, p.has k → w'.heap[k]? = w.heap[k]? := fun k hp => hk.block k (h.has_lt hp) (fun hf => hF k hf hp)
  have own : ∀ {e size n : Nat} {v : Value} {xs : List Value}, w.ownsRow 0 e size v n xs → (∀ k, v.ownBlock = some k → p.has k) → w'.ownsRow 0 e size v n xs := by
    intro e size n v xs h hv
    refine ⟨h.1, ?_⟩
    rcases h.2 with h0 | ⟨g, cap, cur, rfl, hg', hh, r⟩
    · exact .inl h0
    · exact .inr ⟨g, cap, cur, rfl, hg', by rw [hb g (hv g rfl)]; exact hh, r⟩
  refine ⟨⟨by rw [hb p.b (.inl rfl)]; exact h.lay.box, own h.lay.nodes (fun k hk => .inr (.inl (by simp [Pl.nv, Value.ownBlock] at hk; exact hk.symm))), own h.lay.inputs (fun k hk => .inr (.inr (.inl hk)))⟩, ?_⟩
  have hm := h.map
  unfold MapIn at hm ⊢
  split
  · rename_i hH
    rw [if_pos hH] at hm
    obtain ⟨mb, D, e, ho, hD⟩ := hm
    exact ⟨mb, D, e, map_block ho (hb mb (.inr (.inr (.inr e)))), hD⟩
  · rename_i hH
    rw [if_neg hH] at hm; exact hm
theorem own_cap {w : World} {base e size n c : Nat} {a : Option Addr} {xs : List Value} (h : w.ownsRow base e size (.slice a n c) n xs) : n ≤ c := by
  rcases h.2 with ⟨h0, h1⟩ | ⟨g, cap, cur, hv, _, _, hn, _⟩
  · omega
  · simp at hv; obtain ⟨_, rfl⟩ := hv; exact hn
theorem own_far {w : World} {p : Pl} {G : Gr} (hI : Is w p G) {base T size n c : Nat} {a : Option Addr} {xs : List Value} (h : w.ownsRow base T size (.slice a n c) n xs) (h1 : T ≠ 67) (h2 : T ≠ 70) (h3 : T ≠ 3) : ∀ x, a = some x → ¬ p.has x.block := by
  intro x hx
  obtain ⟨cur, hh⟩ := own_type h (k := x.block) (by rw [hx]; rfl)
  exact hI.other hh h1 h2 h3
theorem kept_grown {w w' : World} {row : Option Nat} (h : w.grownBy w' row) : Kept (fun k => row = some k) w w' :=
  ⟨h.os, h.tape, h.output, h.size, fun k hk hn => h.block k hk (fun e => hn e.symm)⟩
end Go.Proofs.Ytlbmbpkabmihnaa
