/-
  What leans, depths and copies, as they can be run; graphs apart from each other.
-/
import Derived.Test.YtmljpbbnllfgbaaConeI
import Derived.Test.YtmljpbbnllfgbaaConeW
import Derived.Test.YtmljpbbnllfgbaaConeK
namespace Go.Proofs.Ytmljpbbnllfgbaa
open Go.RowKit Go.Maps Num
set_option maxRecDepth 100000

def dnB (G : Gr) : Nat → List Bool → List Bool
  | 0, bs => bs
  | k + 1, bs => dnB G k (if (nodeAt G (k + 1)).gate && bs.getD (k + 1) false then markL bs [(nodeAt G (k + 1)).a, (nodeAt G (k + 1)).b] else bs)
def lnB (G : Gr) (l : List Int) : List Bool := (dnB G (G.nodes.length - 1) (markL (List.replicate G.nodes.length false) l)).set 0 false
theorem dnB_mk {G : Gr} (hW : Wf G) {l : List Int} {m : Nat} : ∀ k bs, k < m → Mk G l m k bs → Mk G l m 0 (dnB G k bs) := by
  intro k
  induction k with
  | zero => intro bs _ h; exact h
  | succ k ih =>
    intro bs hk h
    unfold dnB
    cases hc : (nodeAt G (k + 1)).gate && bs.getD (k + 1) false with
    | false => rw [if_neg (by simp)]; exact ih _ (by omega) (h.skip hc)
    | true =>
      rw [Bool.and_eq_true] at hc
      rw [if_pos rfl]
      exact ih _ (by omega) (h.more hW hk hc.1 hc.2)
theorem lnB_leant {G : Gr} (hW : Wf G) {l : List Int} (hl : AllThere G l) : Leant G l (lnB G l) := by
  have hp := hW.pos
  exact (dnB_mk hW _ _ (by omega) (Mk.start hW (fun x hx => nodeN_lt (hl x hx)))).done hW
def reachB (G : Gr) (l : List Int) : List Nat := (List.range G.nodes.length).filter (fun i => (lnB G l).getD i false)
def supB (G : Gr) (l : List Int) : List Nat := (List.range G.nodes.length).filter (fun i => (lnB G l).getD i false && !(nodeAt G i).gate)
open Classical in
theorem sel_eq {P : Nat → Prop} {f : Nat → Bool} (n : Nat) (h : ∀ i, f i = true ↔ P i) : selTo P n = (List.range n).filter f := by
  unfold selTo
  congr 1
  funext i
  cases hf : f i with
  | true => simp [(h i).1 hf]
  | false => simp; intro hp; rw [(h i).2 hp] at hf; cases hf
theorem reach_eq {G : Gr} (hW : Wf G) {l : List Int} (hl : AllThere G l) : reachL G l = reachB G l := sel_eq _ (lnB_leant hW hl)
theorem sup_eq {G : Gr} (hW : Wf G) {l : List Int} (hl : AllThere G l) : supL G l = supB G l := sel_eq _ (fun i => by
  have := lnB_leant hW hl i
  unfold SupP
  rw [Bool.and_eq_true, this]
  cases (nodeAt G i).gate <;> simp)
theorem dep_eq {G : Gr} (hW : Wf G) {l : List Int} (hl : AllThere G l) : depL G l = (reachB G l).foldl (fun m j => max m (dep G j)) 0 := by
  rw [← reach_eq hW hl]; rfl
def cpB (G : Gr) (bs : List Bool) (r0 : Gr × List Int) : Nat → Gr × List Int
  | 0 => r0
  | i + 1 => if bs.getD i false && (nodeAt G i).gate then ((andG (cpB G bs r0 i).1 (overV (cpB G bs r0 i).2 (nodeAt G i).a) (overV (cpB G bs r0 i).2 (nodeAt G i).b)).1, (cpB G bs r0 i).2.set i (andG (cpB G bs r0 i).1 (overV (cpB G bs r0 i).2 (nodeAt G i).a) (overV (cpB G bs r0 i).2 (nodeAt G i).b)).2) else cpB G bs r0 i
theorem cp_eq {G : Gr} {l : List Int} {bs : List Bool} (h : Leant G l bs) (r0 : Gr × List Int) : ∀ i, cpTo G l r0 i = cpB G bs r0 i := by
  intro i
  induction i with
  | zero => rfl
  | succ i ih =>
    by_cases hg : GateP G l i
    · rw [cp_yes hg, ih]
      have e : (bs.getD i false && (nodeAt G i).gate) = true := by rw [Bool.and_eq_true]; exact ⟨(h i).2 hg.1, hg.2⟩
      conv => rhs; unfold cpB
      rw [if_pos e]
    · rw [cp_no hg, ih]
      have e : ¬ (bs.getD i false && (nodeAt G i).gate) = true := by rw [Bool.and_eq_true]; exact fun hh => hg ⟨(h i).1 hh.1, hh.2⟩
      conv => rhs; unfold cpB
      rw [if_neg e]
theorem copy_eq {G : Gr} (hW : Wf G) {l : List Int} (hl : AllThere G l) (T : Gr) (by_ : List Int) : copyG G l T by_ = cpB G (lnB G l) (T, inS G.nodes.length G.inputs by_ G.inputs.length) G.nodes.length := cp_eq (lnB_leant hW hl) _ _

/-- Two graphs' blocks are apart. -/
def Apart (p q : Pl) : Prop := ∀ k, p.has k → ¬ q.has k
theorem Apart.step {p p2 q : Pl} {w w2 : World} {T G : Gr} (h : Apart p q) (hS : Step p w p2 w2 T) (hI : Is w q G) : Apart p2 q := fun k hk hq => by
  rcases hS.new k hk with h1 | h1
  · exact h k h1 hq
  · have := hI.has_lt hq; omega
theorem Apart.new {p q : Pl} {w : World} {G : Gr} (hp : ∀ k, p.has k → w.heap.size ≤ k) (hI : Is w q G) : Apart p q := fun k hk hq => by
  have := hI.has_lt hq
  have := hp k hk
  omega
theorem AtG.apart {w0 w w2 : World} {B : Nat} {p q : Pl} {G : Gr} (h : AtG w0 B w q G) (hA : Apart p q) (hk : Kept p.has w w2) (hb : Below w0.heap.size w0 w2) : AtG w0 B w2 q G :=
  ⟨h.is.beside hk hA, h.wf, h.b, h.out, hb, h.len⟩
theorem AtG.base {w w1 w2 : World} {B : Nat} {p : Pl} {G : Gr} (h : AtG w1 B w2 p G) (hb : Below w.heap.size w w1) : AtG w B w2 p G :=
  ⟨h.is, h.wf, h.b, fun k hk => Nat.le_trans hb.size (h.out k hk), hb.trans (h.below.mono hb.size), h.len⟩
/-- A row whose block is not among those that change. -/
theorem Row.kept {F : Nat → Prop} {k : IntKind} {w w2 : World} {a : Option Addr} {n : Nat} {l : List Int} (h : Row k w a n l) (hk : Kept F w w2) (hF : ∀ x, a = some x → 0 < n → ¬ F x.block) : Row k w2 a n l := by
  refine ⟨h.1, h.2.1, ?_⟩
  rcases Nat.eq_zero_or_pos n with e | e
  · exact .inl e
  · obtain ⟨b, off, rfl, hbl, hc⟩ := h.at e
    exact .inr ⟨b, off, rfl, Nat.lt_of_lt_of_le hbl hk.size, fun i hi => (kept_cell hk hbl (hF _ rfl e)).1.trans (hc i hi)⟩
def natI (l : List Nat) : List Int := l.map (fun (n : Nat) => Int.ofNat n)
theorem natV_I (l : List Nat) : natV l = (natI l).map (Value.int .i64) := by unfold natV natI; rw [List.map_map]; rfl
theorem Told.row {w w2 : World} {a : Option Addr} {c : Nat} {L : List Nat} (h : Told w w2 a c L) (hL : L.length ≤ 9223372036854775807) : Row .i64 w2 a L.length (natI L) := by
  have ho := h.own
  rw [natV_I] at ho
  exact Row.of_own ho (by simp [natI]) hL
/-- A call's own row lies above what was there. -/
theorem Told.far {w w2 : World} {a : Option Addr} {c : Nat} {L : List Nat} (h : Told w w2 a c L) : ∀ x, a = some x → w.heap.size ≤ x.block := fun x hx => by
  subst hx; exact own_ge h.own _ rfl
end Go.Proofs.Ytmljpbbnllfgbaa
