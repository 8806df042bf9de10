/-
  AigOnce, plainly: what graphs are that fold and hash; the same call again makes nothing.
-/
import Derived.Test.YtlbmbpkabmihnaaAigO
namespace Go.Proofs.Ytlbmbpkabmihnaa
open Go.RowKit Go.Maps

structure Once (G : Gr) : Prop where
  fold : G.fold = true
  hash : G.hash = true
  pair : ∀ (i : Nat) (n : Nd), G.nodes[i]? = some n → n.gate = true → n.b < n.a ∧ 1 < n.b ∧ (n.a / 2 == n.b / 2) = false
  one : ∀ (i j : Nat) (n m : Nd), G.nodes[i]? = some n → G.nodes[j]? = some m → n.gate = true → m.gate = true → n.a = m.a → n.b = m.b → i = j

theorem Once_new : Once (newG true true) := by
  have e : ∀ (i : Nat) (n : Nd), (newG true true).nodes[i]? = some n → n = ⟨false, 0, 0⟩ := by
    intro i n h
    match i with
    | 0 => simp [newG] at h; exact h.symm
    | i + 1 => simp [newG] at h
  exact ⟨rfl, rfl, fun i n h g => (by rw [e i n h] at g; cases g), fun i j n m h _ g => (by rw [e i n h] at g; cases g)⟩
theorem Once_push {G G' : Gr} (h : Once G) (hf : G'.fold = G.fold) (hh : G'.hash = G.hash) {x : Nd} (hn : G'.nodes = G.nodes ++ [x])
    (hx : x.gate = true → (x.b < x.a ∧ 1 < x.b ∧ (x.a / 2 == x.b / 2) = false) ∧ ∀ (i : Nat) (n : Nd), G.nodes[i]? = some n → n.gate = true → ¬ (n.a = x.a ∧ n.b = x.b)) : Once G' := by
  refine ⟨hf.trans h.fold, hh.trans h.hash, ?_, ?_⟩
  · intro i n hi g
    rw [hn] at hi
    rcases get_push hi with hi | ⟨-, rfl⟩
    · exact h.pair i n hi g
    · exact (hx g).1
  · intro i j n m hi hj g g' ea eb
    rw [hn] at hi hj
    have h1 := get_push hi
    have h2 := get_push hj
    clear hi hj
    rcases h1 with h1 | ⟨e1, q1⟩ <;> rcases h2 with h2 | ⟨e2, q2⟩
    · exact h.one i j n m h1 h2 g g' ea eb
    · rw [q2] at g' ea eb; exact absurd ⟨ea, eb⟩ ((hx g').2 i n h1 g)
    · rw [q1] at g ea eb; exact absurd ⟨ea.symm, eb.symm⟩ ((hx g).2 j m h2 g')
    · omega
theorem Once_input {G : Gr} (h : Once G) : Once (inputG G) := Once_push h rfl rfl (x := ⟨false, 0, 0⟩) rfl (fun g => by cases g)
theorem findG_none {ns : List Nd} {a b : Int} (h : findG ns a b = none) (i : Nat) (n : Nd) (hn : ns[i]? = some n) (g : n.gate = true) : ¬ (n.a = a ∧ n.b = b) := by
  rintro ⟨rfl, rfl⟩
  unfold findG at h
  rw [List.findIdx?_eq_none_iff] at h
  have := h n (List.mem_of_getElem? hn)
  unfold isPair at this
  simp [g] at this
theorem Once_and {G : Gr} (h : Once G) {a b : Int} (ha : There G a) (hb : There G b) : Once (andG G a b).1 := by
  unfold andG
  split
  · exact h
  · rename_i hf
    rw [h.fold] at hf
    simp at hf
    have hx := foldB_no ha.1.1 hb.1.1 hf
    split
    · exact h
    · rename_i hs
      unfold seenG at hs
      rw [if_pos h.hash] at hs
      refine Once_push h rfl rfl (x := ⟨true, hiV a b, loV a b⟩) rfl (fun _ => ⟨?_, findG_none hs⟩)
      have ab : a ≠ b := by
        rintro rfl
        have := hx.1
        simp at this
      unfold hiV loV
      split
      · exact ⟨by simp only; omega, hx.2.1, by have := hx.1; simp at this ⊢; omega⟩
      · exact ⟨by simp only; omega, hx.2.2, hx.1⟩
theorem Once_or {G : Gr} (h : Once G) {a b : Int} (ha : There G a) (hb : There G b) : Once (orG G a b).1 := Once_and h ha.not hb.not
theorem Once_either {G : Gr} (h : Once G) (hW : Wf G) {a b c d : Int} (ha : There G a) (hb : There G b) (hc : There G c) (hd : There G d) (hl : G.nodes.length ≤ 9000000) : Once (eitherG G a b c d).1 := by
  have g1 := andG_good hW ha hb (by omega)
  have l1 := g1.len
  have g2 := andG_good g1.wf (g1.le.there hc) (g1.le.there hd) (by omega)
  exact Once_or (Once_and (Once_and h ha hb) (g1.le.there hc) (g1.le.there hd)) (g2.le.there g1.there) g2.there
/-- A way to put two together that keeps it so. -/
def OpOnce (T : Gr → Int → Int → Gr × Int) : Prop := ∀ G a b, Once G → Wf G → There G a → There G b → G.nodes.length ≤ 9000000 → Once (T G a b).1
theorem once_and : OpOnce andG := fun _ _ _ h _ ha hb _ => Once_and h ha hb
theorem once_or : OpOnce orG := fun _ _ _ h _ ha hb _ => Once_or h ha hb
theorem once_xor : OpOnce xorG := fun _ _ _ h hW ha hb hl => Once_either h hW ha hb.not ha.not hb hl
theorem once_many {T : Gr → Int → Int → Gr × Int} {k : Nat} (hT : OpOk T k) (hO : OpOnce T) : ∀ (r : List Int) (G : Gr) (x : Int), Once G → Wf G → There G x → AllThere G r → G.nodes.length + k * r.length ≤ 9000000 → Once (r.foldl (fun p y => T p.1 p.2 y) (G, x)).1 := by
  intro r
  induction r with
  | nil => intro G x h _ _ _ _; exact h
  | cons y r ih =>
    intro G x h hW hx hr hl
    have hy : There G y := hr y (by simp)
    simp only [List.length_cons, Nat.mul_add] at hl
    have g := hT G x y hW hx hy (by omega)
    have := g.len
    exact ih (T G x y).1 (T G x y).2 (hO G x y h hW hx hy (by omega)) g.wf g.there (fun z hz => g.le.there (hr z (by simp [hz]))) (by omega)
theorem once_manyG {T : Gr → Int → Int → Gr × Int} {k : Nat} (hT : OpOk T k) (hO : OpOnce T) {z : Int} {G : Gr} (h : Once G) (hW : Wf G) {l : List Int} (hl : AllThere G l) (hn : G.nodes.length + k * l.length ≤ 9000000) : Once (manyG T z G l).1 := by
  cases l with
  | nil => exact h
  | cons x r =>
    have h1 : k * r.length ≤ k * (r.length + 1) := Nat.mul_le_mul_left _ (by omega)
    simp only [List.length_cons] at hn
    exact once_many hT hO r G x h hW (hl x (by simp)) (fun y hy => hl y (by simp [hy])) (by omega)
theorem once_call {G : Gr} (h : Once G) (hW : Wf G) (hl : G.nodes.length ≤ 100000) {b : List Int} (hb : AllThere G b) (h8 : b.length ≤ 8) (h3 : 3 ≤ b.length) {k : Int} (hk : k = 0 ∨ k = 1 ∨ k = 2 ∨ k = 3 ∨ k = 4) : Once (callG G k b).1 := by
  have t0 : There G (b.getD 0 0) := hb.at (by omega)
  have t1 : There G (b.getD 1 0) := hb.at (by omega)
  have t2 : There G (b.getD 2 0) := hb.at (by omega)
  rcases hk with rfl | rfl | rfl | rfl | rfl
  · exact Once_input h
  · exact once_manyG and_ok once_and h hW hb (by omega)
  · exact once_manyG or_ok once_or h hW hb (by omega)
  · exact once_manyG xor_ok once_xor h hW hb (by omega)
  · exact Once_either h hW t0 t1 t0.not t2 (by omega)
theorem once_act {G : Gr} {t : List Int} {j : Nat} (h : Once G) (hK : Kind G t j) (hj : j ≤ 1000) (A : ActV) : Once (actG false (G, t) A).1 := by
  unfold actG
  split
  · exact h
  · rename_i hs
    have hl := hK.len
    have hb := bOf_len G A
    refine once_call h hK.wf (by omega) (brought_all hK.wf (by omega) (A.zs.take 8 ++ [0, 0, 0])) hb.2 hb.1 ?_
    unfold skips at hs
    simp at hs
    omega
theorem once_grown (l : List ActV) : ∀ j, j ≤ l.length → j ≤ 1000 → Once (grownG true true false l j).1 := by
  intro j
  induction j with
  | zero => intro _ _; exact Once_new
  | succ j ih =>
    intro h1 h2
    rw [grownG_succ _ _ _ _ _ (by omega)]
    exact once_act (ih (by omega) (by omega)) (grownG_kind true true false l j (by omega) (by omega)) (by omega) _

theorem hiV_comm (a b : Int) : hiV a b = hiV b a := by unfold hiV; split <;> split <;> omega
theorem loV_comm (a b : Int) : loV a b = loV b a := by unfold loV; split <;> split <;> omega
theorem andG_comm (G : Gr) (a b : Int) : andG G a b = andG G b a := by
  unfold andG seenG gateG
  rw [foldB_comm a b, foldV_comm a b, hiV_comm a b, loV_comm a b]
/-- The same call again. -/
theorem andG_again {G : Gr} (hh : G.hash = true) (a b : Int) {G' : Gr} {x : Int} (h : andG G a b = (G', x)) : andG G' a b = (G', x) := by
  unfold andG at h
  split at h
  · rename_i hf
    obtain ⟨rfl, rfl⟩ := Prod.mk.inj h
    unfold andG
    rw [if_pos hf]
  · rename_i hf
    split at h
    · rename_i i hs
      obtain ⟨rfl, rfl⟩ := Prod.mk.inj h
      unfold andG
      rw [if_neg hf, hs]
    · rename_i hs
      unfold gateG at h
      obtain ⟨rfl, rfl⟩ := Prod.mk.inj h
      have hs' : seenG (addN G (hiV a b) (loV a b)) a b = some G.nodes.length := by
        unfold seenG at hs ⊢
        rw [if_pos hh] at hs
        rw [if_pos (show (addN G (hiV a b) (loV a b)).hash = true from hh)]
        show findG (G.nodes ++ [⟨true, hiV a b, loV a b⟩]) (hiV a b) (loV a b) = _
        rw [findG_push, hs]
        simp [isPair]
      unfold andG
      rw [if_neg (show ¬ ((addN G (hiV a b) (loV a b)).fold && foldB a b) = true from hf), hs']

/-- Gates among the first nodes. -/
def gatesTo (G : Gr) (j : Nat) : Nat := (G.nodes.take j).countP (·.gate)
theorem gatesTo_succ {G : Gr} {j : Nat} (h : j < G.nodes.length) : gatesTo G (j + 1) = gatesTo G j + if (nodeAt G j).gate then 1 else 0 := by
  unfold gatesTo nodeAt
  rw [List.take_add_one, List.countP_append]
  simp [List.getD, h, List.countP_cons]
theorem gatesTo_all {G : Gr} (hW : Wf G) : (gatesTo G G.nodes.length : Int) = G.nodes.length - 1 - G.inputs.length := by
  have := hW.cnt
  unfold gatesTo
  rw [List.take_length]; omega
theorem gatesTo_le (G : Gr) (j : Nat) : gatesTo G j ≤ G.nodes.length := by
  unfold gatesTo
  exact Nat.le_trans List.countP_le_length (by simp; omega)
end Go.Proofs.Ytlbmbpkabmihnaa
