/-
  Graphs of and-gates, plainly: what each call makes of one; what a graph's words are.
-/
import Derived.Test.YtjdebancpgpebaaLitM
namespace Go.Proofs.Ytjdebancpgpebaa
open Go.RowKit Num

structure Nd where
  gate : Bool
  a : Int
  b : Int
structure Gr where
  fold : Bool
  hash : Bool
  nodes : List Nd
  inputs : List Int

def hiV (a b : Int) : Int := if a < b then b else a
def loV (a b : Int) : Int := if a < b then a else b
def isPair (a b : Int) (n : Nd) : Bool := n.gate && (n.a == a && n.b == b)
def findG (ns : List Nd) (a b : Int) : Option Nat := ns.findIdx? (isPair a b)
def addN (G : Gr) (a b : Int) : Gr := { G with nodes := G.nodes ++ [⟨true, a, b⟩] }
def inputG (G : Gr) : Gr := { G with nodes := G.nodes ++ [⟨false, 0, 0⟩], inputs := G.inputs ++ [(G.nodes.length : Int)] }
def newG (F H : Bool) : Gr := ⟨F, H, [⟨false, 0, 0⟩], []⟩
def seenG (G : Gr) (a b : Int) : Option Nat := if G.hash then findG G.nodes (hiV a b) (loV a b) else none
def gateG (G : Gr) (a b : Int) : Gr × Int := (addN G (hiV a b) (loV a b), 2 * (G.nodes.length : Int))
def andG (G : Gr) (a b : Int) : Gr × Int :=
  if (G.fold && foldB a b) = true then (G, foldV a b) else
  match seenG G a b with
  | some i => (G, 2 * (i : Int))
  | none => gateG G a b
def orG (G : Gr) (a b : Int) : Gr × Int := ((andG G (notV a) (notV b)).1, notV (andG G (notV a) (notV b)).2)
def eitherG (G : Gr) (a b c d : Int) : Gr × Int := orG (andG (andG G a b).1 c d).1 (andG G a b).2 (andG (andG G a b).1 c d).2
def xorG (G : Gr) (a b : Int) : Gr × Int := eitherG G a (notV b) (notV a) b
def muxG (G : Gr) (c a b : Int) : Gr × Int := eitherG G c a (notV c) b
def manyG (T : Gr → Int → Int → Gr × Int) (z : Int) (G : Gr) : List Int → Gr × Int
  | [] => (G, z)
  | x :: r => r.foldl (fun p y => T p.1 p.2 y) (G, x)

structure Wf (G : Gr) : Prop where
  zero : G.nodes[0]? = some ⟨false, 0, 0⟩
  gates : ∀ (i : Nat) (n : Nd), G.nodes[i]? = some n → n.gate = true → IsLit n.a ∧ IsLit n.b ∧ n.b ≤ n.a ∧ n.a / 2 < i
  plain : ∀ (i : Nat) (n : Nd), G.nodes[i]? = some n → n.gate = false → n.a = 0 ∧ n.b = 0
  ins : ∀ (k : Nat) (v : Int), G.inputs[k]? = some v → ∃ i : Nat, v = i ∧ 0 < i ∧ ∃ n, G.nodes[i]? = some n ∧ n.gate = false
  rise : ∀ (j k : Nat) (x y : Int), j < k → G.inputs[j]? = some x → G.inputs[k]? = some y → x < y
  all : ∀ (i : Nat) (n : Nd), 0 < i → G.nodes[i]? = some n → n.gate = false → ∃ k : Nat, G.inputs[k]? = some (i : Int)
  cnt : G.nodes.countP (·.gate) + G.inputs.length + 1 = G.nodes.length

/-- A literal whose node is there. -/
def There (G : Gr) (l : Int) : Prop := IsLit l ∧ l / 2 < G.nodes.length

structure Le (G G' : Gr) : Prop where
  fold : G'.fold = G.fold
  hash : G'.hash = G.hash
  nodes : ∃ t, G'.nodes = G.nodes ++ t
  inputs : ∃ t, G'.inputs = G.inputs ++ t

theorem Le.refl (G : Gr) : Le G G := ⟨rfl, rfl, ⟨[], by simp⟩, ⟨[], by simp⟩⟩
theorem Le.trans {A B C : Gr} (h : Le A B) (k : Le B C) : Le A C := by
  obtain ⟨t, ht⟩ := h.nodes; obtain ⟨u, hu⟩ := k.nodes
  obtain ⟨s, hs⟩ := h.inputs; obtain ⟨r, hr⟩ := k.inputs
  exact ⟨k.fold.trans h.fold, k.hash.trans h.hash, ⟨t ++ u, by rw [hu, ht, List.append_assoc]⟩, ⟨s ++ r, by rw [hr, hs, List.append_assoc]⟩⟩
theorem Le.len {A B : Gr} (h : Le A B) : A.nodes.length ≤ B.nodes.length := by
  obtain ⟨t, ht⟩ := h.nodes; rw [ht]; simp
theorem Le.node {A B : Gr} (h : Le A B) {i : Nat} {n : Nd} (e : A.nodes[i]? = some n) : B.nodes[i]? = some n := by
  obtain ⟨t, ht⟩ := h.nodes
  rw [ht, List.getElem?_append_left (List.getElem?_eq_some_iff.1 e).1]; exact e
theorem Le.input {A B : Gr} (h : Le A B) {i : Nat} {n : Int} (e : A.inputs[i]? = some n) : B.inputs[i]? = some n := by
  obtain ⟨t, ht⟩ := h.inputs
  rw [ht, List.getElem?_append_left (List.getElem?_eq_some_iff.1 e).1]; exact e
theorem Le.there {A B : Gr} (h : Le A B) {l : Int} (e : There A l) : There B l := ⟨e.1, by have := h.len; have := e.2; omega⟩
theorem There.not {G : Gr} {l : Int} (h : There G l) : There G (notV l) := ⟨notV_lit h.1, by rw [notV_half]; exact h.2⟩

theorem hiV_or (a b : Int) : (hiV a b = a ∧ loV a b = b) ∨ (hiV a b = b ∧ loV a b = a) := by unfold hiV loV; split <;> simp
theorem lo_hi (a b : Int) : loV a b ≤ hiV a b := by unfold hiV loV; split <;> omega
theorem There.hi {G : Gr} {a b : Int} (ha : There G a) (hb : There G b) : There G (hiV a b) := by unfold hiV; split <;> assumption
theorem There.lo {G : Gr} {a b : Int} (ha : There G a) (hb : There G b) : There G (loV a b) := by unfold loV; split <;> assumption

theorem get_push {α : Type} {l : List α} {x : α} {i : Nat} {n : α} (h : (l ++ [x])[i]? = some n) : l[i]? = some n ∨ (i = l.length ∧ n = x) := by
  by_cases hi : i < l.length
  · rw [List.getElem?_append_left hi] at h; exact .inl h
  · have hl := (List.getElem?_eq_some_iff.1 h).1
    simp at hl
    have e : i = l.length := by omega
    subst e
    rw [List.getElem?_append_right (Nat.le_refl _)] at h
    simp at h
    exact .inr ⟨rfl, h.symm⟩

theorem addN_le (G : Gr) (a b : Int) : Le G (addN G a b) := ⟨rfl, rfl, ⟨_, rfl⟩, ⟨[], by simp [addN]⟩⟩
theorem addN_len (G : Gr) (a b : Int) : (addN G a b).nodes.length = G.nodes.length + 1 := by simp [addN]
theorem inputG_le (G : Gr) : Le G (inputG G) := ⟨rfl, rfl, ⟨_, rfl⟩, ⟨_, rfl⟩⟩
theorem inputG_len (G : Gr) : (inputG G).nodes.length = G.nodes.length + 1 := by simp [inputG]
theorem Wf.pos {G : Gr} (h : Wf G) : 0 < G.nodes.length := (List.getElem?_eq_some_iff.1 h.zero).1

theorem Wf_new (F H : Bool) : Wf (newG F H) := by
  have e : ∀ i n, (newG F H).nodes[i]? = some n → i = 0 ∧ n = ⟨false, 0, 0⟩ := by
    intro i n h
    match i with
    | 0 => simp [newG] at h; exact ⟨rfl, h.symm⟩
    | i + 1 => simp [newG] at h
  refine ⟨rfl, ?_, ?_, ?_, ?_, ?_, rfl⟩
  · intro i n h g; obtain ⟨-, rfl⟩ := e i n h; cases g
  · intro i n h g; obtain ⟨-, rfl⟩ := e i n h; exact ⟨rfl, rfl⟩
  · intro k v h; simp [newG] at h
  · intro j k x y _ h; simp [newG] at h
  · intro i n h0 h; obtain ⟨rfl, -⟩ := e i n h; omega

theorem Wf_addN {G : Gr} (h : Wf G) {a b : Int} (ha : There G a) (hb : There G b) (hba : b ≤ a) : Wf (addN G a b) := by
  refine ⟨(addN_le G a b).node h.zero, ?_, ?_, ?_, ?_, ?_, ?_⟩
  · intro i n hn g
    rcases get_push hn with hn | ⟨rfl, rfl⟩
    · exact h.gates i n hn g
    · exact ⟨ha.1, hb.1, hba, ha.2⟩
  · intro i n hn g
    rcases get_push hn with hn | ⟨rfl, rfl⟩
    · exact h.plain i n hn g
    · cases g
  · intro k v hk
    obtain ⟨i, e, h0, n, hn, g⟩ := h.ins k v hk
    exact ⟨i, e, h0, n, (addN_le G a b).node hn, g⟩
  · exact h.rise
  · intro i n h0 hn g
    rcases get_push hn with hn | ⟨rfl, rfl⟩
    · exact h.all i n h0 hn g
    · cases g
  · have := h.cnt
    simp [addN]; omega

theorem Wf_inputG {G : Gr} (h : Wf G) : Wf (inputG G) := by
  refine ⟨(inputG_le G).node h.zero, ?_, ?_, ?_, ?_, ?_, ?_⟩
  · intro i n hn g
    rcases get_push hn with hn | ⟨rfl, rfl⟩
    · exact h.gates i n hn g
    · cases g
  · intro i n hn g
    rcases get_push hn with hn | ⟨rfl, rfl⟩
    · exact h.plain i n hn g
    · exact ⟨rfl, rfl⟩
  · intro k v hk
    rcases get_push hk with hk | ⟨rfl, rfl⟩
    · obtain ⟨i, e, h0, n, hn, g⟩ := h.ins k v hk
      exact ⟨i, e, h0, n, (inputG_le G).node hn, g⟩
    · exact ⟨G.nodes.length, rfl, h.pos, ⟨false, 0, 0⟩, by simp [inputG], rfl⟩
  · intro j k x y hjk hx hy
    rcases get_push hy with hy | ⟨rfl, rfl⟩
    · rcases get_push hx with hx | ⟨rfl, rfl⟩
      · exact h.rise j k x y hjk hx hy
      · have := (List.getElem?_eq_some_iff.1 hy).1; omega
    · rcases get_push hx with hx | ⟨rfl, rfl⟩
      · obtain ⟨i, rfl, _, n, hn, _⟩ := h.ins j x hx
        have := (List.getElem?_eq_some_iff.1 hn).1; omega
      · omega
  · intro i n h0 hn g
    rcases get_push hn with hn | ⟨rfl, rfl⟩
    · obtain ⟨k, hk⟩ := h.all i n h0 hn g
      exact ⟨k, (inputG_le G).input hk⟩
    · exact ⟨G.inputs.length, by simp [inputG]⟩
  · have := h.cnt
    simp [inputG]; omega

/-- What was found is there. -/
theorem findG_some {ns : List Nd} {a b : Int} {i : Nat} (h : findG ns a b = some i) : ∃ n, ns[i]? = some n ∧ n.gate = true ∧ n.a = a ∧ n.b = b := by
  unfold findG at h
  obtain ⟨hi, hp, _⟩ := List.findIdx?_eq_some_iff_getElem.1 h
  refine ⟨ns[i], by simp [hi], ?_⟩
  unfold isPair at hp
  simpa using hp
theorem findG_push (ns : List Nd) (n : Nd) (a b : Int) : findG (ns ++ [n]) a b = (findG ns a b).or (if isPair a b n then some ns.length else none) := by
  unfold findG
  rw [List.findIdx?_append]
  cases h : isPair a b n <;> simp [List.findIdx?_cons, h]

/-- What the calls leave. -/
structure Grows (G G' : Gr) (l : Int) (k : Nat) : Prop where
  wf : Wf G'
  le : Le G G'
  there : There G' l
  len : G'.nodes.length ≤ G.nodes.length + k
  ins : G'.inputs = G.inputs

theorem gateG_good {G : Gr} (h : Wf G) {a b : Int} (ha : There G a) (hb : There G b) (hl : G.nodes.length ≤ 10000000) : Grows G (gateG G a b).1 (gateG G a b).2 1 :=
  ⟨Wf_addN h (ha.hi hb) (ha.lo hb) (lo_hi a b), addN_le _ _ _, ⟨⟨by simp only [gateG]; omega, by simp only [gateG]; omega⟩, by rw [show (gateG G a b).1.nodes.length = G.nodes.length + 1 from addN_len _ _ _]; simp only [gateG]; omega⟩, by rw [show (gateG G a b).1.nodes.length = G.nodes.length + 1 from addN_len _ _ _]; omega, rfl⟩
theorem andG_good {G : Gr} (h : Wf G) {a b : Int} (ha : There G a) (hb : There G b) (hl : G.nodes.length ≤ 10000000) : Grows G (andG G a b).1 (andG G a b).2 1 := by
  unfold andG
  split
  · refine ⟨h, Le.refl _, ⟨foldV_lit ha.1 hb.1, ?_⟩, by simp, rfl⟩
    have h0 := h.pos
    have h1 := ha.2
    have h2 := hb.2
    show foldV a b / 2 < (G.nodes.length : Int)
    unfold foldV
    split
    · omega
    · split
      · exact h2
      · split
        · exact h1
        · omega
  · split
    · rename_i i hi
      unfold seenG at hi
      split at hi
      · obtain ⟨n, hn, g, _⟩ := findG_some hi
        have := (List.getElem?_eq_some_iff.1 hn).1
        exact ⟨h, Le.refl _, ⟨⟨by simp only; omega, by simp only; omega⟩, by simp only; omega⟩, by simp, rfl⟩
      · cases hi
    · exact gateG_good h ha hb hl

/-- The words of a graph: what Eval says. -/
structure Val (G : Gr) (ins ws : List Int) : Prop where
  words : Words ws
  len : G.nodes.length ≤ ws.length
  zero : ws.getD 0 0 = 0
  gate : ∀ (i : Nat) (n : Nd), G.nodes[i]? = some n → n.gate = true → ws.getD i 0 = bits .and .u64 (wordV n.a ws) (wordV n.b ws)
  inp : ∀ (k i : Nat), G.inputs[k]? = some (i : Int) → ws.getD i 0 = ins.getD k 0

theorem Val.mono {G G' : Gr} {ins ws : List Int} (h : Le G G') (v : Val G' ins ws) : Val G ins ws :=
  ⟨v.words, Nat.le_trans h.len v.len, v.zero, fun i n hn => v.gate i n (h.node hn), fun k i hk => v.inp k i (h.input hk)⟩

theorem Val.node {G : Gr} {ins ws : List Int} (v : Val G ins ws) {i : Nat} (h0 : 0 < i) (hi : i < G.nodes.length) : wordV (2 * (i : Int)) ws = ws.getD i 0 := by
  have hl := v.len
  unfold wordV turnV nodeW
  rw [show (2 * (i : Int)) % 2 = 0 by omega, show (2 * (i : Int)) / 2 = i by omega]
  simp
  omega

theorem and_swap {G : Gr} {ins ws : List Int} (v : Val G ins ws) (a b : Int) : bits .and .u64 (wordV (hiV a b) ws) (wordV (loV a b) ws) = bits .and .u64 (wordV a ws) (wordV b ws) := by
  have ba := wordV_bd v.words a
  have bb := wordV_bd v.words b
  rcases hiV_or a b with ⟨h1, h2⟩ | ⟨h1, h2⟩
  · rw [h1, h2]
  · rw [h1, h2, and_comm64 bb.1 bb.2 ba.1 ba.2]

theorem gateG_word {G G' : Gr} {ins ws : List Int} (h : Wf G) (a b : Int) (hL : Le (gateG G a b).1 G') (v : Val G' ins ws) : wordV (gateG G a b).2 ws = bits .and .u64 (wordV a ws) (wordV b ws) := by
  have v' := v.mono hL
  have e := v'.gate G.nodes.length ⟨true, hiV a b, loV a b⟩ (by simp [gateG, addN]) rfl
  show wordV (2 * (G.nodes.length : Int)) ws = _
  rw [v'.node h.pos (by rw [show (gateG G a b).1.nodes.length = G.nodes.length + 1 from addN_len _ _ _]; omega), e]
  exact and_swap v a b

theorem andG_word {G G' : Gr} {ins ws : List Int} (h : Wf G) (a b : Int) (hL : Le (andG G a b).1 G') (v : Val G' ins ws) : wordV (andG G a b).2 ws = bits .and .u64 (wordV a ws) (wordV b ws) := by
  unfold andG at hL ⊢
  split
  · rename_i hf
    simp at hf
    exact foldV_word v.words hf.2
  · rename_i hf
    rw [if_neg hf] at hL
    cases hs : seenG G a b with
    | some i =>
      rw [hs] at hL
      have v' := v.mono hL
      unfold seenG at hs
      split at hs
      · obtain ⟨n, hn, g, ea, eb⟩ := findG_some hs
        have e := v'.gate i n hn g
        have hi := (List.getElem?_eq_some_iff.1 hn).1
        have h0 : 0 < i := by
          rcases Nat.eq_zero_or_pos i with e0 | e0
          · subst e0; rw [h.zero] at hn; simp at hn; subst hn; cases g
          · exact e0
        show wordV (2 * (i : Int)) ws = _
        rw [v'.node h0 hi, e, ea, eb]
        exact and_swap v a b
      · cases hs
    | none =>
      rw [hs] at hL
      exact gateG_word h a b hL v

/-- Words agree as far as the graph goes. -/
theorem Val.same {G : Gr} {ins ins' ws ws' : List Int} (h : Wf G) (v : Val G ins ws) (v' : Val G ins' ws') (hin : ∀ k, k < G.inputs.length → ins.getD k 0 = ins'.getD k 0) :
    ∀ i, i < G.nodes.length → ws.getD i 0 = ws'.getD i 0 := by
  intro i
  induction i using Nat.strongRecOn with
  | ind i ih =>
    intro hi
    have hl := v.len
    have hl' := v'.len
    have hn : G.nodes[i]? = some G.nodes[i] := by simp [hi]
    have lits : ∀ l : Int, IsLit l → l / 2 < i → wordV l ws = wordV l ws' := by
      intro l hl0 hl1
      unfold IsLit at hl0
      have e : nodeW (l / 2) ws = nodeW (l / 2) ws' := by
        unfold nodeW
        by_cases h0 : 0 < l / 2
        · have := ih (l / 2).toNat (by omega) (by omega)
          rw [if_pos (by simp; omega), if_pos (by simp; omega), this]
        · rw [if_neg (by simp; omega), if_neg (by simp; omega)]
      unfold wordV; rw [e]
    cases g : G.nodes[i].gate with
    | true =>
      obtain ⟨ha, hb, hba, hai⟩ := h.gates i _ hn g
      rw [v.gate i _ hn g, v'.gate i _ hn g, lits _ ha hai, lits _ hb (by omega)]
    | false =>
      by_cases h0 : i = 0
      · subst h0; rw [v.zero, v'.zero]
      · obtain ⟨k, hk⟩ := h.all i _ (by omega) hn g
        rw [v.inp k i hk, v'.inp k i hk]
        exact hin k (List.getElem?_eq_some_iff.1 hk).1
end Go.Proofs.Ytjdebancpgpebaa
