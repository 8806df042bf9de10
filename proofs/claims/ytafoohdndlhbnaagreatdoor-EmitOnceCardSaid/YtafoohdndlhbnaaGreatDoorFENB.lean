/-
  Graphs of and-gates, plainly: what each call makes of one; what a graph's words are.
  Numbers as rows of bits, the lowest first; sums by hand; products row by row.
  Rows that a call has made itself: what is kept of them.
  Where a graph lies: its own struct, its nodes, its inputs, its map; what is left as it was while it grows.
-/
import Derived.Test.YtafoohdndlhbnaaGreatDoorFENA
import Derived.Test.YtafoohdndlhbnaaGreatDoorProg
import Derived.WalkKit
import Derived.Maps.OwnSet
import Derived.WideKeyPair
section
namespace Go.Proofs.YtafoohdndlhbnaaGreatDoor
open Go.RowKit Num

structure Nd where
  gate : Bool
  a : Int
  b : Int
structure Gr where
  fold : Bool
  hash : Bool
  nodes : List Nd
  inputs : List Int

def hiV (a b : Int) : Int := if a < b then b else a
def loV (a b : Int) : Int := if a < b then a else b
def isPair (a b : Int) (n : Nd) : Bool := n.gate && (n.a == a && n.b == b)
def findG (ns : List Nd) (a b : Int) : Option Nat := ns.findIdx? (isPair a b)
def addN (G : Gr) (a b : Int) : Gr := { G with nodes := G.nodes ++ [⟨true, a, b⟩] }
def inputG (G : Gr) : Gr := { G with nodes := G.nodes ++ [⟨false, 0, 0⟩], inputs := G.inputs ++ [(G.nodes.length : Int)] }
def newG (F H : Bool) : Gr := ⟨F, H, [⟨false, 0, 0⟩], []⟩
def seenG (G : Gr) (a b : Int) : Option Nat := if G.hash then findG G.nodes (hiV a b) (loV a b) else none
def gateG (G : Gr) (a b : Int) : Gr × Int := (addN G (hiV a b) (loV a b), 2 * (G.nodes.length : Int))
def andG (G : Gr) (a b : Int) : Gr × Int :=
  if (G.fold && foldB a b) = true then (G, foldV a b) else
  match seenG G a b with
  | some i => (G, 2 * (i : Int))
  | none => gateG G a b
def orG (G : Gr) (a b : Int) : Gr × Int := ((andG G (notV a) (notV b)).1, notV (andG G (notV a) (notV b)).2)
def eitherG (G : Gr) (a b c d : Int) : Gr × Int := orG (andG (andG G a b).1 c d).1 (andG G a b).2 (andG (andG G a b).1 c d).2
def xorG (G : Gr) (a b : Int) : Gr × Int := eitherG G a (notV b) (notV a) b
def muxG (G : Gr) (c a b : Int) : Gr × Int := eitherG G c a (notV c) b
def manyG (T : Gr → Int → Int → Gr × Int) (z : Int) (G : Gr) : List Int → Gr × Int
  | [] => (G, z)
  | x :: r => r.foldl (fun p y => T p.1 p.2 y) (G, x)

structure Wf (G : Gr) : Prop where
  zero : G.nodes[0]? = some ⟨false, 0, 0⟩
  gates : ∀ (i : Nat) (n : Nd), G.nodes[i]? = some n → n.gate = true → IsLit n.a ∧ IsLit n.b ∧ n.b ≤ n.a ∧ n.a / 2 < i
  plain : ∀ (i : Nat) (n : Nd), G.nodes[i]? = some n → n.gate = false → n.a = 0 ∧ n.b = 0
  ins : ∀ (k : Nat) (v : Int), G.inputs[k]? = some v → ∃ i : Nat, v = i ∧ 0 < i ∧ ∃ n, G.nodes[i]? = some n ∧ n.gate = false
  rise : ∀ (j k : Nat) (x y : Int), j < k → G.inputs[j]? = some x → G.inputs[k]? = some y → x < y
  all : ∀ (i : Nat) (n : Nd), 0 < i → G.nodes[i]? = some n → n.gate = false → ∃ k : Nat, G.inputs[k]? = some (i : Int)
  cnt : G.nodes.countP (·.gate) + G.inputs.length + 1 = G.nodes.length

/-- A literal whose node is there. -/
def There (G : Gr) (l : Int) : Prop := IsLit l ∧ l / 2 < G.nodes.length

structure Le (G G' : Gr) : Prop where
  fold : G'.fold = G.fold
  hash : G'.hash = G.hash
  nodes : ∃ t, G'.nodes = G.nodes ++ t
  inputs : ∃ t, G'.inputs = G.inputs ++ t

theorem Le.refl (G : Gr) : Le G G := ⟨rfl, rfl, ⟨[], by simp⟩, ⟨[], by simp⟩⟩
theorem Le.trans {A B C : Gr} (h : Le A B) (k : Le B C) : Le A C := by
  obtain ⟨t, ht⟩ := h.nodes; obtain ⟨u, hu⟩ := k.nodes
  obtain ⟨s, hs⟩ := h.inputs; obtain ⟨r, hr⟩ := k.inputs
  exact ⟨k.fold.trans h.fold, k.hash.trans h.hash, ⟨t ++ u, by rw [hu, ht, List.append_assoc]⟩, ⟨s ++ r, by rw [hr, hs, List.append_assoc]⟩⟩
theorem Le.len {A B : Gr} (h : Le A B) : A.nodes.length ≤ B.nodes.length := by
  obtain ⟨t, ht⟩ := h.nodes; rw [ht]; simp
theorem Le.node {A B : Gr} (h : Le A B) {i : Nat} {n : Nd} (e : A.nodes[i]? = some n) : B.nodes[i]? = some n := by
  obtain ⟨t, ht⟩ := h.nodes
  rw [ht, List.getElem?_append_left (List.getElem?_eq_some_iff.1 e).1]; exact e
theorem Le.input {A B : Gr} (h : Le A B) {i : Nat} {n : Int} (e : A.inputs[i]? = some n) : B.inputs[i]? = some n := by
  obtain ⟨t, ht⟩ := h.inputs
  rw [ht, List.getElem?_append_left (List.getElem?_eq_some_iff.1 e).1]; exact e
theorem Le.there {A B : Gr} (h : Le A B) {l : Int} (e : There A l) : There B l := ⟨e.1, by have := h.len; have := e.2; omega⟩
theorem There.not {G : Gr} {l : Int} (h : There G l) : There G (notV l) := ⟨notV_lit h.1, by rw [notV_half]; exact h.2⟩

theorem hiV_or (a b : Int) : (hiV a b = a ∧ loV a b = b) ∨ (hiV a b = b ∧ loV a b = a) := by unfold hiV loV; split <;> simp
theorem lo_hi (a b : Int) : loV a b ≤ hiV a b := by unfold hiV loV; split <;> omega
theorem There.hi {G : Gr} {a b : Int} (ha : There G a) (hb : There G b) : There G (hiV a b) := by unfold hiV; split <;> assumption
theorem There.lo {G : Gr} {a b : Int} (ha : There G a) (hb : There G b) : There G (loV a b) := by unfold loV; split <;> assumption

theorem get_push {α : Type} {l : List α} {x : α} {i : Nat} {n : α} (h : (l ++ [x])[i]? = some n) : l[i]? = some n ∨ (i = l.length ∧ n = x) := by
  by_cases hi : i < l.length
  · rw [List.getElem?_append_left hi] at h; exact .inl h
  · have hl := (List.getElem?_eq_some_iff.1 h).1
    simp at hl
    have e : i = l.length := by omega
    subst e
    rw [List.getElem?_append_right (Nat.le_refl _)] at h
    simp at h
    exact .inr ⟨rfl, h.symm⟩

theorem addN_le (G : Gr) (a b : Int) : Le G (addN G a b) := ⟨rfl, rfl, ⟨_, rfl⟩, ⟨[], by simp [addN]⟩⟩
theorem addN_len (G : Gr) (a b : Int) : (addN G a b).nodes.length = G.nodes.length + 1 := by simp [addN]
theorem inputG_le (G : Gr) : Le G (inputG G) := ⟨rfl, rfl, ⟨_, rfl⟩, ⟨_, rfl⟩⟩
theorem inputG_len (G : Gr) : (inputG G).nodes.length = G.nodes.length + 1 := by simp [inputG]
theorem Wf.pos {G : Gr} (h : Wf G) : 0 < G.nodes.length := (List.getElem?_eq_some_iff.1 h.zero).1

theorem Wf_new (F H : Bool) : Wf (newG F H) := by
  have e : ∀ i n, (newG F H).nodes[i]? = some n → i = 0 ∧ n = ⟨false, 0, 0⟩ := by
    intro i n h
    match i with
    | 0 => simp [newG] at h; exact ⟨rfl, h.symm⟩
    | i + 1 => simp [newG] at h
  refine ⟨rfl, ?_, ?_, ?_, ?_, ?_, rfl⟩
  · intro i n h g; obtain ⟨-, rfl⟩ := e i n h; cases g
  · intro i n h g; obtain ⟨-, rfl⟩ := e i n h; exact ⟨rfl, rfl⟩
  · intro k v h; simp [newG] at h
  · intro j k x y _ h; simp [newG] at h
  · intro i n h0 h; obtain ⟨rfl, -⟩ := e i n h; omega

theorem Wf_addN {G : Gr} (h : Wf G) {a b : Int} (ha : There G a) (hb : There G b) (hba : b ≤ a) : Wf (addN G a b) := by
  refine ⟨(addN_le G a b).node h.zero, ?_, ?_, ?_, ?_, ?_, ?_⟩
  · intro i n hn g
    rcases get_push hn with hn | ⟨rfl, rfl⟩
    · exact h.gates i n hn g
    · exact ⟨ha.1, hb.1, hba, ha.2⟩
  · intro i n hn g
    rcases get_push hn with hn | ⟨rfl, rfl⟩
    · exact h.plain i n hn g
    · cases g
  · intro k v hk
    obtain ⟨i, e, h0, n, hn, g⟩ := h.ins k v hk
    exact ⟨i, e, h0, n, (addN_le G a b).node hn, g⟩
  · exact h.rise
  · intro i n h0 hn g
    rcases get_push hn with hn | ⟨rfl, rfl⟩
    · exact h.all i n h0 hn g
    · cases g
  · have := h.cnt
    simp [addN]; omega

theorem Wf_inputG {G : Gr} (h : Wf G) : Wf (inputG G) := by
  refine ⟨(inputG_le G).node h.zero, ?_, ?_, ?_, ?_, ?_, ?_⟩
  · intro i n hn g
    rcases get_push hn with hn | ⟨rfl, rfl⟩
    · exact h.gates i n hn g
    · cases g
  · intro i n hn g
    rcases get_push hn with hn | ⟨rfl, rfl⟩
    · exact h.plain i n hn g
    · exact ⟨rfl, rfl⟩
  · intro k v hk
    rcases get_push hk with hk | ⟨rfl, rfl⟩
    · obtain ⟨i, e, h0, n, hn, g⟩ := h.ins k v hk
      exact ⟨i, e, h0, n, (inputG_le G).node hn, g⟩
    · exact ⟨G.nodes.length, rfl, h.pos, ⟨false, 0, 0⟩, by simp [inputG], rfl⟩
  · intro j k x y hjk hx hy
    rcases get_push hy with hy | ⟨rfl, rfl⟩
    · rcases get_push hx with hx | ⟨rfl, rfl⟩
      · exact h.rise j k x y hjk hx hy
      · have := (List.getElem?_eq_some_iff.1 hy).1; omega
    · rcases get_push hx with hx | ⟨rfl, rfl⟩
      · obtain ⟨i, rfl, _, n, hn, _⟩ := h.ins j x hx
        have := (List.getElem?_eq_some_iff.1 hn).1; omega
      · omega
  · intro i n h0 hn g
    rcases get_push hn with hn | ⟨rfl, rfl⟩
    · obtain ⟨k, hk⟩ := h.all i n h0 hn g
      exact ⟨k, (inputG_le G).input hk⟩
    · exact ⟨G.inputs.length, by simp [inputG]⟩
  · have := h.cnt
    simp [inputG]; omega

/-- What was found is there. -/
theorem findG_some {ns : List Nd} {a b : Int} {i : Nat} (h : findG ns a b = some i) : ∃ n, ns[i]? = some n ∧ n.gate = true ∧ n.a = a ∧ n.b = b := by
  unfold findG at h
  obtain ⟨hi, hp, _⟩ := List.findIdx?_eq_some_iff_getElem.1 h
  refine ⟨ns[i], by simp [hi], ?_⟩
  unfold isPair at hp
  simpa using hp
theorem findG_push (ns : List Nd) (n : Nd) (a b : Int) : findG (ns ++ [n]) a b = (findG ns a b).or (if isPair a b n then some ns.length else none) := by
  unfold findG
  rw [List.findIdx?_append]
  cases h : isPair a b n <;> simp [List.findIdx?_cons, h]

/-- What the calls leave. -/
structure Grows (G G' : Gr) (l : Int) (k : Nat) : Prop where
  wf : Wf G'
  le : Le G G'
  there : There G' l
  len : G'.nodes.length ≤ G.nodes.length + k
  ins : G'.inputs = G.inputs

theorem gateG_good {G : Gr} (h : Wf G) {a b : Int} (ha : There G a) (hb : There G b) (hl : G.nodes.length ≤ 10000000) : Grows G (gateG G a b).1 (gateG G a b).2 1 :=
  ⟨Wf_addN h (ha.hi hb) (ha.lo hb) (lo_hi a b), addN_le _ _ _, ⟨⟨by simp only [gateG]; omega, by simp only [gateG]; omega⟩, by rw [show (gateG G a b).1.nodes.length = G.nodes.length + 1 from addN_len _ _ _]; simp only [gateG]; omega⟩, by rw [show (gateG G a b).1.nodes.length = G.nodes.length + 1 from addN_len _ _ _]; omega, rfl⟩
theorem andG_good {G : Gr} (h : Wf G) {a b : Int} (ha : There G a) (hb : There G b) (hl : G.nodes.length ≤ 10000000) : Grows G (andG G a b).1 (andG G a b).2 1 := by
  unfold andG
  split
  · refine ⟨h, Le.refl _, ⟨foldV_lit ha.1 hb.1, ?_⟩, by simp, rfl⟩
    have h0 := h.pos
    have h1 := ha.2
    have h2 := hb.2
    show foldV a b / 2 < (G.nodes.length : Int)
    unfold foldV
    split
    · omega
    · split
      · exact h2
      · split
        · exact h1
        · omega
  · split
    · rename_i i hi
      unfold seenG at hi
      split at hi
      · obtain ⟨n, hn, g, _⟩ := findG_some hi
        have := (List.getElem?_eq_some_iff.1 hn).1
        exact ⟨h, Le.refl _, ⟨⟨by simp only; omega, by simp only; omega⟩, by simp only; omega⟩, by simp, rfl⟩
      · cases hi
    · exact gateG_good h ha hb hl

/-- The words of a graph: what Eval says. -/
structure Val (G : Gr) (ins ws : List Int) : Prop where
  words : Words ws
  len : G.nodes.length ≤ ws.length
  zero : ws.getD 0 0 = 0
  gate : ∀ (i : Nat) (n : Nd), G.nodes[i]? = some n → n.gate = true → ws.getD i 0 = bits .and .u64 (wordV n.a ws) (wordV n.b ws)
  inp : ∀ (k i : Nat), G.inputs[k]? = some (i : Int) → ws.getD i 0 = ins.getD k 0

theorem Val.mono {G G' : Gr} {ins ws : List Int} (h : Le G G') (v : Val G' ins ws) : Val G ins ws :=
  ⟨v.words, Nat.le_trans h.len v.len, v.zero, fun i n hn => v.gate i n (h.node hn), fun k i hk => v.inp k i (h.input hk)⟩

theorem Val.node {G : Gr} {ins ws : List Int} (v : Val G ins ws) {i : Nat} (h0 : 0 < i) (hi : i < G.nodes.length) : wordV (2 * (i : Int)) ws = ws.getD i 0 := by
  have hl := v.len
  unfold wordV turnV nodeW
  rw [show (2 * (i : Int)) % 2 = 0 by omega, show (2 * (i : Int)) / 2 = i by omega]
  simp
  omega

theorem and_swap {G : Gr} {ins ws : List Int} (v : Val G ins ws) (a b : Int) : bits .and .u64 (wordV (hiV a b) ws) (wordV (loV a b) ws) = bits .and .u64 (wordV a ws) (wordV b ws) := by
  have ba := wordV_bd v.words a
  have bb := wordV_bd v.words b
  rcases hiV_or a b with ⟨h1, h2⟩ | ⟨h1, h2⟩
  · rw [h1, h2]
  · rw [h1, h2, and_comm64 bb.1 bb.2 ba.1 ba.2]

theorem gateG_word {G G' : Gr} {ins ws : List Int} (h : Wf G) (a b : Int) (hL : Le (gateG G a b).1 G') (v : Val G' ins ws) : wordV (gateG G a b).2 ws = bits .and .u64 (wordV a ws) (wordV b ws) := by
  have v' := v.mono hL
  have e := v'.gate G.nodes.length ⟨true, hiV a b, loV a b⟩ (by simp [gateG, addN]) rfl
  show wordV (2 * (G.nodes.length : Int)) ws = _
  rw [v'.node h.pos (by rw [show (gateG G a b).1.nodes.length = G.nodes.length + 1 from addN_len _ _ _]; omega), e]
  exact and_swap v a b

theorem andG_word {G G' : Gr} {ins ws : List Int} (h : Wf G) (a b : Int) (hL : Le (andG G a b).1 G') (v : Val G' ins ws) : wordV (andG G a b).2 ws = bits .and .u64 (wordV a ws) (wordV b ws) := by
  unfold andG at hL ⊢
  split
  · rename_i hf
    simp at hf
    exact foldV_word v.words hf.2
  · rename_i hf
    rw [if_neg hf] at hL
    cases hs : seenG G a b with
    | some i =>
      rw [hs] at hL
      have v' := v.mono hL
      unfold seenG at hs
      split at hs
      · obtain ⟨n, hn, g, ea, eb⟩ := findG_some hs
        have e := v'.gate i n hn g
        have hi := (List.getElem?_eq_some_iff.1 hn).1
        have h0 : 0 < i := by
          rcases Nat.eq_zero_or_pos i with e0 | e0
          · subst e0; rw [h.zero] at hn; simp at hn; subst hn; cases g
          · exact e0
        show wordV (2 * (i : Int)) ws = _
        rw [v'.node h0 hi, e, ea, eb]
        exact and_swap v a b
      · cases hs
    | none =>
      rw [hs] at hL
      exact gateG_word h a b hL v

/-- Words agree as far as the graph goes. -/
theorem Val.same {G : Gr} {ins ins' ws ws' : List Int} (h : Wf G) (v : Val G ins ws) (v' : Val G ins' ws') (hin : ∀ k, k < G.inputs.length → ins.getD k 0 = ins'.getD k 0) :
    ∀ i, i < G.nodes.length → ws.getD i 0 = ws'.getD i 0 := by
  intro i
  induction i using Nat.strongRecOn with
  | ind i ih =>
    intro hi
    have hl := v.len
    have hl' := v'.len
    have hn : G.nodes[i]? = some G.nodes[i] := by simp [hi]
    have lits : ∀ l : Int, IsLit l → l / 2 < i → wordV l ws = wordV l ws' := by
      intro l hl0 hl1
      unfold IsLit at hl0
      have e : nodeW (l / 2) ws = nodeW (l / 2) ws' := by
        unfold nodeW
        by_cases h0 : 0 < l / 2
        · have := ih (l / 2).toNat (by omega) (by omega)
          rw [if_pos (by simp; omega), if_pos (by simp; omega), this]
        · rw [if_neg (by simp; omega), if_neg (by simp; omega)]
      unfold wordV; rw [e]
    cases g : G.nodes[i].gate with
    | true =>
      obtain ⟨ha, hb, hba, hai⟩ := h.gates i _ hn g
      rw [v.gate i _ hn g, v'.gate i _ hn g, lits _ ha hai, lits _ hb (by omega)]
    | false =>
      by_cases h0 : i = 0
      · subst h0; rw [v.zero, v'.zero]
      · obtain ⟨k, hk⟩ := h.all i _ (by omega) hn g
        rw [v.inp k i hk, v'.inp k i hk]
        exact hin k (List.getElem?_eq_some_iff.1 hk).1
end Go.Proofs.YtafoohdndlhbnaaGreatDoor
end

section
namespace Go.Proofs.YtafoohdndlhbnaaGreatDoor.Bits

/-- A row's number. -/
def num : List Int → Int
  | [] => 0
  | b :: l => b + 2 * num l
def All01 (l : List Int) : Prop := ∀ x ∈ l, x = 0 ∨ x = 1

theorem num_snoc (l : List Int) (x : Int) : num (l ++ [x]) = num l + 2 ^ l.length * x := by
  induction l with
  | nil => simp [num]
  | cons b l ih => simp only [List.cons_append, num, ih, List.length_cons, Int.pow_succ]; rw [Int.mul_add, ← Int.mul_assoc, Int.mul_comm 2 (2 ^ l.length)]; omega
theorem num_bd {l : List Int} (h : All01 l) : 0 ≤ num l ∧ num l < 2 ^ l.length := by
  induction l with
  | nil => simp [num]
  | cons b l ih =>
    have h1 := ih (fun x hx => h x (List.mem_cons_of_mem _ hx))
    have h2 := h b (List.mem_cons_self ..)
    simp only [num, List.length_cons, Int.pow_succ]
    omega
theorem getD_01 {l : List Int} (h : All01 l) (i : Nat) : l.getD i 0 = 0 ∨ l.getD i 0 = 1 := by
  by_cases hi : i < l.length
  · have : l.getD i 0 = l[i] := by simp [List.getD, hi]
    rw [this]; exact h _ (List.getElem_mem hi)
  · left; simp [List.getD, hi]
theorem num_take_succ (l : List Int) (i : Nat) (h : i < l.length) : num (l.take (i + 1)) = num (l.take i) + 2 ^ i * l.getD i 0 := by
  rw [List.take_succ_eq_append_getElem h, num_snoc]
  simp [List.getD, h, Nat.min_eq_left (Nat.le_of_lt h)]
theorem num_drop (l : List Int) (i : Nat) (h : i < l.length) : num (l.drop i) = l.getD i 0 + 2 * num (l.drop (i + 1)) := by
  rw [List.drop_eq_getElem_cons h]; simp [num, List.getD, h]
theorem num_split (l : List Int) (i : Nat) (h : i ≤ l.length) : num l = num (l.take i) + 2 ^ i * num (l.drop i) := by
  induction i with
  | zero => simp [num]
  | succ i ih =>
    rw [ih (by omega), num_take_succ l i (by omega), num_drop l i (by omega), Int.mul_add, Int.pow_succ]
    rw [← Int.mul_assoc]; omega

/-- A row by its places. -/
def row (n : Nat) (f : Nat → Int) : List Int := (List.range n).map f
theorem row_length (n : Nat) (f : Nat → Int) : (row n f).length = n := by simp [row]
theorem row_succ (n : Nat) (f : Nat → Int) : row (n + 1) f = row n f ++ [f n] := by simp [row, List.range_succ]
theorem row_getD (n : Nat) (f : Nat → Int) (i : Nat) (h : i < n) : (row n f).getD i 0 = f i := by simp [row, List.getD, h]
theorem row_num_succ (n : Nat) (f : Nat → Int) : num (row (n + 1) f) = num (row n f) + 2 ^ n * f n := by rw [row_succ, num_snoc, row_length]
theorem row_01 {n : Nat} {f : Nat → Int} (h : ∀ i, i < n → f i = 0 ∨ f i = 1) : All01 (row n f) := by
  intro x hx
  simp [row] at hx
  obtain ⟨i, hi, rfl⟩ := hx
  exact h i hi
theorem row_take (n : Nat) (f : Nat → Int) (i : Nat) (h : i ≤ n) : (row n f).take i = row i f := by
  simp [row, ← List.map_take, List.take_range, Nat.min_eq_left h]
theorem row_of (l : List Int) : l = row l.length (fun i => l.getD i 0) := by
  apply List.ext_getElem
  · simp [row]
  · intro i h1 h2; simp [row, List.getD, h1]
theorem row_congr {n : Nat} {f g : Nat → Int} (h : ∀ i, i < n → f i = g i) : row n f = row n g := by
  unfold row; exact List.map_congr_left (fun i hi => h i (by simpa using hi))

/-- A number's bit. -/
def bt (a i : Nat) : Int := ((a / 2 ^ i % 2 : Nat) : Int)
theorem bt_01 (a i : Nat) : bt a i = 0 ∨ bt a i = 1 := by unfold bt; omega
theorem num_bt (a k : Nat) : num (row k (bt a)) = ((a % 2 ^ k : Nat) : Int) := by
  induction k with
  | zero => simp [row, num, Nat.mod_one]
  | succ k ih =>
    rw [row_num_succ, ih, Nat.pow_succ, Nat.mod_mul]
    unfold bt; push_cast; rfl
theorem bt_test (a i : Nat) : bt a i = if a.testBit i then 1 else 0 := by
  unfold bt
  rw [Nat.testBit_eq_decide_div_mod_eq]
  by_cases h : a / 2 ^ i % 2 = 1
  · simp [h]
  · have : a / 2 ^ i % 2 = 0 := by omega
    simp [this]
theorem bt_and (a b i : Nat) : bt (a &&& b) i = bt a i * bt b i := by
  rw [bt_test, bt_test, bt_test, Nat.testBit_and]; cases a.testBit i <;> cases b.testBit i <;> rfl
theorem bt_or (a b i : Nat) : bt (a ||| b) i = (bt a i + bt b i + 1) / 2 := by
  rw [bt_test, bt_test, bt_test, Nat.testBit_or]; cases a.testBit i <;> cases b.testBit i <;> rfl
theorem bt_xor (a b i : Nat) : bt (a ^^^ b) i = (bt a i + bt b i) % 2 := by
  rw [bt_test, bt_test, bt_test, Nat.testBit_xor]; cases a.testBit i <;> cases b.testBit i <;> rfl

/-- Sums by hand. -/
def carry (f g : Nat → Int) (c : Int) : Nat → Int
  | 0 => c
  | i + 1 => (f i + g i + carry f g c i) / 2
def sumAt (f g : Nat → Int) (c : Int) (i : Nat) : Int := (f i + g i + carry f g c i) % 2
theorem carry_01 {f g : Nat → Int} {c : Int} {n : Nat} (hf : ∀ i, i < n → f i = 0 ∨ f i = 1) (hg : ∀ i, i < n → g i = 0 ∨ g i = 1) (hc : c = 0 ∨ c = 1) : ∀ i, i ≤ n → carry f g c i = 0 ∨ carry f g c i = 1 := by
  intro i
  induction i with
  | zero => intro _; exact hc
  | succ i ih =>
    intro h
    have h1 := ih (by omega)
    have h2 := hf i (by omega)
    have h3 := hg i (by omega)
    show (f i + g i + carry f g c i) / 2 = 0 ∨ (f i + g i + carry f g c i) / 2 = 1
    omega
theorem sum_full (f g : Nat → Int) (c : Int) (n : Nat) : num (row n (sumAt f g c)) + 2 ^ n * carry f g c n = num (row n f) + num (row n g) + c := by
  induction n with
  | zero => simp [row, num, carry]
  | succ n ih =>
    rw [row_num_succ, row_num_succ, row_num_succ]
    have e : f n + g n + carry f g c n = 2 * carry f g c (n + 1) + sumAt f g c n := by
      unfold sumAt
      show _ = 2 * ((f n + g n + carry f g c n) / 2) + _
      omega
    have e2 : 2 ^ n * (f n + g n + carry f g c n) = 2 ^ n * (2 * carry f g c (n + 1) + sumAt f g c n) := by rw [e]
    rw [Int.mul_add, Int.mul_add, Int.mul_add] at e2
    rw [Int.pow_succ, Int.mul_assoc]
    omega
theorem sum_01 (f g : Nat → Int) (c : Int) (i : Nat) : sumAt f g c i = 0 ∨ sumAt f g c i = 1 := by unfold sumAt; omega
theorem sum_mod (f g : Nat → Int) (c : Int) (n : Nat) : num (row n (sumAt f g c)) = (num (row n f) + num (row n g) + c) % 2 ^ n := by
  have h1 := sum_full f g c n
  have h2 := num_bd (row_01 (n := n) (fun i _ => sum_01 f g c i))
  rw [row_length] at h2
  rw [← h1, Int.add_mul_emod_self_left]
  exact (Int.emod_eq_of_lt h2.1 h2.2).symm
theorem num_turn (f : Nat → Int) (n : Nat) : num (row n (fun i => 1 - f i)) = 2 ^ n - 1 - num (row n f) := by
  induction n with
  | zero => simp [row, num]
  | succ n ih => rw [row_num_succ, row_num_succ, ih, Int.pow_succ, Int.mul_sub]; omega

/-- A product's row: shifted up by i. -/
def upRow (f : Nat → Int) (i k : Nat) : Int := if k < i then 0 else f (k - i)
theorem num_upRow (f : Nat → Int) (i n : Nat) : num (row (i + n) (upRow f i)) = 2 ^ i * num (row n f) := by
  induction n with
  | zero =>
    have : ∀ j, j ≤ i → num (row j (upRow f i)) = 0 := by
      intro j
      induction j with
      | zero => intro _; simp [row, num]
      | succ j ih => intro h; rw [row_num_succ, ih (by omega)]; unfold upRow; rw [if_pos (by omega)]; simp
    rw [Nat.add_zero, this i (Nat.le_refl _)]; simp [row, num]
  | succ n ih =>
    rw [← Nat.add_assoc, row_num_succ, ih, row_num_succ]
    unfold upRow
    rw [if_neg (by omega), show i + n - i = n by omega, Int.mul_add, Int.pow_add, Int.mul_assoc]
theorem num_row_mod {f : Nat → Int} {n m : Nat} (h : n ≤ m) (hf : ∀ i, i < m → f i = 0 ∨ f i = 1) : num (row n f) = num (row m f) % 2 ^ n := by
  have h1 := num_split (row m f) n (by rw [row_length]; exact h)
  rw [row_take m f n h] at h1
  have h2 := num_bd (row_01 (n := n) (fun i hi => hf i (by omega)))
  rw [row_length] at h2
  rw [h1, Int.add_mul_emod_self_left]
  exact (Int.emod_eq_of_lt h2.1 h2.2).symm
/-- The product after i rows. -/
theorem mul_step {f y : Nat → Int} {out : List Int} {W i : Nat} (hf : ∀ i, i < W → f i = 0 ∨ f i = 1) (hy : y i = 1)
    (ho : num out = (num (row W f) * num (row i y)) % 2 ^ W) (hl : out.length = W) :
    num (row W (sumAt (fun k => out.getD k 0) (upRow f i) 0)) = (num (row W f) * num (row (i + 1) y)) % 2 ^ W := by
  have e1 : num (row W (upRow f i)) = (2 ^ i * num (row W f)) % 2 ^ W := by
    have hu : ∀ k, k < i + W → upRow f i k = 0 ∨ upRow f i k = 1 := by
      intro k hk; unfold upRow; split
      · exact .inl rfl
      · exact hf _ (by omega)
    rw [num_row_mod (m := i + W) (by omega) hu, num_upRow]
  have e2 : row W (fun k => out.getD k 0) = out := by rw [← hl]; exact (row_of out).symm
  rw [sum_mod, e2, e1, ho, row_num_succ, hy, Int.mul_one, Int.add_zero, ← Int.add_emod, Int.mul_add]
  rw [Int.mul_comm (2 ^ i)]

/-- The highest place that differs decides. -/
theorem less_at {x y : List Int} {i : Nat} (hx : All01 x) (hy : All01 y) (hl : x.length = y.length) (hi : i < x.length) (hd : x.drop (i + 1) = y.drop (i + 1)) (h0 : x.getD i 0 = 0) (h1 : y.getD i 0 = 1) : num x < num y := by
  have ex := num_split x i (by omega)
  have ey := num_split y i (by omega)
  rw [num_drop x i hi, h0] at ex
  rw [num_drop y i (by omega), h1, ← hd] at ey
  have bx := num_bd (l := x.take i) (fun z hz => hx z (List.mem_of_mem_take hz))
  have byy := num_bd (l := y.take i) (fun z hz => hy z (List.mem_of_mem_take hz))
  rw [List.length_take, Nat.min_eq_left (by omega)] at bx byy
  rw [Int.mul_add] at ex ey
  omega
theorem drop_eq {x y : List Int} {i : Nat} (hl : x.length = y.length) (hi : i < x.length) (hd : x.drop (i + 1) = y.drop (i + 1)) (h : x.getD i 0 = y.getD i 0) : x.drop i = y.drop i := by
  have hi2 : i < y.length := by omega
  rw [List.drop_eq_getElem_cons hi, List.drop_eq_getElem_cons hi2, hd]
  simp [List.getD, hi, hi2] at h
  rw [h]

end Go.Proofs.YtafoohdndlhbnaaGreatDoor.Bits
end

section
namespace Go.Proofs.YtafoohdndlhbnaaGreatDoor
open Go.RowKit Bits

theorem Row.of_own {w : World} {base k cap : Nat} {kd : IntKind} {a : Option Addr} {l : List Int} {T : Nat} (h : w.ownsRow base T 1 (.slice a k cap) k (l.map (Value.int kd))) (hl : l.length = k) (hk : k ≤ 9223372036854775807) : Row kd w a k l := by
  refine ⟨hl, hk, ?_⟩
  by_cases h0 : k = 0
  · exact .inl h0
  · right
    rcases h.2 with ⟨_, h1⟩ | ⟨g, cap', cur, hv, hb, hh, r⟩
    · exact absurd h1 h0
    · simp at hv
      obtain ⟨rfl, rfl⟩ := hv
      have hc := fun i hi => h.cellAt (j := i) hi
      refine ⟨g, 0, rfl, (Array.getElem?_eq_some_iff.1 hh).1, fun i hi => ?_⟩
      rw [Nat.zero_add, hc i (by omega)]; simp [List.getD, hl, hi]

theorem own_ge {w : World} {base e size n : Nat} {v : Value} {xs : List Value} (h : w.ownsRow base e size v n xs) : ∀ k, v.ownBlock = some k → base ≤ k := by
  intro k hk
  rcases h.2 with ⟨rfl, _⟩ | ⟨g, cap, cur, rfl, hb, _⟩
  · simp [Value.ownBlock] at hk
  · simp [Value.ownBlock] at hk; omega
theorem own_below {w w2 : World} {base e size n : Nat} {v : Value} {xs : List Value} (h : w.ownsRow base e size v n xs) (hb : Below w.heap.size w w2) : w2.ownsRow base e size v n xs := by
  refine ⟨h.1, ?_⟩
  rcases h.2 with h0 | ⟨g, cap, cur, rfl, hg, hh, r⟩
  · exact .inl h0
  · exact .inr ⟨g, cap, cur, rfl, hg, by rw [hb.block g (Array.getElem?_eq_some_iff.1 hh).1]; exact hh, r⟩
theorem own_form {w : World} {base e size n : Nat} {v : Value} {xs : List Value} (h : w.ownsRow base e size v n xs) (hn : 0 < n) : ∃ g cap, v = .slice (some ⟨g, 0, none⟩) n cap := by
  rcases h.2 with ⟨_, h0⟩ | ⟨g, cap, _, hv, _⟩
  · omega
  · exact ⟨g, cap, hv⟩
theorem own_slice {w : World} {base e size n : Nat} {v : Value} {xs : List Value} (h : w.ownsRow base e size v n xs) : ∃ a cap, v = .slice a n cap := by
  rcases h.2 with ⟨rfl, h0⟩ | ⟨g, cap, _, hv, _⟩
  · exact ⟨none, 0, by rw [h0]⟩
  · exact ⟨_, cap, hv⟩
theorem own_lt {w : World} {base e size n g cap : Nat} {xs : List Value} (h : w.ownsRow base e size (.slice (some ⟨g, 0, none⟩) n cap) n xs) : g < w.heap.size := by
  rcases h.2 with ⟨h0, _⟩ | ⟨g', cap', cur, hv, _, hh, _⟩
  · simp at h0
  · simp at hv; obtain ⟨rfl, _⟩ := hv
    exact (Array.getElem?_eq_some_iff.1 hh).1
theorem own_nil (w : World) (base e : Nat) : w.ownsRow base e 1 (.slice none 0 0) 0 [] := ⟨rfl, .inl ⟨rfl, rfl⟩⟩
theorem own_some {w : World} {base e k g cap : Nat} {xs : List Value} (h : w.ownsRow base e 1 (.slice (some ⟨g, 0, none⟩) k cap) k xs) {j : Nat} (hj : j < k) : ∃ u, w.cell? ⟨g, j, none⟩ = some u := by
  have hl : xs.length = k := by have := h.1; omega
  have hc := h.cellAt (j := j) (by omega)
  exact ⟨xs[j]'(by omega), by rw [hc]; simp [hl, hj]⟩
theorem own_base {w : World} {base b2 e size n : Nat} {v : Value} {xs : List Value} (h : w.ownsRow base e size v n xs) (hb : b2 ≤ base) : w.ownsRow b2 e size v n xs := by
  refine ⟨h.1, ?_⟩
  rcases h.2 with h0 | ⟨g, cap, cur, rfl, hg, r⟩
  · exact .inl h0
  · exact .inr ⟨g, cap, cur, rfl, Nat.le_trans hb hg, r⟩
theorem news1 (w : World) (x : Value) (T : Nat) : ∀ (j : Nat) (u : Value), [x][j]? = some u → (w.alloc (.cells #[x] T)).cell? ((⟨w.heap.size, 0, none⟩ : Addr).add j) = some u := by
  intro j u h
  match j with
  | 0 => simp at h; subst h; simp [Addr.add]
  | j + 1 => simp at h

/-- A row that is being filled, the rest of it zeros. -/
def fillF (f : Nat → Int) (k j : Nat) : List Int := row k (fun i => if i < j then f i else 0)
theorem fillK_set (kd : IntKind) (f : Nat → Int) (k j : Nat) : ((fillF f k j).map (Value.int kd)).set j (.int kd (f j)) = (fillF f k (j + 1)).map (Value.int kd) := by
  apply List.ext_getElem
  · simp [fillF, row]
  · intro i h1 h2
    simp [fillF, row, List.getElem_set] at *
    by_cases e : j = i
    · subst e; simp
    · by_cases hi : i < j
      · simp [e, hi, show i < j + 1 by omega]
      · simp [e, hi, show ¬ i < j + 1 by omega]
theorem fillK_zero (kd : IntKind) (f : Nat → Int) (k : Nat) : (madeCells (Value.int kd 0).cells (k * 1)).toList = (fillF f k 0).map (Value.int kd) := by
  apply List.ext_getElem
  · simp [madeCells, fillF, row, Value.cells]
  · intro i h1 h2; simp [madeCells, fillF, row, Value.cells, Nat.mod_one]
theorem fillK_len (kd : IntKind) (f : Nat → Int) (k j : Nat) : ((fillF f k j).map (Value.int kd)).length = k := by simp [fillF, row]
theorem fillF_full (f : Nat → Int) (k : Nat) : fillF f k k = row k f := row_congr (fun i hi => by rw [if_pos hi])
theorem getD_row (n : Nat) (f : Nat → Int) (i : Nat) (h : i < n) : (row n f).getD i 0 = f i := row_getD n f i h
end Go.Proofs.YtafoohdndlhbnaaGreatDoor
end

section
namespace Go.Proofs.YtafoohdndlhbnaaGreatDoor
open Go.RowKit Go.Maps

theorem akey : WideMaps.ArrKey Tryz.prog 163 66 2 := ⟨by kernel_rfl, by kernel_rfl, by kernel_rfl, by kernel_rfl⟩
theorem alaw : Keyed Tryz.prog 163 := Keyed.of_law akey.law
theorem tsize : ∃ m, Tryz.prog.types.size = m + 1 := ⟨Tryz.prog.types.size - 1, by kernel_rfl⟩
theorem lit_wf {l : Int} (h : IsLit l) : (Lit.int .u32 l).wf = true := WalkArith.wf_u32 ⟨h.1, by have := h.2; omega⟩
/-- What a pair reads as. -/
def pkey (a b : Int) : Lit := .string (keyBytes [.int .u32 a, .int .u32 b])
theorem key_pair {a b : Int} (ha : IsLit a) (hb : IsLit b) : keyOf Tryz.prog 163 (.agg #[.int .u32 a, .int .u32 b]) = some (pkey a b) :=
  WideMaps.keyOf_pair akey Tryz.underlying66 tsize (lit_wf ha) (lit_wf hb)
theorem pkey_inj {a b c d : Int} (ha : IsLit a) (hb : IsLit b) (hc : IsLit c) (hd : IsLit d) (h : pkey a b = pkey c d) : a = c ∧ b = d := by
  have := alaw.inj (key_pair ha hb) (by rw [h]; exact key_pair hc hd)
  simpa using this
theorem pkey_key {a b : Int} (ha : IsLit a) (hb : IsLit b) : WideAt.IsKeyLit (pkey a b) := alaw.key (key_pair ha hb)

/-- What the map says, plainly. -/
def MapOf (ns : List Nd) (D : DataW Unit) : Prop :=
  IsMap D ∧ ∀ a b, IsLit a → IsLit b → has D (pkey a b) = (findG ns a b).isSome ∧ ∀ i, findG ns a b = some i → D.atKey (pkey a b) (.lit (.int .u32 0)) = .lit (.int .u32 (2 * (i : Int)))

def ndCells (n : Nd) : List Value := [.bool n.gate, .int .u32 n.a, .int .u32 n.b]
def nodeCells (ns : List Nd) : List Value := ns.flatMap ndCells
theorem nodeCells_push (ns : List Nd) (n : Nd) : nodeCells (ns ++ [n]) = nodeCells ns ++ ndCells n := by simp [nodeCells]
theorem nodeCells_len (ns : List Nd) : (nodeCells ns).length = ns.length * 3 := by
  induction ns with
  | nil => rfl
  | cons n ns ih => rw [show nodeCells (n :: ns) = ndCells n ++ nodeCells ns from rfl, List.length_append, ih]; simp [ndCells]; omega
theorem nodeCells_at (ns : List Nd) (i : Nat) (n : Nd) (h : ns[i]? = some n) : (nodeCells ns)[3 * i]? = some (.bool n.gate) ∧ (nodeCells ns)[3 * i + 1]? = some (.int .u32 n.a) ∧ (nodeCells ns)[3 * i + 2]? = some (.int .u32 n.b) := by
  induction ns generalizing i with
  | nil => simp at h
  | cons m ns ih =>
    rw [show nodeCells (m :: ns) = ndCells m ++ nodeCells ns from rfl]
    match i with
    | 0 => simp at h; subst h; exact ⟨rfl, rfl, rfl⟩
    | i + 1 =>
      have := ih i (by simpa using h)
      rw [List.getElem?_append_right (by simp [ndCells]; omega), List.getElem?_append_right (by simp [ndCells]; omega), List.getElem?_append_right (by simp [ndCells]; omega)]
      rw [show 3 * (i + 1) - (ndCells m).length = 3 * i by simp [ndCells]; omega, show 3 * (i + 1) + 1 - (ndCells m).length = 3 * i + 1 by simp [ndCells]; omega, show 3 * (i + 1) + 2 - (ndCells m).length = 3 * i + 2 by simp [ndCells]; omega]
      exact this

/-- A graph's place. -/
structure Pl where
  b : Nat
  nb : Nat
  nc : Nat
  iv : Value
  m : Option Nat
def Pl.nv (p : Pl) (n : Nat) : Value := .slice (some ⟨p.nb, 0, none⟩) n p.nc
def Pl.has (p : Pl) (k : Nat) : Prop := k = p.b ∨ k = p.nb ∨ p.iv.ownBlock = some k ∨ p.m = some k
def boxOf (p : Pl) (F H : Bool) (n : Nat) : Obj := .cells #[.bool F, .bool H, p.nv n, p.iv, .map p.m] 133 (0, 0)

structure Lay (w : World) (p : Pl) (F H : Bool) (ns : List Nd) (ins : List Int) : Prop where
  box : w.heap[p.b]? = some (boxOf p F H ns.length)
  nodes : w.ownsRow 0 165 3 (p.nv ns.length) ns.length (nodeCells ns)
  inputs : w.ownsRow 0 3 1 p.iv ins.length (ins.map (Value.int .i64))

def MapIn (w : World) (m : Option Nat) (H : Bool) (ns : List Nd) : Prop :=
  if H = true then ∃ mb D, m = some mb ∧ w.ownsMap Tryz.prog 163 (plainElem Tryz.prog 66) mb ns.length D ∧ MapOf ns D else m = none

structure Is (w : World) (p : Pl) (G : Gr) : Prop where
  lay : Lay w p G.fold G.hash G.nodes G.inputs
  map : MapIn w p.m G.hash G.nodes

/-- All but the blocks F is as it was. -/
structure Kept (F : Nat → Prop) (w w' : World) : Prop where
  os : w'.os = w.os
  tape : w'.tape = w.tape
  output : w'.output = w.output
  size : w.heap.size ≤ w'.heap.size
  block : ∀ k, k < w.heap.size → ¬ F k → w'.heap[k]? = w.heap[k]?

theorem Kept.refl (F : Nat → Prop) (w : World) : Kept F w w := ⟨rfl, rfl, rfl, Nat.le_refl _, fun _ _ _ => rfl⟩
theorem Kept.of_below {F : Nat → Prop} {w w' : World} (h : Below w.heap.size w w') : Kept F w w' := ⟨h.os, h.tape, h.output, h.size, fun k hk _ => h.block k hk⟩
theorem Kept.trans {F F' : Nat → Prop} {a b c : World} (h : Kept F a b) (k : Kept F' b c) (hF : ∀ x, F' x → F x ∨ a.heap.size ≤ x) : Kept F a c :=
  ⟨k.os.trans h.os, k.tape.trans h.tape, k.output.trans h.output, Nat.le_trans h.size k.size, fun i hi hn => (k.block i (Nat.lt_of_lt_of_le hi h.size) (fun hf => by rcases hF i hf with h1 | h1; exact hn h1; omega)).trans (h.block i hi hn)⟩
theorem Kept.below {F : Nat → Prop} {N : Nat} {w w' : World} (h : Kept F w w') (hF : ∀ k, F k → N ≤ k) (hN : N ≤ w.heap.size) : Below N w w' :=
  ⟨h.os, h.tape, h.output, h.size, fun k hk => h.block k (by omega) (fun hf => by have := hF k hf; omega)⟩

theorem Lay.lt {w : World} {p : Pl} {F H : Bool} {ns : List Nd} {ins : List Int} (h : Lay w p F H ns ins) : p.b < w.heap.size := (Array.getElem?_eq_some_iff.1 h.box).1
theorem Lay.nlt {w : World} {p : Pl} {F H : Bool} {ns : List Nd} {ins : List Int} (h : Lay w p F H ns ins) : p.nb < w.heap.size := own_lt h.nodes
theorem Lay.nlen {w : World} {p : Pl} {F H : Bool} {ns : List Nd} {ins : List Int} (h : Lay w p F H ns ins) : ∃ cur, w.heap[p.nb]? = some (.cells cur 165 (0, 0)) := by
  rcases h.nodes.2 with ⟨h0, _⟩ | ⟨g, cap, cur, hv, _, hh, _⟩
  · simp [Pl.nv] at h0
  · simp [Pl.nv] at hv; obtain ⟨rfl, -⟩ := hv; exact ⟨cur, hh⟩
theorem own_type {w : World} {base e size n k : Nat} {v : Value} {xs : List Value} (h : w.ownsRow base e size v n xs) (hk : v.ownBlock = some k) : ∃ cur, w.heap[k]? = some (.cells cur e (0, 0)) := by
  rcases h.2 with ⟨rfl, _⟩ | ⟨g, cap, cur, rfl, _, hh, _⟩
  · simp [Value.ownBlock] at hk
  · simp [Value.ownBlock] at hk; subst hk; exact ⟨cur, hh⟩
/-- A graph's blocks are there. -/
theorem Is.has_lt {w : World} {p : Pl} {G : Gr} (h : Is w p G) {k : Nat} (hk : p.has k) : k < w.heap.size := by
  rcases hk with rfl | rfl | hk | hk
  · exact h.lay.lt
  · exact h.lay.nlt
  · obtain ⟨cur, hh⟩ := own_type h.lay.inputs hk
    exact (Array.getElem?_eq_some_iff.1 hh).1
  · have hm := h.map
    unfold MapIn at hm
    split at hm
    · obtain ⟨mb, D, e, ho, _⟩ := hm
      rw [e] at hk; obtain rfl : mb = k := by simpa using hk
      exact ho.lt
    · rw [hm] at hk; cases hk
/-- A row of another type lies elsewhere. -/
theorem Is.other {w : World} {p : Pl} {G : Gr} (h : Is w p G) {k T : Nat} {cur : Array Value} {fz : Nat × Nat} (hk : w.heap[k]? = some (.cells cur T fz)) (h1 : T ≠ 133) (h2 : T ≠ 165) (h3 : T ≠ 3) : ¬ p.has k := by
  intro hp
  rcases hp with rfl | rfl | hp | hp
  · rw [h.lay.box] at hk; simp [boxOf] at hk; exact h1 hk.2.1.symm
  · obtain ⟨c, hc⟩ := h.lay.nlen; rw [hc] at hk; simp at hk; exact h2 hk.2.1.symm
  · obtain ⟨c, hc⟩ := own_type h.lay.inputs hp; rw [hc] at hk; simp at hk; exact h3 hk.2.1.symm
  · have hm := h.map
    unfold MapIn at hm
    split at hm
    · obtain ⟨mb, D, e, ho, _⟩ := hm
      rw [e] at hp; obtain rfl : mb = k := by simpa using hp
      obtain ⟨es, cl, hb, _⟩ := ho
      rw [hb] at hk; simp at hk
    · rw [hm] at hp; cases hp
theorem own_keptF {F : Nat → Prop} {w w' : World} {base e size n : Nat} {v : Value} {xs : List Value} (h : w.ownsRow base e size v n xs) (hk : Kept F w w') (hn : ∀ k, v.ownBlock = some k → ¬ F k) : w'.ownsRow base e size v n xs := by
  refine ⟨h.1, ?_⟩
  rcases h.2 with h0 | ⟨g, cap, cur, rfl, hg, hh, r⟩
  · exact .inl h0
  · exact .inr ⟨g, cap, cur, rfl, hg, by rw [hk.block g (Array.getElem?_eq_some_iff.1 hh).1 (hn g rfl)]; exact hh, r⟩
/-- A row of another type is kept while the graph grows. -/
theorem own_beside {w w' : World} {p : Pl} {G : Gr} (hI : Is w p G) {base T size n : Nat} {v : Value} {xs : List Value} (h : w.ownsRow base T size v n xs) (hk : Kept p.has w w') (h1 : T ≠ 133) (h2 : T ≠ 165) (h3 : T ≠ 3) : w'.ownsRow base T size v n xs :=
  own_keptF h hk (fun k e => by obtain ⟨cur, hh⟩ := own_type h e; exact hI.other hh h1 h2 h3)
theorem map_block {w w' : World} {b n : Nat} {D : DataW Unit} (h : w.ownsMap Tryz.prog 163 (plainElem Tryz.prog 66) b n D) (hb : w'.heap[b]? = w.heap[b]?) : w'.ownsMap Tryz.prog 163 (plainElem Tryz.prog 66) b n D := by
  obtain ⟨es, cl, h1, r⟩ := h
  exact ⟨es, cl, hb.trans h1, r⟩
/-- What is below stays. -/
theorem Lay.below {w w' : World} {p : Pl} {F H : Bool} {ns : List Nd} {ins : List Int} (h : Lay w p F H ns ins) (hb : Below w.heap.size w w') : Lay w' p F H ns ins :=
  ⟨(hb.block _ h.lt).trans h.box, own_below h.nodes hb, own_below h.inputs hb⟩
theorem MapIn.below {w w' : World} {m : Option Nat} {H : Bool} {ns : List Nd} (h : MapIn w m H ns) (hb : Below w.heap.size w w') : MapIn w' m H ns := by
  unfold MapIn at h ⊢
  split
  · rename_i hH
    rw [if_pos hH] at h
    obtain ⟨mb, D, e, ho, hm⟩ := h
    exact ⟨mb, D, e, map_block ho (hb.block _ ho.lt), hm⟩
  · rename_i hH
    rw [if_neg hH] at h; exact h
theorem Is.below {w w' : World} {p : Pl} {G : Gr} (h : Is w p G) (hb : Below w.heap.size w w') : Is w' p G := ⟨h.lay.below hb, h.map.below hb⟩

/-- One step on: the graph is G' now; the rest is as it was. -/
structure Step (p : Pl) (w : World) (p' : Pl) (w' : World) (G' : Gr) : Prop where
  is : Is w' p' G'
  kept : Kept p.has w w'
  b : p'.b = p.b
  new : ∀ k, p'.has k → p.has k ∨ w.heap.size ≤ k

theorem Step.refl {p : Pl} {w : World} {G : Gr} (h : Is w p G) : Step p w p w G := ⟨h, Kept.refl _ _, rfl, fun _ h => .inl h⟩
theorem Step.of_below {p : Pl} {w w' : World} {G : Gr} (h : Is w p G) (hb : Below w.heap.size w w') : Step p w p w' G := ⟨h.below hb, Kept.of_below hb, rfl, fun _ h => .inl h⟩
theorem Step.trans {p p1 p2 : Pl} {w w1 w2 : World} {G1 G2 : Gr} (h : Step p w p1 w1 G1) (k : Step p1 w1 p2 w2 G2) : Step p w p2 w2 G2 :=
  ⟨k.is, h.kept.trans k.kept h.new, k.b.trans h.b, fun x hx => by
    rcases k.new x hx with h1 | h1
    · exact h.new x h1
    · exact .inr (Nat.le_trans h.kept.size h1)⟩
theorem Step.then {p p1 : Pl} {w w1 w2 : World} {G1 : Gr} (h : Step p w p1 w1 G1) (hb : Below w1.heap.size w1 w2) : Step p w p1 w2 G1 := h.trans (Step.of_below h.is hb)
theorem Step.front {p p1 : Pl} {w w1 w2 : World} {G G1 : Gr} (hG : Is w p G) (hb : Below w.heap.size w w1) (h : Step p w1 p1 w2 G1) : Step p w p1 w2 G1 := (Step.of_below hG hb).trans h

/-- The cells of the graph's own struct. -/
theorem Lay.cells {w : World} {p : Pl} {F H : Bool} {ns : List Nd} {ins : List Int} (h : Lay w p F H ns ins) :
    w.cell? ⟨p.b, 0, none⟩ = some (.bool F) ∧ w.cell? ⟨p.b, 1, none⟩ = some (.bool H) ∧ w.cell? ⟨p.b, 2, none⟩ = some (.slice (some ⟨p.nb, 0, none⟩) ns.length p.nc) ∧ w.cell? ⟨p.b, 3, none⟩ = some p.iv ∧ w.cell? ⟨p.b, 4, none⟩ = some (.map p.m)
      ∧ ∀ o, w.frozen? ⟨p.b, o, none⟩ = false := by
  have hb := h.box
  refine ⟨?_, ?_, ?_, ?_, ?_, fun o => ?_⟩ <;> simp [World.cell?, World.frozen?, hb, boxOf, Pl.nv]
end Go.Proofs.YtafoohdndlhbnaaGreatDoor
end
