/-
  Netlists, plainly: buses, registers, what each call makes of one; what is well formed.
-/
import Derived.Test.YtjdebancpgpebaaAigM
import Derived.Test.YtjdebancpgpebaaAigG
namespace Go.Proofs.Ytjdebancpgpebaa
open Go.RowKit Num

structure Bus where
  name : ByteArray
  lits : List Int
structure Rg where
  q : Int
  d : Int
  en : Int
  init : Bool
structure Nt where
  g : Gr
  name : ByteArray
  ins : List Bus
  regs : List Rg
  outs : List Bus

def spellB (b : Int) : Bool := ((((((decide (97 ≤ b) && decide (b ≤ 122)) || (decide (65 ≤ b) && decide (b ≤ 90))) || (decide (48 ≤ b) && decide (b ≤ 57))) || (b == 95)) || (b == 64)) || (b == 63))
def mayName (s : ByteArray) : Bool := decide (1 ≤ s.size) && (decide (s.size ≤ 80) && s.data.toList.all (fun b => spellB b.toNat))
def wide (n : Int) : Bool := decide (1 ≤ n) && decide (n ≤ 64)
def sameN (s t : ByteArray) : Bool := s.toList == t.toList
theorem sameN_refl (s : ByteArray) : sameN s s = true := by simp [sameN]
theorem sameN_comm (s t : ByteArray) : sameN s t = sameN t s := by
  unfold sameN
  rw [Bool.eq_iff_iff, beq_iff_eq, beq_iff_eq]
  exact eq_comm
theorem sameN_trans {s t u : ByteArray} (h : sameN s t = true) (k : sameN t u = true) : sameN s u = true := by
  simp [sameN] at *; rw [h, k]

/-- Where a row has a first one of the kind; below 0, if none. -/
def firstV : Option Nat → Int
  | some i => i
  | none => -1
def atB (L : List Bus) (s : ByteArray) : Option Nat := L.findIdx? (fun b => sameN b.name s)
def regAt (R : List Rg) (q : Int) : Option Nat := R.findIdx? (fun r => r.q == q)
def hasB (G : Gr) (l : Int) : Bool := decide (l / 2 < G.nodes.length)
def allHas (G : Gr) (l : List Int) : Bool := l.all (hasB G)

def inputsN (G : Gr) : Nat → Gr
  | 0 => G
  | k + 1 => inputG (inputsN G k)
/-- The literals of k inputs that come next. -/
def newL (G : Gr) (k : Nat) : List Int := (List.range k).map (fun (i : Nat) => 2 * ((G.nodes.length + i : Nat) : Int))

theorem inputsN_len (G : Gr) (k : Nat) : (inputsN G k).nodes.length = G.nodes.length + k := by
  induction k with
  | zero => rfl
  | succ k ih => show (inputG (inputsN G k)).nodes.length = _; rw [inputG_len, ih]; omega
theorem inputsN_wf {G : Gr} (h : Wf G) (k : Nat) : Wf (inputsN G k) := by
  induction k with
  | zero => exact h
  | succ k ih => exact Wf_inputG ih
theorem inputsN_le (G : Gr) (k : Nat) : Le G (inputsN G k) := by
  induction k with
  | zero => exact Le.refl _
  | succ k ih => exact ih.trans (inputG_le _)
theorem inputsN_succ (G : Gr) (k : Nat) : inputsN G (k + 1) = inputG (inputsN G k) := rfl
theorem newL_len (G : Gr) (k : Nat) : (newL G k).length = k := by simp [newL]
theorem newL_succ (G : Gr) (k : Nat) : newL G (k + 1) = newL G k ++ [2 * ((G.nodes.length + k : Nat) : Int)] := by simp [newL, List.range_succ]

/-- What comes in. -/
def inLits (G : Gr) : List Int := G.inputs.map (fun i => 2 * i)
theorem inLits_inputG (G : Gr) : inLits (inputG G) = inLits G ++ [2 * (G.nodes.length : Int)] := by simp [inLits, inputG]
theorem inLits_inputsN (G : Gr) (k : Nat) : inLits (inputsN G k) = inLits G ++ newL G k := by
  induction k with
  | zero => simp [inputsN, newL]
  | succ k ih => rw [inputsN_succ, inLits_inputG, ih, newL_succ, inputsN_len, List.append_assoc]

def litsOf (L : List Bus) : List Int := L.flatMap (fun b => b.lits)
def takenN (N : Nt) : List Int := litsOf N.ins ++ N.regs.map (fun r => r.q)

def addIn (N : Nt) (s : ByteArray) (k : Int) : Nt × List Int × Int :=
  if (mayName s && wide k) = true then
    if (atB N.ins s).isSome = true then (N, [], 9)
    else ({ N with g := inputsN N.g k.toNat, ins := N.ins ++ [⟨s, newL N.g k.toNat⟩] }, newL N.g k.toNat, 0)
  else (N, [], 1)
def addReg (N : Nt) (i : Bool) : Nt × Int := ({ N with g := inputG N.g, regs := N.regs ++ [⟨2 * (N.g.nodes.length : Int), 0, 0, i⟩] }, 2 * (N.g.nodes.length : Int))
def setRg (d en : Int) (r : Rg) : Rg := { r with d := d, en := en }
def setReg (N : Nt) (q d en : Int) : Nt × Int :=
  match regAt N.regs q with
  | none => (N, 1)
  | some i => if allHas N.g [d, en] = true then ({ N with regs := N.regs.modify i (setRg d en) }, 0) else (N, 1)
def addOut (N : Nt) (s : ByteArray) (l : List Int) : Nt × Int :=
  if (mayName s && (wide l.length && allHas N.g l)) = true then
    if (atB N.outs s).isSome = true then (N, 9) else ({ N with outs := N.outs ++ [⟨s, l⟩] }, 0)
  else (N, 1)
def gateN (T : Gr → Int → Int → Gr × Int) (N : Nt) (b c : Int) : Nt × Int × Int :=
  if allHas N.g [b, c] = true then ({ N with g := (T N.g b c).1 }, (T N.g b c).2, 0) else (N, 0, 1)

def NamesApart (L : List Bus) : Prop := L.Pairwise (fun a b => sameN a.name b.name = false)
structure BusesOk (L : List Bus) : Prop where
  name : ∀ b ∈ L, mayName b.name = true
  wide : ∀ b ∈ L, 1 ≤ b.lits.length ∧ b.lits.length ≤ 64
  apart : NamesApart L
/-- Well formed, but for inputs that nothing drives. -/
structure Good (N : Nt) (rest : List Int) : Prop where
  wf : Wf N.g
  name : mayName N.name = true
  ins : BusesOk N.ins
  outs : BusesOk N.outs
  outT : ∀ b ∈ N.outs, ∀ x ∈ b.lits, There N.g x
  regT : ∀ r ∈ N.regs, There N.g r.d ∧ There N.g r.en
  drv : (takenN N ++ rest).Perm (inLits N.g)

theorem atB_none {L : List Bus} {s : ByteArray} (h : (atB L s).isSome ≠ true) : ∀ b ∈ L, sameN b.name s = false := by
  unfold atB at h
  intro b hb
  have : L.findIdx? (fun b => sameN b.name s) = none := by
    cases e : L.findIdx? (fun b => sameN b.name s) with
    | none => rfl
    | some i => rw [e] at h; simp at h
  rw [List.findIdx?_eq_none_iff] at this
  simpa using this b hb
theorem BusesOk.push {L : List Bus} (h : BusesOk L) {s : ByteArray} {l : List Int} (hs : mayName s = true) (hl : 1 ≤ l.length ∧ l.length ≤ 64) (ha : (atB L s).isSome ≠ true) : BusesOk (L ++ [⟨s, l⟩]) := by
  refine ⟨?_, ?_, ?_⟩
  · intro b hb; rcases List.mem_append.1 hb with h1 | h1
    · exact h.name b h1
    · simp at h1; subst h1; exact hs
  · intro b hb; rcases List.mem_append.1 hb with h1 | h1
    · exact h.wide b h1
    · simp at h1; subst h1; exact hl
  · unfold NamesApart
    rw [List.pairwise_append]
    refine ⟨h.apart, by simp, fun a ha' b hb => ?_⟩
    simp at hb; subst hb
    exact atB_none ha a ha'
theorem wide_iff {k : Int} : wide k = true ↔ 1 ≤ k ∧ k ≤ 64 := by simp [wide]
theorem hasB_there {G : Gr} {x : Int} (hx : IsLit x) : hasB G x = true ↔ There G x := by
  unfold hasB There
  simp [hx]
theorem allHas_there {G : Gr} {l : List Int} (hl : ∀ x ∈ l, IsLit x) (h : allHas G l = true) : AllThere G l := by
  intro x hx
  unfold allHas at h
  exact (hasB_there (hl x hx)).1 (List.all_eq_true.1 h x hx)

theorem Good.new (F H : Bool) {s : ByteArray} (hs : mayName s = true) : Good ⟨newG F H, s, [], [], []⟩ [] :=
  ⟨Wf_new F H, hs, ⟨by simp, by simp, List.Pairwise.nil⟩, ⟨by simp, by simp, List.Pairwise.nil⟩, by simp, by simp, by simp [takenN, litsOf, inLits, newG]⟩
theorem litsOf_push (L : List Bus) (b : Bus) : litsOf (L ++ [b]) = litsOf L ++ b.lits := by simp [litsOf]
theorem Good.addIn {N : Nt} {rest : List Int} (h : Good N rest) (s : ByteArray) (k : Int) : Good (addIn N s k).1 rest := by
  unfold Ytjdebancpgpebaa.addIn
  split
  · rename_i hc
    simp only [Bool.and_eq_true] at hc
    split
    · exact h
    · rename_i ha
      have hk := wide_iff.1 hc.2
      have hL := inputsN_le N.g k.toNat
      refine ⟨inputsN_wf h.wf _, h.name, h.ins.push hc.1 (by rw [newL_len]; omega) ha, h.outs, fun b hb x hx => hL.there (h.outT b hb x hx), fun r hr => ⟨hL.there (h.regT r hr).1, hL.there (h.regT r hr).2⟩, ?_⟩
      show (litsOf (N.ins ++ [⟨s, newL N.g k.toNat⟩]) ++ N.regs.map (fun r => r.q) ++ rest).Perm (inLits (inputsN N.g k.toNat))
      rw [litsOf_push, inLits_inputsN]
      have hd := h.drv
      unfold takenN at hd
      refine List.Perm.trans ?_ (List.Perm.append_right _ hd)
      simp only [List.append_assoc]
      refine List.Perm.append_left _ ?_
      have h1 : (newL N.g k.toNat ++ (List.map (fun r => r.q) N.regs ++ rest)).Perm ((List.map (fun r => r.q) N.regs ++ rest) ++ newL N.g k.toNat) := List.perm_append_comm
      simpa [List.append_assoc] using h1
  · exact h
theorem Good.addReg {N : Nt} {rest : List Int} (h : Good N rest) (i : Bool) : Good (addReg N i).1 rest := by
  have hL := inputG_le N.g
  have hp := h.wf.pos
  have h0 : There (inputG N.g) 0 := ⟨by unfold IsLit; omega, by rw [inputG_len]; omega⟩
  refine ⟨Wf_inputG h.wf, h.name, h.ins, h.outs, fun b hb x hx => hL.there (h.outT b hb x hx), fun r hr => ?_, ?_⟩
  · rcases List.mem_append.1 hr with h1 | h1
    · exact ⟨hL.there (h.regT r h1).1, hL.there (h.regT r h1).2⟩
    · simp at h1; subst h1; exact ⟨h0, h0⟩
  · show (litsOf N.ins ++ (N.regs ++ [_]).map (fun (r : Rg) => r.q) ++ rest).Perm (inLits (inputG N.g))
    rw [inLits_inputG]
    have hd := h.drv
    unfold takenN at hd
    refine List.Perm.trans ?_ (List.Perm.append_right _ hd)
    simp only [List.map_append, List.append_assoc, List.map_cons, List.map_nil]
    refine List.Perm.append_left _ (List.Perm.append_left _ ?_)
    exact List.perm_append_comm
theorem modify_q (R : List Rg) (i : Nat) (d en : Int) : (R.modify i (setRg d en)).map (fun r => r.q) = R.map (fun r => r.q) := by
  apply List.ext_getElem
  · simp
  · intro k h1 h2
    simp [List.getElem_modify]
    split <;> rfl
theorem Good.setReg {N : Nt} {rest : List Int} (h : Good N rest) (q d en : Int) (hd : IsLit d) (he : IsLit en) : Good (setReg N q d en).1 rest := by
  unfold Ytjdebancpgpebaa.setReg
  split
  · exact h
  · rename_i i hi
    split
    · rename_i hc
      have ht := allHas_there (l := [d, en]) (by intro x hx; simp at hx; rcases hx with rfl | rfl <;> assumption) hc
      refine ⟨h.wf, h.name, h.ins, h.outs, h.outT, fun r hr => ?_, ?_⟩
      · obtain ⟨k, hk, rfl⟩ := List.getElem_of_mem hr
        simp [List.getElem_modify]
        split
        · exact ⟨ht d (by simp), ht en (by simp)⟩
        · exact h.regT _ (List.getElem_mem _)
      · show (litsOf N.ins ++ (N.regs.modify i (setRg d en)).map (fun r => r.q) ++ rest).Perm (inLits N.g)
        rw [modify_q]
        exact h.drv
    · exact h
theorem Good.addOut {N : Nt} {rest : List Int} (h : Good N rest) (s : ByteArray) (l : List Int) (hl : ∀ x ∈ l, IsLit x) : Good (addOut N s l).1 rest := by
  unfold Ytjdebancpgpebaa.addOut
  split
  · rename_i hc
    simp only [Bool.and_eq_true] at hc
    split
    · exact h
    · rename_i ha
      have hk := wide_iff.1 hc.2.1
      have ht := allHas_there hl hc.2.2
      refine ⟨h.wf, h.name, h.ins, h.outs.push hc.1 (by omega) ha, fun b hb x hx => ?_, h.regT, h.drv⟩
      rcases List.mem_append.1 hb with h1 | h1
      · exact h.outT b h1 x hx
      · simp at h1; subst h1; exact ht x hx
  · exact h
theorem Good.grow {N : Nt} {rest : List Int} (h : Good N rest) {G' : Gr} {l : Int} {k : Nat} (g : Grows N.g G' l k) : Good { N with g := G' } rest :=
  ⟨g.wf, h.name, h.ins, h.outs, fun b hb x hx => g.le.there (h.outT b hb x hx), fun r hr => ⟨g.le.there (h.regT r hr).1, g.le.there (h.regT r hr).2⟩, by
    show (takenN N ++ rest).Perm (inLits G')
    have := h.drv
    unfold inLits at this ⊢
    rw [g.ins]; exact this⟩
theorem Good.input {N : Nt} {rest : List Int} (h : Good N rest) : Good { N with g := inputG N.g } (rest ++ [2 * (N.g.nodes.length : Int)]) := by
  have hL := inputG_le N.g
  refine ⟨Wf_inputG h.wf, h.name, h.ins, h.outs, fun b hb x hx => hL.there (h.outT b hb x hx), fun r hr => ⟨hL.there (h.regT r hr).1, hL.there (h.regT r hr).2⟩, ?_⟩
  show (takenN N ++ (rest ++ _)).Perm (inLits (inputG N.g))
  rw [inLits_inputG, ← List.append_assoc]
  exact List.Perm.append_right _ h.drv

/-! ### what is not taken yet -/
theorem inLits_nodup {G : Gr} (h : Wf G) : (inLits G).Nodup := by
  unfold inLits List.Nodup
  rw [List.pairwise_map, List.pairwise_iff_getElem]
  intro i j hi hj hij e
  have := h.rise i j _ _ hij (List.getElem?_eq_getElem hi) (List.getElem?_eq_getElem hj)
  omega
theorem inLits_mem {G : Gr} (h : Wf G) {x : Int} (hx : x ∈ inLits G) : ∃ i : Nat, x = 2 * (i : Int) ∧ 0 < i ∧ i < G.nodes.length ∧ (i : Int) ∈ G.inputs := by
  unfold inLits at hx
  obtain ⟨v, hv, rfl⟩ := List.mem_map.1 hx
  obtain ⟨k, hk, rfl⟩ := List.getElem_of_mem hv
  obtain ⟨i, e, h0, n, hn, -⟩ := h.ins k _ (List.getElem?_eq_getElem hk)
  exact ⟨i, by simp only [e], h0, (List.getElem?_eq_some_iff.1 hn).1, by rw [← e]; exact List.getElem_mem _⟩
/-- What is still to be taken: each an input's literal, none twice. -/
structure Left (G : Gr) (l : List Int) : Prop where
  nodup : l.Nodup
  lit : ∀ x ∈ l, ∃ i : Nat, x = 2 * (i : Int) ∧ 0 < i ∧ i < G.nodes.length
theorem Good.left {N : Nt} {rest : List Int} (h : Good N rest) : Left N.g (takenN N ++ rest) :=
  ⟨h.drv.nodup_iff.2 (inLits_nodup h.wf), fun x hx => by obtain ⟨i, e, h0, h1, -⟩ := inLits_mem h.wf (h.drv.mem_iff.1 hx); exact ⟨i, e, h0, h1⟩⟩
theorem Left.tail {G : Gr} {x : Int} {l : List Int} (h : Left G (x :: l)) : Left G l := ⟨(List.nodup_cons.1 h.nodup).2, fun y hy => h.lit y (by simp [hy])⟩
theorem Left.suffix {G : Gr} {k l : List Int} (h : Left G (k ++ l)) : Left G l := ⟨(List.nodup_append.1 h.nodup).2.1, fun y hy => h.lit y (by simp [hy])⟩

/-- Which nodes are free. -/
def freeB (l : List Int) (k : Nat) : Bool := l.contains (2 * (k : Int))
def freeL (n : Nat) (l : List Int) : List Value := (List.range n).map (fun k => Value.bool (freeB l k))
theorem freeL_len (n : Nat) (l : List Int) : (freeL n l).length = n := by simp [freeL]
theorem freeL_at (n : Nat) (l : List Int) {k : Nat} (h : k < n) : (freeL n l)[k]? = some (.bool (freeB l k)) := by simp [freeL, h]
theorem freeL_take {G : Gr} {k : Nat} {l : List Int} (h : Left G (2 * (k : Int) :: l)) (n : Nat) : (freeL n (2 * (k : Int) :: l)).set k (.bool false) = freeL n l := by
  have hn := (List.nodup_cons.1 h.nodup).1
  apply List.ext_getElem
  · simp [freeL]
  · intro i h1 h2
    simp [freeL, List.getElem_set] at *
    by_cases e : k = i
    · subst e; simp [freeB, hn]
    · have : ¬ ((i : Int) = k) := by omega
      have e2 : ¬ (2 * (i : Int) = 2 * (k : Int)) := by omega
      simp [e, freeB, e2]
theorem freeB_head (k : Nat) (l : List Int) : freeB (2 * (k : Int) :: l) k = true := by simp [freeB]
/-- The nodes of the first j of a row. -/
def marked (I : List Int) (j : Nat) : List Int := (I.take j).map (fun i => 2 * i)
theorem freeL_none (n : Nat) : freeL n [] = List.replicate n (.bool false) := by
  apply List.ext_getElem
  · simp [freeL]
  · intro i h1 h2; simp [freeL, freeB]
theorem freeL_mark (n : Nat) (I : List Int) {j i : Nat} (hj : I[j]? = some (i : Int)) : (freeL n (marked I j)).set i (.bool true) = freeL n (marked I (j + 1)) := by
  apply List.ext_getElem
  · simp [freeL]
  · intro k h1 h2
    have e : marked I (j + 1) = marked I j ++ [2 * (i : Int)] := by
      unfold marked; rw [List.take_add_one, hj]; simp
    simp [freeL, List.getElem_set, e] at *
    by_cases hk : i = k
    · subst hk; simp [freeB]
    · have e2 : ¬ ((k : Int) = i) := by omega
      have e3 : ¬ (2 * (k : Int) = 2 * (i : Int)) := by omega
      simp [hk, freeB, e3]
theorem freeL_perm (n : Nat) {l m : List Int} (h : l.Perm m) : freeL n l = freeL n m := by
  unfold freeL freeB
  apply List.map_congr_left
  intro k _
  have : l.contains (2 * (k : Int)) = m.contains (2 * (k : Int)) := by
    rw [Bool.eq_iff_iff]; simp [h.mem_iff]
  rw [this]
end Go.Proofs.Ytjdebancpgpebaa
