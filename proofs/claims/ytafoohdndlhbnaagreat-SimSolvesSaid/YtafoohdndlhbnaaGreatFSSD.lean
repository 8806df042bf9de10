/-
  Or, the Or of two Ands, Xor.
  Are all literals there; a row of them put together.
  Netlists, plainly: buses, registers, what each call makes of one; what is well formed.
  Eval, plainly: the inputs' words laid in, then each gate's, rising; what comes of it.
  Simulations, plainly: what the inputs have, a cycle's words, what registers have then; what words of two cycles have to do with one another.
-/
import Derived.Test.YtafoohdndlhbnaaGreatFSSC
import Derived.Test.YtafoohdndlhbnaaGreatFSSA
import Derived.Test.YtafoohdndlhbnaaGreatFSSB
section
namespace Go.Proofs.YtafoohdndlhbnaaGreat
open Go.RowKit Go.Maps
set_option maxRecDepth 100000

theorem orG_good {G : Gr} (h : Wf G) {a b : Int} (ha : There G a) (hb : There G b) (hl : G.nodes.length ≤ 10000000) : Grows G (orG G a b).1 (orG G a b).2 1 := by
  have g := andG_good h ha.not hb.not hl
  exact ⟨g.wf, g.le, g.there.not, g.len, g.ins⟩
theorem Grows.trans {A B C : Gr} {l m : Int} {j k : Nat} (h : Grows A B l j) (g : Grows B C m k) : Grows A C m (j + k) :=
  ⟨g.wf, h.le.trans g.le, g.there, by have := h.len; have := g.len; omega, g.ins.trans h.ins⟩
theorem eitherG_good {G : Gr} (h : Wf G) {a b c d : Int} (ha : There G a) (hb : There G b) (hc : There G c) (hd : There G d) (hl : G.nodes.length ≤ 9000000) : Grows G (eitherG G a b c d).1 (eitherG G a b c d).2 3 := by
  have g1 := andG_good h ha hb (by omega)
  have l1 := g1.len
  have g2 := andG_good g1.wf (g1.le.there hc) (g1.le.there hd) (by omega)
  have l2 := g2.len
  have g3 := orG_good g2.wf (g2.le.there g1.there) g2.there (by omega)
  exact (g1.trans g2).trans g3
theorem xorG_good {G : Gr} (h : Wf G) {a b : Int} (ha : There G a) (hb : There G b) (hl : G.nodes.length ≤ 9000000) : Grows G (xorG G a b).1 (xorG G a b).2 3 := eitherG_good h ha hb.not ha.not hb hl
theorem muxG_good {G : Gr} (h : Wf G) {c a b : Int} (hc : There G c) (ha : There G a) (hb : There G b) (hl : G.nodes.length ≤ 9000000) : Grows G (muxG G c a b).1 (muxG G c a b).2 3 := eitherG_good h hc ha hc.not hb hl

theorem or_any {w : World} {p : Pl} {G : Gr} (hG : Is w p G) (hW : Wf G) (hm : G.nodes.length ≤ 200000) {a b : Int} (ha : There G a) (hb : There G b) :
    Calls Tryz.prog 121 #[.pointer (some ⟨p.b, 0, none⟩), .int .u32 a, .int .u32 b] w fun e w' => e = .returned (.tuple #[.int .u32 (orG G a b).2, .int .i64 0]) ∧ ∃ p', Step p w p' w' (orG G a b).1 := by
  have hna := Lib.hid (fun w => not_any a ha.1 w)
  have hnb := Lib.hid (fun w => not_any b hb.1 w)
  have hand := Lib.hid (and_any hG hW hm (notV_lit ha.1) (notV_lit hb.1))
  have hop := Lib.hid (fun w => opposite_any (andG_good hW ha.not hb.not (by omega)).there.1 w)
  unfold orG
  generalize andG G (notV a) (notV b) = r at *
  clear hG hW ha hb
  go_enter Tryz.func121, Tryz.ntmps121
  go_wp2_with (first
    | (go_at_call 27; (with_reducible refine (hna.out _).mono ?_); rintro e w2 ⟨rfl, rfl⟩)
    | (go_at_call 27; (with_reducible refine (hnb.out _).mono ?_); rintro e w2 ⟨rfl, rfl⟩)
    | (go_at_call 104; refine hand.out.mono ?_; rintro e w2 ⟨rfl, p', hS⟩)
    | (go_at_call 124; refine (hop.out _).mono ?_; rintro e w3 ⟨rfl, rfl⟩))
  go_ret2
  exact ⟨rfl, p', hS⟩

theorem either_any {w : World} {p : Pl} {G : Gr} (hG : Is w p G) (hW : Wf G) (hm : G.nodes.length ≤ 199000) {a b c d : Int} (ha : There G a) (hb : There G b) (hc : There G c) (hd : There G d) :
    Calls Tryz.prog 115 #[.pointer (some ⟨p.b, 0, none⟩), .int .u32 a, .int .u32 b, .int .u32 c, .int .u32 d] w fun e w' => e = .returned (.tuple #[.int .u32 (eitherG G a b c d).2, .int .i64 0]) ∧ ∃ p', Step p w p' w' (eitherG G a b c d).1 := by
  have g1 := andG_good hW ha hb (by omega)
  have l1 := g1.len
  have g2 := andG_good g1.wf (g1.le.there hc) (g1.le.there hd) (by omega)
  have l2 := g2.len
  have h1 := Lib.hid (and_any hG hW (by omega) ha.1 hb.1)
  have h2 := Lib.hid (fun (w' : World) (p' : Pl) (hI : Is w' p' (andG G a b).1) => and_any hI g1.wf (by omega) hc.1 hd.1)
  have h3 := Lib.hid (fun (w' : World) (p' : Pl) (hI : Is w' p' (andG (andG G a b).1 c d).1) => or_any hI g2.wf (by omega) (g2.le.there g1.there) g2.there)
  unfold eitherG
  clear hG hW ha hb hc hd g1 l1 g2 l2
  generalize andG G a b = r at *
  generalize andG r.1 c d = s at *
  generalize orG s.1 r.2 s.2 = t at *
  go_enter Tryz.func115, Tryz.ntmps115
  go_wp2_with (first
    | (go_at_call 104; (with_reducible refine h1.out.mono ?_); rintro e w2 ⟨rfl, p2, hS2⟩; have hS2 := Lib.hid hS2; have eb2 := hS2.out.b; have k2 := Lib.hid (h2.out w2 p2 hS2.out.is); rw [eb2] at k2)
    | (go_at_call 104; refine k2.out.mono ?_; rintro e w3 ⟨rfl, p3, hS3⟩; have hS3 := Lib.hid hS3; have eb3 := hS3.out.b; have k3 := Lib.hid (h3.out w3 p3 hS3.out.is); rw [eb3, eb2] at k3)
    | (go_at_call 121; refine k3.out.mono ?_; rintro e w4 ⟨rfl, p4, hS4⟩))
  go_ret2
  exact ⟨rfl, p4, (hS2.out.trans hS3.out).trans hS4⟩

theorem xor_any {w : World} {p : Pl} {G : Gr} (hG : Is w p G) (hW : Wf G) (hm : G.nodes.length ≤ 199000) {a b : Int} (ha : There G a) (hb : There G b) :
    Calls Tryz.prog 105 #[.pointer (some ⟨p.b, 0, none⟩), .int .u32 a, .int .u32 b] w fun e w' => e = .returned (.tuple #[.int .u32 (xorG G a b).2, .int .i64 0]) ∧ ∃ p', Step p w p' w' (xorG G a b).1 := by
  have hna := Lib.hid (fun w => not_any a ha.1 w)
  have hnb := Lib.hid (fun w => not_any b hb.1 w)
  have he := Lib.hid (either_any hG hW hm ha hb.not ha.not hb)
  unfold xorG
  generalize eitherG G a (notV b) (notV a) b = r at *
  clear hG hW ha hb
  go_enter Tryz.func105, Tryz.ntmps105
  go_wp2_with (first
    | (go_at_call 27; (with_reducible refine (hna.out _).mono ?_); rintro e w2 ⟨rfl, rfl⟩)
    | (go_at_call 27; (with_reducible refine (hnb.out _).mono ?_); rintro e w2 ⟨rfl, rfl⟩)
    | (go_at_call 115; refine he.out.mono ?_; rintro e w2 ⟨rfl, p', hS⟩))
  go_ret2
  exact ⟨rfl, p', hS⟩
end Go.Proofs.YtafoohdndlhbnaaGreat
end

section
namespace Go.Proofs.YtafoohdndlhbnaaGreat
open Go.RowKit Go.Maps
set_option maxRecDepth 100000

/-- Literals that are all there. -/
def AllThere (G : Gr) (l : List Int) : Prop := ∀ x ∈ l, There G x
theorem AllThere.at {G : Gr} {l : List Int} (h : AllThere G l) {i : Nat} (hi : i < l.length) : There G (l.getD i 0) := h _ (by simp [List.getD, hi])
theorem AllThere.mono {G G' : Gr} {l : List Int} (h : AllThere G l) (k : Le G G') : AllThere G' l := fun x hx => k.there (h x hx)

theorem check_any {w : World} {p : Pl} {G : Gr} (hG : Is w p G) (hW : Wf G) (hm : G.nodes.length ≤ 200000) {a : Option Addr} {n cap : Nat} {l : List Int} (hs : Row .u32 w a n l) (hl : AllThere G l) :
    Calls Tryz.prog 111 #[.pointer (some ⟨p.b, 0, none⟩), .slice a n cap] w fun e w' => e = .returned (.int .i64 0) ∧ Below w.heap.size w w' := by
  have hst := Lib.hid (stands_any hG.lay hW.pos)
  obtain ⟨-, -, c2, -, -, -⟩ := hG.lay.cells
  have hlt := hG.lay.lt
  have HS := Lib.hid hs
  have hn := hs.le
  have HT := Lib.hid (fun i (hi : i < n) => hl.at (i := i) (by rw [hs.len]; exact hi))
  have h0 := hW.pos
  unfold There at HT
  generalize G.nodes.length = k at *
  clear hG hW hs hl
  go_enter Tryz.func111, Tryz.ntmps111
  go_wp2_with (go_at_call 60; refine hst.out.mono ?_; rintro e w2 ⟨rfl, rfl⟩)
  go_loopw [12] (fun i wr => ∃ j : Nat, j ≤ n ∧ i = .int .i64 j ∧ Below w.heap.size w wr) (fun i _ => n - (intOf i).toNat)
  case atStart => exact ⟨0, Nat.zero_le _, rfl, Below.refl _ _⟩
  case round =>
    obtain ⟨j, hj, rfl, hB⟩ := hrel
    by_cases hjn : j < n
    · obtain ⟨b, off, rfl, hb, hc⟩ := HS.out.at (by omega)
      have hcj := (hB.cell (p := ⟨b, off + j, none⟩) hb).trans (hc j hjn)
      obtain ⟨⟨t0, t1⟩, t2⟩ := HT.out j hjn
      have d2 := stepc hB hlt c2
      generalize l.getD j 0 = x at *
      have hnode := Lib.hid (fun w => node_any x ⟨t0, t1⟩ w)
      have g0 : decide ((k : Int) ≤ x / 2) = false := by simp; omega
      clear hc
      go_wp2
      go_quiet (first | (go_at_call 59; exact Calls.quiet_of_same ((hnode.out _).mono (fun _ _ h => ⟨h.1, h.2.symm⟩))))
      go_wp2
      go_roundw
      case rel => exact ⟨j + 1, by omega, by go_num, nextw hB (below_draws wr nq)⟩
      case measure => simp [intOf]; omega
    · obtain rfl : j = n := by omega
      go_wp2
      go_ret
      exact ⟨rfl, hB⟩
end Go.Proofs.YtafoohdndlhbnaaGreat
end

section
namespace Go.Proofs.YtafoohdndlhbnaaGreat
open Go.RowKit Num

structure Bus where
  name : ByteArray
  lits : List Int
structure Rg where
  q : Int
  d : Int
  en : Int
  init : Bool
structure Nt where
  g : Gr
  name : ByteArray
  ins : List Bus
  regs : List Rg
  outs : List Bus

def spellB (b : Int) : Bool := ((((((decide (97 ≤ b) && decide (b ≤ 122)) || (decide (65 ≤ b) && decide (b ≤ 90))) || (decide (48 ≤ b) && decide (b ≤ 57))) || (b == 95)) || (b == 64)) || (b == 63))
def mayName (s : ByteArray) : Bool := decide (1 ≤ s.size) && (decide (s.size ≤ 80) && s.data.toList.all (fun b => spellB b.toNat))
def wide (n : Int) : Bool := decide (1 ≤ n) && decide (n ≤ 64)
def sameN (s t : ByteArray) : Bool := s.toList == t.toList
theorem sameN_refl (s : ByteArray) : sameN s s = true := by simp [sameN]
theorem sameN_comm (s t : ByteArray) : sameN s t = sameN t s := by
  unfold sameN
  rw [Bool.eq_iff_iff, beq_iff_eq, beq_iff_eq]
  exact eq_comm
theorem sameN_trans {s t u : ByteArray} (h : sameN s t = true) (k : sameN t u = true) : sameN s u = true := by
  simp [sameN] at *; rw [h, k]

/-- Where a row has a first one of the kind; below 0, if none. -/
def firstV : Option Nat → Int
  | some i => i
  | none => -1
def atB (L : List Bus) (s : ByteArray) : Option Nat := L.findIdx? (fun b => sameN b.name s)
def regAt (R : List Rg) (q : Int) : Option Nat := R.findIdx? (fun r => r.q == q)
def hasB (G : Gr) (l : Int) : Bool := decide (l / 2 < G.nodes.length)
def allHas (G : Gr) (l : List Int) : Bool := l.all (hasB G)

def inputsN (G : Gr) : Nat → Gr
  | 0 => G
  | k + 1 => inputG (inputsN G k)
/-- The literals of k inputs that come next. -/
def newL (G : Gr) (k : Nat) : List Int := (List.range k).map (fun (i : Nat) => 2 * ((G.nodes.length + i : Nat) : Int))

theorem inputsN_len (G : Gr) (k : Nat) : (inputsN G k).nodes.length = G.nodes.length + k := by
  induction k with
  | zero => rfl
  | succ k ih => show (inputG (inputsN G k)).nodes.length = _; rw [inputG_len, ih]; omega
theorem inputsN_wf {G : Gr} (h : Wf G) (k : Nat) : Wf (inputsN G k) := by
  induction k with
  | zero => exact h
  | succ k ih => exact Wf_inputG ih
theorem inputsN_le (G : Gr) (k : Nat) : Le G (inputsN G k) := by
  induction k with
  | zero => exact Le.refl _
  | succ k ih => exact ih.trans (inputG_le _)
theorem inputsN_succ (G : Gr) (k : Nat) : inputsN G (k + 1) = inputG (inputsN G k) := rfl
theorem newL_len (G : Gr) (k : Nat) : (newL G k).length = k := by simp [newL]
theorem newL_succ (G : Gr) (k : Nat) : newL G (k + 1) = newL G k ++ [2 * ((G.nodes.length + k : Nat) : Int)] := by simp [newL, List.range_succ]

/-- What comes in. -/
def inLits (G : Gr) : List Int := G.inputs.map (fun i => 2 * i)
theorem inLits_inputG (G : Gr) : inLits (inputG G) = inLits G ++ [2 * (G.nodes.length : Int)] := by simp [inLits, inputG]
theorem inLits_inputsN (G : Gr) (k : Nat) : inLits (inputsN G k) = inLits G ++ newL G k := by
  induction k with
  | zero => simp [inputsN, newL]
  | succ k ih => rw [inputsN_succ, inLits_inputG, ih, newL_succ, inputsN_len, List.append_assoc]

def litsOf (L : List Bus) : List Int := L.flatMap (fun b => b.lits)
def takenN (N : Nt) : List Int := litsOf N.ins ++ N.regs.map (fun r => r.q)

def addIn (N : Nt) (s : ByteArray) (k : Int) : Nt × List Int × Int :=
  if (mayName s && wide k) = true then
    if (atB N.ins s).isSome = true then (N, [], 9)
    else ({ N with g := inputsN N.g k.toNat, ins := N.ins ++ [⟨s, newL N.g k.toNat⟩] }, newL N.g k.toNat, 0)
  else (N, [], 1)
def addReg (N : Nt) (i : Bool) : Nt × Int := ({ N with g := inputG N.g, regs := N.regs ++ [⟨2 * (N.g.nodes.length : Int), 0, 0, i⟩] }, 2 * (N.g.nodes.length : Int))
def setRg (d en : Int) (r : Rg) : Rg := { r with d := d, en := en }
def setReg (N : Nt) (q d en : Int) : Nt × Int :=
  match regAt N.regs q with
  | none => (N, 1)
  | some i => if allHas N.g [d, en] = true then ({ N with regs := N.regs.modify i (setRg d en) }, 0) else (N, 1)
def addOut (N : Nt) (s : ByteArray) (l : List Int) : Nt × Int :=
  if (mayName s && (wide l.length && allHas N.g l)) = true then
    if (atB N.outs s).isSome = true then (N, 9) else ({ N with outs := N.outs ++ [⟨s, l⟩] }, 0)
  else (N, 1)
def gateN (T : Gr → Int → Int → Gr × Int) (N : Nt) (b c : Int) : Nt × Int × Int :=
  if allHas N.g [b, c] = true then ({ N with g := (T N.g b c).1 }, (T N.g b c).2, 0) else (N, 0, 1)

def NamesApart (L : List Bus) : Prop := L.Pairwise (fun a b => sameN a.name b.name = false)
structure BusesOk (L : List Bus) : Prop where
  name : ∀ b ∈ L, mayName b.name = true
  wide : ∀ b ∈ L, 1 ≤ b.lits.length ∧ b.lits.length ≤ 64
  apart : NamesApart L
/-- Well formed, but for inputs that nothing drives. -/
structure Good (N : Nt) (rest : List Int) : Prop where
  wf : Wf N.g
  name : mayName N.name = true
  ins : BusesOk N.ins
  outs : BusesOk N.outs
  outT : ∀ b ∈ N.outs, ∀ x ∈ b.lits, There N.g x
  regT : ∀ r ∈ N.regs, There N.g r.d ∧ There N.g r.en
  drv : (takenN N ++ rest).Perm (inLits N.g)

theorem atB_none {L : List Bus} {s : ByteArray} (h : (atB L s).isSome ≠ true) : ∀ b ∈ L, sameN b.name s = false := by
  unfold atB at h
  intro b hb
  have : L.findIdx? (fun b => sameN b.name s) = none := by
    cases e : L.findIdx? (fun b => sameN b.name s) with
    | none => rfl
    | some i => rw [e] at h; simp at h
  rw [List.findIdx?_eq_none_iff] at this
  simpa using this b hb
theorem BusesOk.push {L : List Bus} (h : BusesOk L) {s : ByteArray} {l : List Int} (hs : mayName s = true) (hl : 1 ≤ l.length ∧ l.length ≤ 64) (ha : (atB L s).isSome ≠ true) : BusesOk (L ++ [⟨s, l⟩]) := by
  refine ⟨?_, ?_, ?_⟩
  · intro b hb; rcases List.mem_append.1 hb with h1 | h1
    · exact h.name b h1
    · simp at h1; subst h1; exact hs
  · intro b hb; rcases List.mem_append.1 hb with h1 | h1
    · exact h.wide b h1
    · simp at h1; subst h1; exact hl
  · unfold NamesApart
    rw [List.pairwise_append]
    refine ⟨h.apart, by simp, fun a ha' b hb => ?_⟩
    simp at hb; subst hb
    exact atB_none ha a ha'
theorem wide_iff {k : Int} : wide k = true ↔ 1 ≤ k ∧ k ≤ 64 := by simp [wide]
theorem hasB_there {G : Gr} {x : Int} (hx : IsLit x) : hasB G x = true ↔ There G x := by
  unfold hasB There
  simp [hx]
theorem allHas_there {G : Gr} {l : List Int} (hl : ∀ x ∈ l, IsLit x) (h : allHas G l = true) : AllThere G l := by
  intro x hx
  unfold allHas at h
  exact (hasB_there (hl x hx)).1 (List.all_eq_true.1 h x hx)

theorem Good.new (F H : Bool) {s : ByteArray} (hs : mayName s = true) : Good ⟨newG F H, s, [], [], []⟩ [] :=
  ⟨Wf_new F H, hs, ⟨by simp, by simp, List.Pairwise.nil⟩, ⟨by simp, by simp, List.Pairwise.nil⟩, by simp, by simp, by simp [takenN, litsOf, inLits, newG]⟩
theorem litsOf_push (L : List Bus) (b : Bus) : litsOf (L ++ [b]) = litsOf L ++ b.lits := by simp [litsOf]
theorem Good.addIn {N : Nt} {rest : List Int} (h : Good N rest) (s : ByteArray) (k : Int) : Good (addIn N s k).1 rest := by
  unfold YtafoohdndlhbnaaGreat.addIn
  split
  · rename_i hc
    simp only [Bool.and_eq_true] at hc
    split
    · exact h
    · rename_i ha
      have hk := wide_iff.1 hc.2
      have hL := inputsN_le N.g k.toNat
      refine ⟨inputsN_wf h.wf _, h.name, h.ins.push hc.1 (by rw [newL_len]; omega) ha, h.outs, fun b hb x hx => hL.there (h.outT b hb x hx), fun r hr => ⟨hL.there (h.regT r hr).1, hL.there (h.regT r hr).2⟩, ?_⟩
      show (litsOf (N.ins ++ [⟨s, newL N.g k.toNat⟩]) ++ N.regs.map (fun r => r.q) ++ rest).Perm (inLits (inputsN N.g k.toNat))
      rw [litsOf_push, inLits_inputsN]
      have hd := h.drv
      unfold takenN at hd
      refine List.Perm.trans ?_ (List.Perm.append_right _ hd)
      simp only [List.append_assoc]
      refine List.Perm.append_left _ ?_
      have h1 : (newL N.g k.toNat ++ (List.map (fun r => r.q) N.regs ++ rest)).Perm ((List.map (fun r => r.q) N.regs ++ rest) ++ newL N.g k.toNat) := List.perm_append_comm
      simpa [List.append_assoc] using h1
  · exact h
theorem Good.addReg {N : Nt} {rest : List Int} (h : Good N rest) (i : Bool) : Good (addReg N i).1 rest := by
  have hL := inputG_le N.g
  have hp := h.wf.pos
  have h0 : There (inputG N.g) 0 := ⟨by unfold IsLit; omega, by rw [inputG_len]; omega⟩
  refine ⟨Wf_inputG h.wf, h.name, h.ins, h.outs, fun b hb x hx => hL.there (h.outT b hb x hx), fun r hr => ?_, ?_⟩
  · rcases List.mem_append.1 hr with h1 | h1
    · exact ⟨hL.there (h.regT r h1).1, hL.there (h.regT r h1).2⟩
    · simp at h1; subst h1; exact ⟨h0, h0⟩
  · show (litsOf N.ins ++ (N.regs ++ [_]).map (fun (r : Rg) => r.q) ++ rest).Perm (inLits (inputG N.g))
    rw [inLits_inputG]
    have hd := h.drv
    unfold takenN at hd
    refine List.Perm.trans ?_ (List.Perm.append_right _ hd)
    simp only [List.map_append, List.append_assoc, List.map_cons, List.map_nil]
    refine List.Perm.append_left _ (List.Perm.append_left _ ?_)
    exact List.perm_append_comm
theorem modify_q (R : List Rg) (i : Nat) (d en : Int) : (R.modify i (setRg d en)).map (fun r => r.q) = R.map (fun r => r.q) := by
  apply List.ext_getElem
  · simp
  · intro k h1 h2
    simp [List.getElem_modify]
    split <;> rfl
theorem Good.setReg {N : Nt} {rest : List Int} (h : Good N rest) (q d en : Int) (hd : IsLit d) (he : IsLit en) : Good (setReg N q d en).1 rest := by
  unfold YtafoohdndlhbnaaGreat.setReg
  split
  · exact h
  · rename_i i hi
    split
    · rename_i hc
      have ht := allHas_there (l := [d, en]) (by intro x hx; simp at hx; rcases hx with rfl | rfl <;> assumption) hc
      refine ⟨h.wf, h.name, h.ins, h.outs, h.outT, fun r hr => ?_, ?_⟩
      · obtain ⟨k, hk, rfl⟩ := List.getElem_of_mem hr
        simp [List.getElem_modify]
        split
        · exact ⟨ht d (by simp), ht en (by simp)⟩
        · exact h.regT _ (List.getElem_mem _)
      · show (litsOf N.ins ++ (N.regs.modify i (setRg d en)).map (fun r => r.q) ++ rest).Perm (inLits N.g)
        rw [modify_q]
        exact h.drv
    · exact h
theorem Good.addOut {N : Nt} {rest : List Int} (h : Good N rest) (s : ByteArray) (l : List Int) (hl : ∀ x ∈ l, IsLit x) : Good (addOut N s l).1 rest := by
  unfold YtafoohdndlhbnaaGreat.addOut
  split
  · rename_i hc
    simp only [Bool.and_eq_true] at hc
    split
    · exact h
    · rename_i ha
      have hk := wide_iff.1 hc.2.1
      have ht := allHas_there hl hc.2.2
      refine ⟨h.wf, h.name, h.ins, h.outs.push hc.1 (by omega) ha, fun b hb x hx => ?_, h.regT, h.drv⟩
      rcases List.mem_append.1 hb with h1 | h1
      · exact h.outT b h1 x hx
      · simp at h1; subst h1; exact ht x hx
  · exact h
theorem Good.grow {N : Nt} {rest : List Int} (h : Good N rest) {G' : Gr} {l : Int} {k : Nat} (g : Grows N.g G' l k) : Good { N with g := G' } rest :=
  ⟨g.wf, h.name, h.ins, h.outs, fun b hb x hx => g.le.there (h.outT b hb x hx), fun r hr => ⟨g.le.there (h.regT r hr).1, g.le.there (h.regT r hr).2⟩, by
    show (takenN N ++ rest).Perm (inLits G')
    have := h.drv
    unfold inLits at this ⊢
    rw [g.ins]; exact this⟩
theorem Good.input {N : Nt} {rest : List Int} (h : Good N rest) : Good { N with g := inputG N.g } (rest ++ [2 * (N.g.nodes.length : Int)]) := by
  have hL := inputG_le N.g
  refine ⟨Wf_inputG h.wf, h.name, h.ins, h.outs, fun b hb x hx => hL.there (h.outT b hb x hx), fun r hr => ⟨hL.there (h.regT r hr).1, hL.there (h.regT r hr).2⟩, ?_⟩
  show (takenN N ++ (rest ++ _)).Perm (inLits (inputG N.g))
  rw [inLits_inputG, ← List.append_assoc]
  exact List.Perm.append_right _ h.drv

/-! ### what is not taken yet -/
theorem inLits_nodup {G : Gr} (h : Wf G) : (inLits G).Nodup := by
  unfold inLits List.Nodup
  rw [List.pairwise_map, List.pairwise_iff_getElem]
  intro i j hi hj hij e
  have := h.rise i j _ _ hij (List.getElem?_eq_getElem hi) (List.getElem?_eq_getElem hj)
  omega
theorem inLits_mem {G : Gr} (h : Wf G) {x : Int} (hx : x ∈ inLits G) : ∃ i : Nat, x = 2 * (i : Int) ∧ 0 < i ∧ i < G.nodes.length ∧ (i : Int) ∈ G.inputs := by
  unfold inLits at hx
  obtain ⟨v, hv, rfl⟩ := List.mem_map.1 hx
  obtain ⟨k, hk, rfl⟩ := List.getElem_of_mem hv
  obtain ⟨i, e, h0, n, hn, -⟩ := h.ins k _ (List.getElem?_eq_getElem hk)
  exact ⟨i, by simp only [e], h0, (List.getElem?_eq_some_iff.1 hn).1, by rw [← e]; exact List.getElem_mem _⟩
/-- What is still to be taken: each an input's literal, none twice. -/
structure Left (G : Gr) (l : List Int) : Prop where
  nodup : l.Nodup
  lit : ∀ x ∈ l, ∃ i : Nat, x = 2 * (i : Int) ∧ 0 < i ∧ i < G.nodes.length
theorem Good.left {N : Nt} {rest : List Int} (h : Good N rest) : Left N.g (takenN N ++ rest) :=
  ⟨h.drv.nodup_iff.2 (inLits_nodup h.wf), fun x hx => by obtain ⟨i, e, h0, h1, -⟩ := inLits_mem h.wf (h.drv.mem_iff.1 hx); exact ⟨i, e, h0, h1⟩⟩
theorem Left.tail {G : Gr} {x : Int} {l : List Int} (h : Left G (x :: l)) : Left G l := ⟨(List.nodup_cons.1 h.nodup).2, fun y hy => h.lit y (by simp [hy])⟩
theorem Left.suffix {G : Gr} {k l : List Int} (h : Left G (k ++ l)) : Left G l := ⟨(List.nodup_append.1 h.nodup).2.1, fun y hy => h.lit y (by simp [hy])⟩

/-- Which nodes are free. -/
def freeB (l : List Int) (k : Nat) : Bool := l.contains (2 * (k : Int))
def freeL (n : Nat) (l : List Int) : List Value := (List.range n).map (fun k => Value.bool (freeB l k))
theorem freeL_len (n : Nat) (l : List Int) : (freeL n l).length = n := by simp [freeL]
theorem freeL_at (n : Nat) (l : List Int) {k : Nat} (h : k < n) : (freeL n l)[k]? = some (.bool (freeB l k)) := by simp [freeL, h]
theorem freeL_take {G : Gr} {k : Nat} {l : List Int} (h : Left G (2 * (k : Int) :: l)) (n : Nat) : (freeL n (2 * (k : Int) :: l)).set k (.bool false) = freeL n l := by
  have hn := (List.nodup_cons.1 h.nodup).1
  apply List.ext_getElem
  · simp [freeL]
  · intro i h1 h2
    simp [freeL, List.getElem_set] at *
    by_cases e : k = i
    · subst e; simp [freeB, hn]
    · have : ¬ ((i : Int) = k) := by omega
      have e2 : ¬ (2 * (i : Int) = 2 * (k : Int)) := by omega
      simp [e, freeB, e2]
theorem freeB_head (k : Nat) (l : List Int) : freeB (2 * (k : Int) :: l) k = true := by simp [freeB]
/-- The nodes of the first j of a row. -/
def marked (I : List Int) (j : Nat) : List Int := (I.take j).map (fun i => 2 * i)
theorem freeL_none (n : Nat) : freeL n [] = List.replicate n (.bool false) := by
  apply List.ext_getElem
  · simp [freeL]
  · intro i h1 h2; simp [freeL, freeB]
theorem freeL_mark (n : Nat) (I : List Int) {j i : Nat} (hj : I[j]? = some (i : Int)) : (freeL n (marked I j)).set i (.bool true) = freeL n (marked I (j + 1)) := by
  apply List.ext_getElem
  · simp [freeL]
  · intro k h1 h2
    have e : marked I (j + 1) = marked I j ++ [2 * (i : Int)] := by
      unfold marked; rw [List.take_add_one, hj]; simp
    simp [freeL, List.getElem_set, e] at *
    by_cases hk : i = k
    · subst hk; simp [freeB]
    · have e2 : ¬ ((k : Int) = i) := by omega
      have e3 : ¬ (2 * (k : Int) = 2 * (i : Int)) := by omega
      simp [hk, freeB, e3]
theorem freeL_perm (n : Nat) {l m : List Int} (h : l.Perm m) : freeL n l = freeL n m := by
  unfold freeL freeB
  apply List.map_congr_left
  intro k _
  have : l.contains (2 * (k : Int)) = m.contains (2 * (k : Int)) := by
    rw [Bool.eq_iff_iff]; simp [h.mem_iff]
  rw [this]
/-- Of moderate size. -/
structure Small (N : Nt) : Prop where
  g : N.g.nodes.length ≤ 180000
  ins : N.ins.length ≤ 9000
  regs : N.regs.length ≤ 9000
  outs : N.outs.length ≤ 9000
end Go.Proofs.YtafoohdndlhbnaaGreat
end

section
namespace Go.Proofs.YtafoohdndlhbnaaGreat
open Go.RowKit Num

def in1 (G : Gr) (ins : List Int) : Nat → List Int
  | 0 => List.replicate G.nodes.length 0
  | j + 1 => (in1 G ins j).set (G.inputs.getD j 0).toNat (ins.getD j 0)
def nodeAt (G : Gr) (i : Nat) : Nd := G.nodes.getD i ⟨false, 0, 0⟩
def gateW (G : Gr) (i : Nat) (ws : List Int) : Int := bits .and .u64 (wordV (nodeAt G i).a ws) (wordV (nodeAt G i).b ws)
def ev (G : Gr) (W : List Int) : Nat → List Int
  | 0 => W
  | i + 1 => if (nodeAt G i).gate then (ev G W i).set i (gateW G i (ev G W i)) else ev G W i

theorem in1_len (G : Gr) (ins : List Int) (j : Nat) : (in1 G ins j).length = G.nodes.length := by
  induction j with
  | zero => simp [in1]
  | succ j ih => simp [in1, ih]
theorem ev_len (G : Gr) (W : List Int) (i : Nat) : (ev G W i).length = W.length := by
  induction i with
  | zero => rfl
  | succ i ih => unfold ev; split <;> simp [ih]
theorem words_set {ws : List Int} (h : Words ws) (i : Nat) {x : Int} (hx : 0 ≤ x ∧ x < 18446744073709551616) : Words (ws.set i x) := by
  intro j
  simp only [List.getD, List.getElem?_set]
  by_cases e : i = j
  · subst e
    by_cases hl : i < ws.length
    · simp [hl]; omega
    · simp [hl]
  · simp [e]; exact h j
theorem words_zero (n : Nat) : Words (List.replicate n 0) := by
  intro i
  simp [List.getD, List.getElem?_replicate]
  split <;> simp
theorem in1_words (G : Gr) {ins : List Int} (h : Words ins) (j : Nat) : Words (in1 G ins j) := by
  induction j with
  | zero => exact words_zero _
  | succ j ih => exact words_set ih _ (h j)
theorem gateW_bd (G : Gr) (i : Nat) {ws : List Int} (h : Words ws) : 0 ≤ gateW G i ws ∧ gateW G i ws < 18446744073709551616 := by
  have a := wordV_bd h (nodeAt G i).a
  have b := wordV_bd h (nodeAt G i).b
  exact and_bd a.1 a.2 b.1 b.2
theorem ev_words (G : Gr) {W : List Int} (h : Words W) (i : Nat) : Words (ev G W i) := by
  induction i with
  | zero => exact h
  | succ i ih =>
    unfold ev; split
    · exact words_set ih _ (gateW_bd G i ih)
    · exact ih
theorem getD_set {ws : List Int} (i j : Nat) (x : Int) (hi : i < ws.length) : (ws.set i x).getD j 0 = if i = j then x else ws.getD j 0 := by
  simp only [List.getD, List.getElem?_set]
  by_cases e : i = j
  · subst e; simp [hi]
  · simp [e]
/-- What is laid in. -/
theorem in1_at {G : Gr} (hW : Wf G) (ins : List Int) : ∀ j, j ≤ G.inputs.length → (∀ (k i : Nat), k < j → G.inputs[k]? = some (i : Int) → (in1 G ins j).getD i 0 = ins.getD k 0) ∧ (in1 G ins j).getD 0 0 = 0 := by
  intro j
  induction j with
  | zero =>
    intro _
    refine ⟨fun k i h => by omega, ?_⟩
    have := words_zero G.nodes.length
    simp [in1, List.getD, List.getElem?_replicate]
    split <;> simp
  | succ j ih =>
    intro hj
    obtain ⟨h1, h2⟩ := ih (by omega)
    have hg : G.inputs[j]? = some (G.inputs.getD j 0) := by simp [List.getD, show j < G.inputs.length by omega]
    obtain ⟨m, em, m0, n, hn, -⟩ := hW.ins j _ hg
    have hm := (List.getElem?_eq_some_iff.1 hn).1
    have hml : m < (in1 G ins j).length := by rw [in1_len]; exact hm
    rw [show in1 G ins (j + 1) = (in1 G ins j).set (G.inputs.getD j 0).toNat (ins.getD j 0) from rfl, em, Int.toNat_natCast]
    refine ⟨fun k i hk hki => ?_, ?_⟩
    · rw [getD_set _ _ _ hml]
      by_cases e : k = j
      · subst e
        rw [hg] at hki
        have : m = i := by have := Option.some.inj hki; omega
        rw [if_pos this]
      · have hlt : k < j := by omega
        have := hW.rise k j _ _ hlt hki hg
        rw [if_neg (by omega)]
        exact h1 k i hlt hki
    · rw [getD_set _ _ _ hml, if_neg (by omega)]; exact h2
/-- What is past stays. -/
theorem ev_past (G : Gr) (W : List Int) (hl : W.length = G.nodes.length) (k : Nat) : ∀ d i, k < i → (ev G W (i + d)).getD k 0 = (ev G W i).getD k 0 := by
  intro d
  induction d with
  | zero => intro i _; rfl
  | succ d ih =>
    intro i hk
    rw [← ih i hk, show i + (d + 1) = (i + d) + 1 from rfl]
    show (if (nodeAt G (i + d)).gate then (ev G W (i + d)).set (i + d) (gateW G (i + d) (ev G W (i + d))) else ev G W (i + d)).getD k 0 = _
    split
    · by_cases hlt : i + d < (ev G W (i + d)).length
      · rw [getD_set _ _ _ hlt, if_neg (by omega)]
      · rw [List.set_eq_of_length_le (by omega)]
    · rfl
theorem ev_plain (G : Gr) (W : List Int) (k : Nat) (hk : (nodeAt G k).gate = false) : ∀ i, (ev G W i).getD k 0 = W.getD k 0 := by
  intro i
  induction i with
  | zero => rfl
  | succ i ih =>
    unfold ev
    split
    · rename_i hg
      by_cases hlt : i < (ev G W i).length
      · rw [getD_set _ _ _ hlt, if_neg (fun e => by subst e; rw [hk] at hg; cases hg)]; exact ih
      · rw [List.set_eq_of_length_le (by omega)]; exact ih
    · exact ih
theorem wordV_congr {l : Int} {ws ws' : List Int} (hl : ws.length = ws'.length) (h0 : 0 ≤ l) (h : ws.getD (l / 2).toNat 0 = ws'.getD (l / 2).toNat 0) : wordV l ws = wordV l ws' := by
  have e : nodeW (l / 2) ws = nodeW (l / 2) ws' := by
    unfold nodeW; rw [hl, h]
  unfold wordV; rw [e]
/-- Eval says the graph's words. -/
theorem ev_val {G : Gr} (hW : Wf G) {ins : List Int} (hI : Words ins) : Val G ins (ev G (in1 G ins G.inputs.length) G.nodes.length) := by
  have hl := in1_len G ins G.inputs.length
  have hin := in1_at hW ins _ (Nat.le_refl _)
  have hat : ∀ i n, G.nodes[i]? = some n → nodeAt G i = n := fun i n h => by simp [nodeAt, List.getD, h]
  refine ⟨ev_words G (in1_words G hI _) _, by rw [ev_len, hl]; exact Nat.le_refl _, ?_, ?_, ?_⟩
  · rw [ev_plain G _ 0 (by rw [hat 0 _ hW.zero]) _]; exact hin.2
  · intro i n hn hg
    have hi := (List.getElem?_eq_some_iff.1 hn).1
    obtain ⟨la, lb, hba, hai⟩ := hW.gates i n hn hg
    have e1 : (ev G (in1 G ins G.inputs.length) G.nodes.length).getD i 0 = (ev G (in1 G ins G.inputs.length) (i + 1)).getD i 0 := by
      have := ev_past G _ hl i (G.nodes.length - (i + 1)) (i + 1) (by omega)
      rw [show i + 1 + (G.nodes.length - (i + 1)) = G.nodes.length by omega] at this
      exact this
    have e2 : ∀ k, k < i → (ev G (in1 G ins G.inputs.length) G.nodes.length).getD k 0 = (ev G (in1 G ins G.inputs.length) i).getD k 0 := fun k hk => by
      have := ev_past G _ hl k (G.nodes.length - i) i hk
      rw [show i + (G.nodes.length - i) = G.nodes.length by omega] at this
      exact this
    have e3 : (ev G (in1 G ins G.inputs.length) (i + 1)).getD i 0 = gateW G i (ev G (in1 G ins G.inputs.length) i) := by
      show (if (nodeAt G i).gate then (ev G _ i).set i (gateW G i (ev G _ i)) else ev G _ i).getD i 0 = _
      rw [hat i n hn, if_pos hg, getD_set _ _ _ (by rw [ev_len, hl]; exact hi), if_pos rfl]
    have ll : ∀ m, (ev G (in1 G ins G.inputs.length) i).length = (ev G (in1 G ins G.inputs.length) m).length := fun m => by rw [ev_len, ev_len]
    unfold IsLit at la lb
    rw [e1, e3]
    unfold gateW
    rw [hat i n hn, wordV_congr (ll _) la.1 (e2 _ (by omega)).symm, wordV_congr (ll _) lb.1 (e2 _ (by omega)).symm]
  · intro k i hk
    have hk2 := (List.getElem?_eq_some_iff.1 hk).1
    obtain ⟨m, em, m0, n, hn, hg⟩ := hW.ins k _ hk
    have : m = i := by omega
    subst this
    rw [ev_plain G _ m (by rw [hat m n hn]; exact hg) _]
    exact hin.1 k m hk2 hk
end Go.Proofs.YtafoohdndlhbnaaGreat
end

section
namespace Go.Proofs.YtafoohdndlhbnaaGreat
open Go.RowKit Num

def iniW (r : Rg) : Int := if r.init then 18446744073709551615 else 0
def iniR (R : List Rg) : List Int := R.map iniW
/-- Words laid in, literal by literal. -/
def laid (n : Nat) (T V : List Int) : Nat → List Int
  | 0 => List.replicate n 0
  | k + 1 => (laid n T V k).set (T.getD k 0 / 2).toNat (V.getD k 0)
/-- What the graph's inputs have. -/
def insW (N : Nt) (V : List Int) : List Int := N.g.inputs.map (fun nd => (laid N.g.nodes.length (takenN N) V (takenN N).length).getD nd.toNat 0)
def nxW (ws : List Int) (r : Rg) : Int := bits .or .u64 (bits .and .u64 (wordV r.d ws) (wordV r.en ws)) (bits .andNot .u64 (wordV r.q ws) (wordV r.en ws))
def nxR (N : Nt) (ws : List Int) : List Int := N.regs.map (nxW ws)
def outW (b : Bus) (ws : List Int) : List Int := b.lits.map (fun l => wordV l ws)

theorem laid_len (n : Nat) (T V : List Int) (k : Nat) : (laid n T V k).length = n := by
  induction k with
  | zero => simp [laid]
  | succ k ih => simp [laid, ih]
theorem laid_words (n : Nat) (T : List Int) {V : List Int} (h : Words V) (k : Nat) : Words (laid n T V k) := by
  induction k with
  | zero => exact words_zero _
  | succ k ih => exact words_set ih _ (h k)
theorem taken_len (N : Nt) : (takenN N).length = (litsOf N.ins).length + N.regs.length := by simp [takenN]
theorem taken_at {N : Nt} {rest : List Int} (hg : Good N rest) {k : Nat} (hk : k < (takenN N).length) : ∃ (i j : Nat), (takenN N).getD k 0 = 2 * (i : Int) ∧ 0 < i ∧ i < N.g.nodes.length ∧ N.g.inputs[j]? = some (i : Int) := by
  have hm : (takenN N)[k] ∈ inLits N.g := hg.drv.mem_iff.1 (List.mem_append.2 (.inl (List.getElem_mem hk)))
  obtain ⟨i, e, h0, h1, h2⟩ := inLits_mem hg.wf hm
  obtain ⟨j, hj, e2⟩ := List.getElem_of_mem h2
  exact ⟨i, j, by rw [List.getD_eq_getElem?_getD, List.getElem?_eq_getElem hk]; exact e, h0, h1, by rw [List.getElem?_eq_getElem hj, e2]⟩
theorem taken_of {N : Nt} (hg : Good N []) {i j : Nat} (hj : N.g.inputs[j]? = some (i : Int)) : ∃ k, k < (takenN N).length ∧ (takenN N).getD k 0 = 2 * (i : Int) := by
  have hm : 2 * (i : Int) ∈ inLits N.g := List.mem_map.2 ⟨i, List.mem_of_getElem? hj, rfl⟩
  have h2 := hg.drv.mem_iff.2 hm
  rw [List.append_nil] at h2
  obtain ⟨k, hk, e⟩ := List.getElem_of_mem h2
  exact ⟨k, hk, by rw [List.getD_eq_getElem?_getD, List.getElem?_eq_getElem hk]; exact e⟩
theorem taken_inj {N : Nt} {rest : List Int} (hg : Good N rest) {k m : Nat} (hk : k < (takenN N).length) (hm : m < (takenN N).length) (e : (takenN N).getD k 0 = (takenN N).getD m 0) : k = m := by
  have hn := hg.left.nodup
  have hn2 : (takenN N).Nodup := (List.nodup_append.1 hn).1
  rw [List.getD_eq_getElem?_getD, List.getD_eq_getElem?_getD, List.getElem?_eq_getElem hk, List.getElem?_eq_getElem hm] at e
  simp only [Option.getD_some] at e
  have hp := List.pairwise_iff_getElem.1 hn2
  rcases Nat.lt_trichotomy k m with h | h | h
  · exact absurd e (hp k m hk hm h)
  · exact h
  · exact absurd e.symm (hp m k hm hk h)
theorem laid_at {N : Nt} {rest : List Int} (hg : Good N rest) (V : List Int) : ∀ m, m ≤ (takenN N).length → ∀ k, k < m → (laid N.g.nodes.length (takenN N) V m).getD ((takenN N).getD k 0 / 2).toNat 0 = V.getD k 0 := by
  intro m
  induction m with
  | zero => intro _ k h; omega
  | succ m ih =>
    intro hm k hk
    obtain ⟨i, j, e, h0, h1, -⟩ := taken_at hg (show m < (takenN N).length by omega)
    obtain ⟨i2, j2, e2, h02, h12, -⟩ := taken_at hg (show k < (takenN N).length by omega)
    show ((laid N.g.nodes.length (takenN N) V m).set ((takenN N).getD m 0 / 2).toNat (V.getD m 0)).getD _ 0 = _
    rw [e, e2, show (2 * (i : Int) / 2).toNat = i by omega, show (2 * (i2 : Int) / 2).toNat = i2 by omega, getD_set _ _ _ (by rw [laid_len]; exact h1)]
    by_cases e3 : k = m
    · subst e3
      have : i = i2 := by omega
      rw [if_pos this]
    · rw [if_neg (fun h => e3 (taken_inj hg (by omega) (by omega) (by rw [e, e2, h])))]
      have := ih (by omega) k (by omega)
      rw [e2, show (2 * (i2 : Int) / 2).toNat = i2 by omega] at this
      exact this

/-- The words of a cycle in which what is taken has V. -/
structure Cyc (N : Nt) (V ws : List Int) : Prop where
  words : Words ws
  len : ws.length = N.g.nodes.length
  zero : ws.getD 0 0 = 0
  gate : ∀ (i : Nat) (n : Nd), N.g.nodes[i]? = some n → n.gate = true → ws.getD i 0 = bits .and .u64 (wordV n.a ws) (wordV n.b ws)
  tk : ∀ (k i : Nat), k < (takenN N).length → (takenN N).getD k 0 = 2 * (i : Int) → ws.getD i 0 = V.getD k 0
theorem insW_words {N : Nt} {V : List Int} (hV : Words V) : Words (insW N V) := by
  intro i
  unfold insW
  by_cases hi : i < N.g.inputs.length
  · simp only [List.getD, List.getElem?_map, List.getElem?_eq_getElem hi, Option.map_some, Option.getD_some]
    have := laid_words N.g.nodes.length (takenN N) hV (takenN N).length N.g.inputs[i].toNat
    simpa [List.getD] using this
  · simp only [List.getD, List.getElem?_map, List.getElem?_eq_none (show N.g.inputs.length ≤ i by omega), Option.map_none, Option.getD_none]
    omega
theorem cyc_of {N : Nt} (hg : Good N []) {V ws : List Int} (hl : ws.length = N.g.nodes.length) (v : Val N.g (insW N V) ws) : Cyc N V ws := by
  refine ⟨v.words, hl, v.zero, v.gate, fun k i hk e => ?_⟩
  obtain ⟨i2, j, e2, h0, h1, hj⟩ := taken_at hg hk
  obtain rfl : i = i2 := by omega
  rw [v.inp j i hj]
  have hat := laid_at hg V (takenN N).length (Nat.le_refl _) k hk
  rw [e, show (2 * (i : Int) / 2).toNat = i by omega] at hat
  unfold insW
  rw [List.getD_eq_getElem?_getD, List.getElem?_map, hj]
  simp only [Option.map_some, Option.getD_some, Int.toNat_natCast]
  exact hat

theorem nodeW_val (l : Int) (ws : List Int) (h0 : 0 ≤ l) (hz : ws.getD 0 0 = 0) (hl : l / 2 < ws.length) : nodeW (l / 2) ws = ws.getD (l / 2).toNat 0 := by
  unfold nodeW
  by_cases h : 0 < l / 2
  · simp [h, hl]
  · have e : l / 2 = 0 := by omega
    rw [e]; simp at hz ⊢; exact hz.symm
def Wd (x : Int) : Prop := 0 ≤ x ∧ x < 18446744073709551616
/-- What goes through the gates. -/
structure Thru (R : Int → Int → Prop) : Prop where
  zero : R 0 0
  neg : ∀ x y, Wd x → Wd y → R x y → R (18446744073709551615 - x) (18446744073709551615 - y)
  and : ∀ x y x' y', Wd x → Wd y → Wd x' → Wd y' → R x y → R x' y' → R (bits .and .u64 x x') (bits .and .u64 y y')
theorem Thru.word {R : Int → Int → Prop} (hR : Thru R) {l : Int} {ws ws' : List Int} (hw : Words ws) (hw' : Words ws') (h0 : 0 ≤ l) (hz : ws.getD 0 0 = 0) (hz' : ws'.getD 0 0 = 0) (hl : l / 2 < ws.length) (hl' : l / 2 < ws'.length) (h : R (ws.getD (l / 2).toNat 0) (ws'.getD (l / 2).toNat 0)) : R (wordV l ws) (wordV l ws') := by
  unfold wordV
  rw [nodeW_val l ws h0 hz hl, nodeW_val l ws' h0 hz' hl']
  split
  · exact hR.neg _ _ (hw _) (hw' _) h
  · exact h
theorem cyc_rel {R : Int → Int → Prop} (hR : Thru R) {N : Nt} (hg : Good N []) {V V' ws ws' : List Int} (c : Cyc N V ws) (c' : Cyc N V' ws') (hV : ∀ k, k < (takenN N).length → R (V.getD k 0) (V'.getD k 0)) :
    ∀ i, i < N.g.nodes.length → R (ws.getD i 0) (ws'.getD i 0) := by
  intro i
  induction i using Nat.strongRecOn with
  | _ i ih =>
    intro hi
    have hn : N.g.nodes[i]? = some N.g.nodes[i] := List.getElem?_eq_getElem hi
    by_cases hgt : (N.g.nodes[i]).gate = true
    · obtain ⟨la, lb, hba, hai⟩ := hg.wf.gates i _ hn hgt
      rw [c.gate i _ hn hgt, c'.gate i _ hn hgt]
      have ea : (N.g.nodes[i].a / 2).toNat < i := by have := la.1; omega
      have eb : (N.g.nodes[i].b / 2).toNat < i := by have := lb.1; omega
      have l1 := c.len
      have l2 := c'.len
      have := la.1
      have := lb.1
      exact hR.and _ _ _ _ (wordV_bd c.words _) (wordV_bd c'.words _) (wordV_bd c.words _) (wordV_bd c'.words _)
        (hR.word c.words c'.words la.1 c.zero c'.zero (by omega) (by omega) (ih _ ea (by omega))) (hR.word c.words c'.words lb.1 c.zero c'.zero (by omega) (by omega) (ih _ eb (by omega)))
    · by_cases h0 : i = 0
      · subst h0; rw [c.zero, c'.zero]; exact hR.zero
      · obtain ⟨j, hj⟩ := hg.wf.all i _ (by omega) hn (by simpa using hgt)
        obtain ⟨k, hk, e⟩ := taken_of hg hj
        rw [c.tk k i hk e, c'.tk k i hk e]
        exact hV k hk
theorem Thru.lit {R : Int → Int → Prop} (hR : Thru R) {N : Nt} (hg : Good N []) {V V' ws ws' : List Int} (c : Cyc N V ws) (c' : Cyc N V' ws') (hV : ∀ k, k < (takenN N).length → R (V.getD k 0) (V'.getD k 0)) {l : Int} (hl : There N.g l) : R (wordV l ws) (wordV l ws') := by
  have h0 := hl.1.1
  have h1 := hl.2
  exact hR.word c.words c'.words h0 c.zero c'.zero (by rw [c.len]; exact h1) (by rw [c'.len]; exact h1) (cyc_rel hR hg c c' hV _ (by omega))
theorem Thru.eq : Thru (fun x y => x = y) := ⟨rfl, fun x y _ _ h => by rw [h], fun x y x' y' _ _ _ _ h h' => by rw [h, h']⟩
theorem Cyc.unique {N : Nt} (hg : Good N []) {V ws ws' : List Int} (c : Cyc N V ws) (c' : Cyc N V ws') : ws = ws' := by
  have h := cyc_rel Thru.eq hg c c' (fun _ _ => rfl)
  apply List.ext_getElem
  · rw [c.len, c'.len]
  · intro i h1 h2
    have := h i (by rw [← c.len]; exact h1)
    simpa [List.getD, h1, h2] using this
theorem Cyc.node {N : Nt} {V ws : List Int} (c : Cyc N V ws) {i : Nat} (hi : i < N.g.nodes.length) : wordV (2 * (i : Int)) ws = ws.getD i 0 := by
  unfold wordV turnV
  rw [show (2 * (i : Int)) % 2 = 0 by omega]
  have := nodeW_val (2 * (i : Int)) ws (by omega) c.zero (by rw [c.len]; omega)
  rw [this, show (2 * (i : Int) / 2).toNat = i by omega]
  simp
/-- A literal that is taken has what was given. -/
theorem Cyc.taken {N : Nt} (hg : Good N []) {V ws : List Int} (c : Cyc N V ws) {k : Nat} (hk : k < (takenN N).length) : wordV ((takenN N).getD k 0) ws = V.getD k 0 := by
  obtain ⟨i, j, e, h0, h1, -⟩ := taken_at hg hk
  rw [e, c.node h1]
  exact c.tk k i hk e

/-! ### what a register has then -/
theorem or_bd {a b : Int} (ha : Wd a) (hb : Wd b) : Wd (bits .or .u64 a b) := by
  rw [or64 ha.1 ha.2 hb.1 hb.2]
  have := Nat.or_lt_two_pow (lt64 ha.2) (lt64 hb.2)
  unfold Wd; omega
theorem andNot64 {a b : Int} (ha : Wd a) (hb : Wd b) : bits .andNot .u64 a b = bits .and .u64 a (18446744073709551615 - b) := by
  show IntKind.u64.wrap ((BitVec.ofInt 64 a &&& ~~~ BitVec.ofInt 64 b).toNat : Int) = IntKind.u64.wrap ((BitVec.ofInt 64 a &&& BitVec.ofInt 64 (18446744073709551615 - b)).toNat : Int)
  have e : ~~~ BitVec.ofInt 64 b = BitVec.ofInt 64 (18446744073709551615 - b) := by
    apply BitVec.eq_of_toNat_eq
    rw [BitVec.toNat_not, of64 hb.1 hb.2, of64 (by have := hb.2; omega) (by have := hb.1; omega)]
    have := hb.1; have := hb.2
    omega
  rw [e]
theorem andNot_bd {a b : Int} (ha : Wd a) (hb : Wd b) : Wd (bits .andNot .u64 a b) := by
  rw [andNot64 ha hb]
  have h1 := hb.1; have h2 := hb.2
  exact and_bd ha.1 ha.2 (by omega) (by omega)
theorem nxW_bd {ws : List Int} (h : Words ws) (r : Rg) : Wd (nxW ws r) := or_bd (and_bd (wordV_bd h _).1 (wordV_bd h _).2 (wordV_bd h _).1 (wordV_bd h _).2) (andNot_bd (wordV_bd h _) (wordV_bd h _))
theorem iniW_bd (r : Rg) : Wd (iniW r) := by unfold iniW Wd; split <;> omega
theorem words_map {α : Type} (L : List α) (f : α → Int) (h : ∀ a, Wd (f a)) : Words (L.map f) := by
  intro i
  by_cases hi : i < L.length
  · simp only [List.getD, List.getElem?_map, List.getElem?_eq_getElem hi, Option.map_some, Option.getD_some]
    exact h _
  · simp only [List.getD, List.getElem?_map, List.getElem?_eq_none (show L.length ≤ i by omega), Option.map_none, Option.getD_none]
    omega
theorem words_append {a b : List Int} (ha : Words a) (hb : Words b) : Words (a ++ b) := by
  intro i
  by_cases hi : i < a.length
  · have := ha i
    simp only [List.getD, List.getElem?_append_left hi] at this ⊢
    exact this
  · have := hb (i - a.length)
    simp only [List.getD, List.getElem?_append_right (show a.length ≤ i by omega)] at this ⊢
    exact this
end Go.Proofs.YtafoohdndlhbnaaGreat
end
