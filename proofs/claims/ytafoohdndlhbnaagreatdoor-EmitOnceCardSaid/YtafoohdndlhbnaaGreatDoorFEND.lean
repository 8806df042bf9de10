/-
  Or, the Or of two Ands, Xor.
  Are all literals there; a row of them put together.
  Netlists, plainly: buses, registers, what each call makes of one; what is well formed.
  A row of literals put together, from the left.
  And, Or, Xor of many; Mux; Raw.
-/
import Derived.Test.YtafoohdndlhbnaaGreatDoorFENC
import Derived.Test.YtafoohdndlhbnaaGreatDoorFENB
section
namespace Go.Proofs.YtafoohdndlhbnaaGreatDoor
open Go.RowKit Go.Maps
set_option maxRecDepth 100000

theorem orG_good {G : Gr} (h : Wf G) {a b : Int} (ha : There G a) (hb : There G b) (hl : G.nodes.length ≤ 10000000) : Grows G (orG G a b).1 (orG G a b).2 1 := by
  have g := andG_good h ha.not hb.not hl
  exact ⟨g.wf, g.le, g.there.not, g.len, g.ins⟩
theorem Grows.trans {A B C : Gr} {l m : Int} {j k : Nat} (h : Grows A B l j) (g : Grows B C m k) : Grows A C m (j + k) :=
  ⟨g.wf, h.le.trans g.le, g.there, by have := h.len; have := g.len; omega, g.ins.trans h.ins⟩
theorem eitherG_good {G : Gr} (h : Wf G) {a b c d : Int} (ha : There G a) (hb : There G b) (hc : There G c) (hd : There G d) (hl : G.nodes.length ≤ 9000000) : Grows G (eitherG G a b c d).1 (eitherG G a b c d).2 3 := by
  have g1 := andG_good h ha hb (by omega)
  have l1 := g1.len
  have g2 := andG_good g1.wf (g1.le.there hc) (g1.le.there hd) (by omega)
  have l2 := g2.len
  have g3 := orG_good g2.wf (g2.le.there g1.there) g2.there (by omega)
  exact (g1.trans g2).trans g3
theorem xorG_good {G : Gr} (h : Wf G) {a b : Int} (ha : There G a) (hb : There G b) (hl : G.nodes.length ≤ 9000000) : Grows G (xorG G a b).1 (xorG G a b).2 3 := eitherG_good h ha hb.not ha.not hb hl
theorem muxG_good {G : Gr} (h : Wf G) {c a b : Int} (hc : There G c) (ha : There G a) (hb : There G b) (hl : G.nodes.length ≤ 9000000) : Grows G (muxG G c a b).1 (muxG G c a b).2 3 := eitherG_good h hc ha hc.not hb hl

theorem or_any {w : World} {p : Pl} {G : Gr} (hG : Is w p G) (hW : Wf G) (hm : G.nodes.length ≤ 200000) {a b : Int} (ha : There G a) (hb : There G b) :
    Calls Tryz.prog 145 #[.pointer (some ⟨p.b, 0, none⟩), .int .u32 a, .int .u32 b] w fun e w' => e = .returned (.tuple #[.int .u32 (orG G a b).2, .int .i64 0]) ∧ ∃ p', Step p w p' w' (orG G a b).1 := by
  have hna := Lib.hid (fun w => not_any a ha.1 w)
  have hnb := Lib.hid (fun w => not_any b hb.1 w)
  have hand := Lib.hid (and_any hG hW hm (notV_lit ha.1) (notV_lit hb.1))
  have hop := Lib.hid (fun w => opposite_any (andG_good hW ha.not hb.not (by omega)).there.1 w)
  unfold orG
  generalize andG G (notV a) (notV b) = r at *
  clear hG hW ha hb
  go_enter Tryz.func145, Tryz.ntmps145
  go_wp2_with (first
    | (go_at_call 24; (with_reducible refine (hna.out _).mono ?_); rintro e w2 ⟨rfl, rfl⟩)
    | (go_at_call 24; (with_reducible refine (hnb.out _).mono ?_); rintro e w2 ⟨rfl, rfl⟩)
    | (go_at_call 144; refine hand.out.mono ?_; rintro e w2 ⟨rfl, p', hS⟩)
    | (go_at_call 203; refine (hop.out _).mono ?_; rintro e w3 ⟨rfl, rfl⟩))
  go_ret2
  exact ⟨rfl, p', hS⟩

theorem either_any {w : World} {p : Pl} {G : Gr} (hG : Is w p G) (hW : Wf G) (hm : G.nodes.length ≤ 199000) {a b c d : Int} (ha : There G a) (hb : There G b) (hc : There G c) (hd : There G d) :
    Calls Tryz.prog 148 #[.pointer (some ⟨p.b, 0, none⟩), .int .u32 a, .int .u32 b, .int .u32 c, .int .u32 d] w fun e w' => e = .returned (.tuple #[.int .u32 (eitherG G a b c d).2, .int .i64 0]) ∧ ∃ p', Step p w p' w' (eitherG G a b c d).1 := by
  have g1 := andG_good hW ha hb (by omega)
  have l1 := g1.len
  have g2 := andG_good g1.wf (g1.le.there hc) (g1.le.there hd) (by omega)
  have l2 := g2.len
  have h1 := Lib.hid (and_any hG hW (by omega) ha.1 hb.1)
  have h2 := Lib.hid (fun (w' : World) (p' : Pl) (hI : Is w' p' (andG G a b).1) => and_any hI g1.wf (by omega) hc.1 hd.1)
  have h3 := Lib.hid (fun (w' : World) (p' : Pl) (hI : Is w' p' (andG (andG G a b).1 c d).1) => or_any hI g2.wf (by omega) (g2.le.there g1.there) g2.there)
  unfold eitherG
  clear hG hW ha hb hc hd g1 l1 g2 l2
  generalize andG G a b = r at *
  generalize andG r.1 c d = s at *
  generalize orG s.1 r.2 s.2 = t at *
  go_enter Tryz.func148, Tryz.ntmps148
  go_wp2_with (first
    | (go_at_call 144; (with_reducible refine h1.out.mono ?_); rintro e w2 ⟨rfl, p2, hS2⟩; have hS2 := Lib.hid hS2; have eb2 := hS2.out.b; have k2 := Lib.hid (h2.out w2 p2 hS2.out.is); rw [eb2] at k2)
    | (go_at_call 144; refine k2.out.mono ?_; rintro e w3 ⟨rfl, p3, hS3⟩; have hS3 := Lib.hid hS3; have eb3 := hS3.out.b; have k3 := Lib.hid (h3.out w3 p3 hS3.out.is); rw [eb3, eb2] at k3)
    | (go_at_call 145; refine k3.out.mono ?_; rintro e w4 ⟨rfl, p4, hS4⟩))
  go_ret2
  exact ⟨rfl, p4, (hS2.out.trans hS3.out).trans hS4⟩

theorem xor_any {w : World} {p : Pl} {G : Gr} (hG : Is w p G) (hW : Wf G) (hm : G.nodes.length ≤ 199000) {a b : Int} (ha : There G a) (hb : There G b) :
    Calls Tryz.prog 146 #[.pointer (some ⟨p.b, 0, none⟩), .int .u32 a, .int .u32 b] w fun e w' => e = .returned (.tuple #[.int .u32 (xorG G a b).2, .int .i64 0]) ∧ ∃ p', Step p w p' w' (xorG G a b).1 := by
  have hna := Lib.hid (fun w => not_any a ha.1 w)
  have hnb := Lib.hid (fun w => not_any b hb.1 w)
  have he := Lib.hid (either_any hG hW hm ha hb.not ha.not hb)
  unfold xorG
  generalize eitherG G a (notV b) (notV a) b = r at *
  clear hG hW ha hb
  go_enter Tryz.func146, Tryz.ntmps146
  go_wp2_with (first
    | (go_at_call 24; (with_reducible refine (hna.out _).mono ?_); rintro e w2 ⟨rfl, rfl⟩)
    | (go_at_call 24; (with_reducible refine (hnb.out _).mono ?_); rintro e w2 ⟨rfl, rfl⟩)
    | (go_at_call 148; refine he.out.mono ?_; rintro e w2 ⟨rfl, p', hS⟩))
  go_ret2
  exact ⟨rfl, p', hS⟩
end Go.Proofs.YtafoohdndlhbnaaGreatDoor
end

section
namespace Go.Proofs.YtafoohdndlhbnaaGreatDoor
open Go.RowKit Go.Maps
set_option maxRecDepth 100000

/-- Literals that are all there. -/
def AllThere (G : Gr) (l : List Int) : Prop := ∀ x ∈ l, There G x
theorem AllThere.at {G : Gr} {l : List Int} (h : AllThere G l) {i : Nat} (hi : i < l.length) : There G (l.getD i 0) := h _ (by simp [List.getD, hi])
theorem AllThere.mono {G G' : Gr} {l : List Int} (h : AllThere G l) (k : Le G G') : AllThere G' l := fun x hx => k.there (h x hx)

theorem check_any {w : World} {p : Pl} {G : Gr} (hG : Is w p G) (hW : Wf G) (hm : G.nodes.length ≤ 200000) {a : Option Addr} {n cap : Nat} {l : List Int} (hs : Row .u32 w a n l) (hl : AllThere G l) :
    Calls Tryz.prog 147 #[.pointer (some ⟨p.b, 0, none⟩), .slice a n cap] w fun e w' => e = .returned (.int .i64 0) ∧ Below w.heap.size w w' := by
  have hst := Lib.hid (stands_any hG.lay hW.pos)
  obtain ⟨-, -, c2, -, -, -⟩ := hG.lay.cells
  have hlt := hG.lay.lt
  have HS := Lib.hid hs
  have hn := hs.le
  have HT := Lib.hid (fun i (hi : i < n) => hl.at (i := i) (by rw [hs.len]; exact hi))
  have h0 := hW.pos
  unfold There at HT
  generalize G.nodes.length = k at *
  clear hG hW hs hl
  go_enter Tryz.func147, Tryz.ntmps147
  go_wp2_with (go_at_call 58; refine hst.out.mono ?_; rintro e w2 ⟨rfl, rfl⟩)
  go_loopw [12] (fun i wr => ∃ j : Nat, j ≤ n ∧ i = .int .i64 j ∧ Below w.heap.size w wr) (fun i _ => n - (intOf i).toNat)
  case atStart => exact ⟨0, Nat.zero_le _, rfl, Below.refl _ _⟩
  case round =>
    obtain ⟨j, hj, rfl, hB⟩ := hrel
    by_cases hjn : j < n
    · obtain ⟨b, off, rfl, hb, hc⟩ := HS.out.at (by omega)
      have hcj := (hB.cell (p := ⟨b, off + j, none⟩) hb).trans (hc j hjn)
      obtain ⟨⟨t0, t1⟩, t2⟩ := HT.out j hjn
      have d2 := stepc hB hlt c2
      generalize l.getD j 0 = x at *
      have hnode := Lib.hid (fun w => node_any x ⟨t0, t1⟩ w)
      have g0 : decide ((k : Int) ≤ x / 2) = false := by simp; omega
      clear hc
      go_wp2
      go_quiet (first | (go_at_call 128; exact Calls.quiet_of_same ((hnode.out _).mono (fun _ _ h => ⟨h.1, h.2.symm⟩))))
      go_wp2
      go_roundw
      case rel => exact ⟨j + 1, by omega, by go_num, nextw hB (below_draws wr nq)⟩
      case measure => simp [intOf]; omega
    · obtain rfl : j = n := by omega
      go_wp2
      go_ret
      exact ⟨rfl, hB⟩
end Go.Proofs.YtafoohdndlhbnaaGreatDoor
end

section
namespace Go.Proofs.YtafoohdndlhbnaaGreatDoor
open Go.RowKit Num

structure Bus where
  name : ByteArray
  lits : List Int
structure Rg where
  q : Int
  d : Int
  en : Int
  init : Bool
structure Nt where
  g : Gr
  name : ByteArray
  ins : List Bus
  regs : List Rg
  outs : List Bus

def spellB (b : Int) : Bool := ((((((decide (97 ≤ b) && decide (b ≤ 122)) || (decide (65 ≤ b) && decide (b ≤ 90))) || (decide (48 ≤ b) && decide (b ≤ 57))) || (b == 95)) || (b == 64)) || (b == 63))
def mayName (s : ByteArray) : Bool := decide (1 ≤ s.size) && (decide (s.size ≤ 80) && s.data.toList.all (fun b => spellB b.toNat))
def wide (n : Int) : Bool := decide (1 ≤ n) && decide (n ≤ 64)
def sameN (s t : ByteArray) : Bool := s.toList == t.toList
theorem sameN_refl (s : ByteArray) : sameN s s = true := by simp [sameN]
theorem sameN_comm (s t : ByteArray) : sameN s t = sameN t s := by
  unfold sameN
  rw [Bool.eq_iff_iff, beq_iff_eq, beq_iff_eq]
  exact eq_comm
theorem sameN_trans {s t u : ByteArray} (h : sameN s t = true) (k : sameN t u = true) : sameN s u = true := by
  simp [sameN] at *; rw [h, k]

/-- Where a row has a first one of the kind; below 0, if none. -/
def firstV : Option Nat → Int
  | some i => i
  | none => -1
def atB (L : List Bus) (s : ByteArray) : Option Nat := L.findIdx? (fun b => sameN b.name s)
def regAt (R : List Rg) (q : Int) : Option Nat := R.findIdx? (fun r => r.q == q)
def hasB (G : Gr) (l : Int) : Bool := decide (l / 2 < G.nodes.length)
def allHas (G : Gr) (l : List Int) : Bool := l.all (hasB G)

def inputsN (G : Gr) : Nat → Gr
  | 0 => G
  | k + 1 => inputG (inputsN G k)
/-- The literals of k inputs that come next. -/
def newL (G : Gr) (k : Nat) : List Int := (List.range k).map (fun (i : Nat) => 2 * ((G.nodes.length + i : Nat) : Int))

theorem inputsN_len (G : Gr) (k : Nat) : (inputsN G k).nodes.length = G.nodes.length + k := by
  induction k with
  | zero => rfl
  | succ k ih => show (inputG (inputsN G k)).nodes.length = _; rw [inputG_len, ih]; omega
theorem inputsN_wf {G : Gr} (h : Wf G) (k : Nat) : Wf (inputsN G k) := by
  induction k with
  | zero => exact h
  | succ k ih => exact Wf_inputG ih
theorem inputsN_le (G : Gr) (k : Nat) : Le G (inputsN G k) := by
  induction k with
  | zero => exact Le.refl _
  | succ k ih => exact ih.trans (inputG_le _)
theorem inputsN_succ (G : Gr) (k : Nat) : inputsN G (k + 1) = inputG (inputsN G k) := rfl
theorem newL_len (G : Gr) (k : Nat) : (newL G k).length = k := by simp [newL]
theorem newL_succ (G : Gr) (k : Nat) : newL G (k + 1) = newL G k ++ [2 * ((G.nodes.length + k : Nat) : Int)] := by simp [newL, List.range_succ]

/-- What comes in. -/
def inLits (G : Gr) : List Int := G.inputs.map (fun i => 2 * i)
theorem inLits_inputG (G : Gr) : inLits (inputG G) = inLits G ++ [2 * (G.nodes.length : Int)] := by simp [inLits, inputG]
theorem inLits_inputsN (G : Gr) (k : Nat) : inLits (inputsN G k) = inLits G ++ newL G k := by
  induction k with
  | zero => simp [inputsN, newL]
  | succ k ih => rw [inputsN_succ, inLits_inputG, ih, newL_succ, inputsN_len, List.append_assoc]

def litsOf (L : List Bus) : List Int := L.flatMap (fun b => b.lits)
def takenN (N : Nt) : List Int := litsOf N.ins ++ N.regs.map (fun r => r.q)

def addIn (N : Nt) (s : ByteArray) (k : Int) : Nt × List Int × Int :=
  if (mayName s && wide k) = true then
    if (atB N.ins s).isSome = true then (N, [], 9)
    else ({ N with g := inputsN N.g k.toNat, ins := N.ins ++ [⟨s, newL N.g k.toNat⟩] }, newL N.g k.toNat, 0)
  else (N, [], 1)
def addReg (N : Nt) (i : Bool) : Nt × Int := ({ N with g := inputG N.g, regs := N.regs ++ [⟨2 * (N.g.nodes.length : Int), 0, 0, i⟩] }, 2 * (N.g.nodes.length : Int))
def setRg (d en : Int) (r : Rg) : Rg := { r with d := d, en := en }
def setReg (N : Nt) (q d en : Int) : Nt × Int :=
  match regAt N.regs q with
  | none => (N, 1)
  | some i => if allHas N.g [d, en] = true then ({ N with regs := N.regs.modify i (setRg d en) }, 0) else (N, 1)
def addOut (N : Nt) (s : ByteArray) (l : List Int) : Nt × Int :=
  if (mayName s && (wide l.length && allHas N.g l)) = true then
    if (atB N.outs s).isSome = true then (N, 9) else ({ N with outs := N.outs ++ [⟨s, l⟩] }, 0)
  else (N, 1)
def gateN (T : Gr → Int → Int → Gr × Int) (N : Nt) (b c : Int) : Nt × Int × Int :=
  if allHas N.g [b, c] = true then ({ N with g := (T N.g b c).1 }, (T N.g b c).2, 0) else (N, 0, 1)

def NamesApart (L : List Bus) : Prop := L.Pairwise (fun a b => sameN a.name b.name = false)
structure BusesOk (L : List Bus) : Prop where
  name : ∀ b ∈ L, mayName b.name = true
  wide : ∀ b ∈ L, 1 ≤ b.lits.length ∧ b.lits.length ≤ 64
  apart : NamesApart L
/-- Well formed, but for inputs that nothing drives. -/
structure Good (N : Nt) (rest : List Int) : Prop where
  wf : Wf N.g
  name : mayName N.name = true
  ins : BusesOk N.ins
  outs : BusesOk N.outs
  outT : ∀ b ∈ N.outs, ∀ x ∈ b.lits, There N.g x
  regT : ∀ r ∈ N.regs, There N.g r.d ∧ There N.g r.en
  drv : (takenN N ++ rest).Perm (inLits N.g)

theorem atB_none {L : List Bus} {s : ByteArray} (h : (atB L s).isSome ≠ true) : ∀ b ∈ L, sameN b.name s = false := by
  unfold atB at h
  intro b hb
  have : L.findIdx? (fun b => sameN b.name s) = none := by
    cases e : L.findIdx? (fun b => sameN b.name s) with
    | none => rfl
    | some i => rw [e] at h; simp at h
  rw [List.findIdx?_eq_none_iff] at this
  simpa using this b hb
theorem BusesOk.push {L : List Bus} (h : BusesOk L) {s : ByteArray} {l : List Int} (hs : mayName s = true) (hl : 1 ≤ l.length ∧ l.length ≤ 64) (ha : (atB L s).isSome ≠ true) : BusesOk (L ++ [⟨s, l⟩]) := by
  refine ⟨?_, ?_, ?_⟩
  · intro b hb; rcases List.mem_append.1 hb with h1 | h1
    · exact h.name b h1
    · simp at h1; subst h1; exact hs
  · intro b hb; rcases List.mem_append.1 hb with h1 | h1
    · exact h.wide b h1
    · simp at h1; subst h1; exact hl
  · unfold NamesApart
    rw [List.pairwise_append]
    refine ⟨h.apart, by simp, fun a ha' b hb => ?_⟩
    simp at hb; subst hb
    exact atB_none ha a ha'
theorem wide_iff {k : Int} : wide k = true ↔ 1 ≤ k ∧ k ≤ 64 := by simp [wide]
theorem hasB_there {G : Gr} {x : Int} (hx : IsLit x) : hasB G x = true ↔ There G x := by
  unfold hasB There
  simp [hx]
theorem allHas_there {G : Gr} {l : List Int} (hl : ∀ x ∈ l, IsLit x) (h : allHas G l = true) : AllThere G l := by
  intro x hx
  unfold allHas at h
  exact (hasB_there (hl x hx)).1 (List.all_eq_true.1 h x hx)

theorem Good.new (F H : Bool) {s : ByteArray} (hs : mayName s = true) : Good ⟨newG F H, s, [], [], []⟩ [] :=
  ⟨Wf_new F H, hs, ⟨by simp, by simp, List.Pairwise.nil⟩, ⟨by simp, by simp, List.Pairwise.nil⟩, by simp, by simp, by simp [takenN, litsOf, inLits, newG]⟩
theorem litsOf_push (L : List Bus) (b : Bus) : litsOf (L ++ [b]) = litsOf L ++ b.lits := by simp [litsOf]
theorem Good.addIn {N : Nt} {rest : List Int} (h : Good N rest) (s : ByteArray) (k : Int) : Good (addIn N s k).1 rest := by
  unfold YtafoohdndlhbnaaGreatDoor.addIn
  split
  · rename_i hc
    simp only [Bool.and_eq_true] at hc
    split
    · exact h
    · rename_i ha
      have hk := wide_iff.1 hc.2
      have hL := inputsN_le N.g k.toNat
      refine ⟨inputsN_wf h.wf _, h.name, h.ins.push hc.1 (by rw [newL_len]; omega) ha, h.outs, fun b hb x hx => hL.there (h.outT b hb x hx), fun r hr => ⟨hL.there (h.regT r hr).1, hL.there (h.regT r hr).2⟩, ?_⟩
      show (litsOf (N.ins ++ [⟨s, newL N.g k.toNat⟩]) ++ N.regs.map (fun r => r.q) ++ rest).Perm (inLits (inputsN N.g k.toNat))
      rw [litsOf_push, inLits_inputsN]
      have hd := h.drv
      unfold takenN at hd
      refine List.Perm.trans ?_ (List.Perm.append_right _ hd)
      simp only [List.append_assoc]
      refine List.Perm.append_left _ ?_
      have h1 : (newL N.g k.toNat ++ (List.map (fun r => r.q) N.regs ++ rest)).Perm ((List.map (fun r => r.q) N.regs ++ rest) ++ newL N.g k.toNat) := List.perm_append_comm
      simpa [List.append_assoc] using h1
  · exact h
theorem Good.addReg {N : Nt} {rest : List Int} (h : Good N rest) (i : Bool) : Good (addReg N i).1 rest := by
  have hL := inputG_le N.g
  have hp := h.wf.pos
  have h0 : There (inputG N.g) 0 := ⟨by unfold IsLit; omega, by rw [inputG_len]; omega⟩
  refine ⟨Wf_inputG h.wf, h.name, h.ins, h.outs, fun b hb x hx => hL.there (h.outT b hb x hx), fun r hr => ?_, ?_⟩
  · rcases List.mem_append.1 hr with h1 | h1
    · exact ⟨hL.there (h.regT r h1).1, hL.there (h.regT r h1).2⟩
    · simp at h1; subst h1; exact ⟨h0, h0⟩
  · show (litsOf N.ins ++ (N.regs ++ [_]).map (fun (r : Rg) => r.q) ++ rest).Perm (inLits (inputG N.g))
    rw [inLits_inputG]
    have hd := h.drv
    unfold takenN at hd
    refine List.Perm.trans ?_ (List.Perm.append_right _ hd)
    simp only [List.map_append, List.append_assoc, List.map_cons, List.map_nil]
    refine List.Perm.append_left _ (List.Perm.append_left _ ?_)
    exact List.perm_append_comm
theorem modify_q (R : List Rg) (i : Nat) (d en : Int) : (R.modify i (setRg d en)).map (fun r => r.q) = R.map (fun r => r.q) := by
  apply List.ext_getElem
  · simp
  · intro k h1 h2
    simp [List.getElem_modify]
    split <;> rfl
theorem Good.setReg {N : Nt} {rest : List Int} (h : Good N rest) (q d en : Int) (hd : IsLit d) (he : IsLit en) : Good (setReg N q d en).1 rest := by
  unfold YtafoohdndlhbnaaGreatDoor.setReg
  split
  · exact h
  · rename_i i hi
    split
    · rename_i hc
      have ht := allHas_there (l := [d, en]) (by intro x hx; simp at hx; rcases hx with rfl | rfl <;> assumption) hc
      refine ⟨h.wf, h.name, h.ins, h.outs, h.outT, fun r hr => ?_, ?_⟩
      · obtain ⟨k, hk, rfl⟩ := List.getElem_of_mem hr
        simp [List.getElem_modify]
        split
        · exact ⟨ht d (by simp), ht en (by simp)⟩
        · exact h.regT _ (List.getElem_mem _)
      · show (litsOf N.ins ++ (N.regs.modify i (setRg d en)).map (fun r => r.q) ++ rest).Perm (inLits N.g)
        rw [modify_q]
        exact h.drv
    · exact h
theorem Good.addOut {N : Nt} {rest : List Int} (h : Good N rest) (s : ByteArray) (l : List Int) (hl : ∀ x ∈ l, IsLit x) : Good (addOut N s l).1 rest := by
  unfold YtafoohdndlhbnaaGreatDoor.addOut
  split
  · rename_i hc
    simp only [Bool.and_eq_true] at hc
    split
    · exact h
    · rename_i ha
      have hk := wide_iff.1 hc.2.1
      have ht := allHas_there hl hc.2.2
      refine ⟨h.wf, h.name, h.ins, h.outs.push hc.1 (by omega) ha, fun b hb x hx => ?_, h.regT, h.drv⟩
      rcases List.mem_append.1 hb with h1 | h1
      · exact h.outT b h1 x hx
      · simp at h1; subst h1; exact ht x hx
  · exact h
theorem Good.grow {N : Nt} {rest : List Int} (h : Good N rest) {G' : Gr} {l : Int} {k : Nat} (g : Grows N.g G' l k) : Good { N with g := G' } rest :=
  ⟨g.wf, h.name, h.ins, h.outs, fun b hb x hx => g.le.there (h.outT b hb x hx), fun r hr => ⟨g.le.there (h.regT r hr).1, g.le.there (h.regT r hr).2⟩, by
    show (takenN N ++ rest).Perm (inLits G')
    have := h.drv
    unfold inLits at this ⊢
    rw [g.ins]; exact this⟩
theorem Good.input {N : Nt} {rest : List Int} (h : Good N rest) : Good { N with g := inputG N.g } (rest ++ [2 * (N.g.nodes.length : Int)]) := by
  have hL := inputG_le N.g
  refine ⟨Wf_inputG h.wf, h.name, h.ins, h.outs, fun b hb x hx => hL.there (h.outT b hb x hx), fun r hr => ⟨hL.there (h.regT r hr).1, hL.there (h.regT r hr).2⟩, ?_⟩
  show (takenN N ++ (rest ++ _)).Perm (inLits (inputG N.g))
  rw [inLits_inputG, ← List.append_assoc]
  exact List.Perm.append_right _ h.drv

/-! ### what is not taken yet -/
theorem inLits_nodup {G : Gr} (h : Wf G) : (inLits G).Nodup := by
  unfold inLits List.Nodup
  rw [List.pairwise_map, List.pairwise_iff_getElem]
  intro i j hi hj hij e
  have := h.rise i j _ _ hij (List.getElem?_eq_getElem hi) (List.getElem?_eq_getElem hj)
  omega
theorem inLits_mem {G : Gr} (h : Wf G) {x : Int} (hx : x ∈ inLits G) : ∃ i : Nat, x = 2 * (i : Int) ∧ 0 < i ∧ i < G.nodes.length ∧ (i : Int) ∈ G.inputs := by
  unfold inLits at hx
  obtain ⟨v, hv, rfl⟩ := List.mem_map.1 hx
  obtain ⟨k, hk, rfl⟩ := List.getElem_of_mem hv
  obtain ⟨i, e, h0, n, hn, -⟩ := h.ins k _ (List.getElem?_eq_getElem hk)
  exact ⟨i, by simp only [e], h0, (List.getElem?_eq_some_iff.1 hn).1, by rw [← e]; exact List.getElem_mem _⟩
/-- What is still to be taken: each an input's literal, none twice. -/
structure Left (G : Gr) (l : List Int) : Prop where
  nodup : l.Nodup
  lit : ∀ x ∈ l, ∃ i : Nat, x = 2 * (i : Int) ∧ 0 < i ∧ i < G.nodes.length
theorem Good.left {N : Nt} {rest : List Int} (h : Good N rest) : Left N.g (takenN N ++ rest) :=
  ⟨h.drv.nodup_iff.2 (inLits_nodup h.wf), fun x hx => by obtain ⟨i, e, h0, h1, -⟩ := inLits_mem h.wf (h.drv.mem_iff.1 hx); exact ⟨i, e, h0, h1⟩⟩
theorem Left.tail {G : Gr} {x : Int} {l : List Int} (h : Left G (x :: l)) : Left G l := ⟨(List.nodup_cons.1 h.nodup).2, fun y hy => h.lit y (by simp [hy])⟩
theorem Left.suffix {G : Gr} {k l : List Int} (h : Left G (k ++ l)) : Left G l := ⟨(List.nodup_append.1 h.nodup).2.1, fun y hy => h.lit y (by simp [hy])⟩

/-- Which nodes are free. -/
def freeB (l : List Int) (k : Nat) : Bool := l.contains (2 * (k : Int))
def freeL (n : Nat) (l : List Int) : List Value := (List.range n).map (fun k => Value.bool (freeB l k))
theorem freeL_len (n : Nat) (l : List Int) : (freeL n l).length = n := by simp [freeL]
theorem freeL_at (n : Nat) (l : List Int) {k : Nat} (h : k < n) : (freeL n l)[k]? = some (.bool (freeB l k)) := by simp [freeL, h]
theorem freeL_take {G : Gr} {k : Nat} {l : List Int} (h : Left G (2 * (k : Int) :: l)) (n : Nat) : (freeL n (2 * (k : Int) :: l)).set k (.bool false) = freeL n l := by
  have hn := (List.nodup_cons.1 h.nodup).1
  apply List.ext_getElem
  · simp [freeL]
  · intro i h1 h2
    simp [freeL, List.getElem_set] at *
    by_cases e : k = i
    · subst e; simp [freeB, hn]
    · have : ¬ ((i : Int) = k) := by omega
      have e2 : ¬ (2 * (i : Int) = 2 * (k : Int)) := by omega
      simp [e, freeB, e2]
theorem freeB_head (k : Nat) (l : List Int) : freeB (2 * (k : Int) :: l) k = true := by simp [freeB]
/-- The nodes of the first j of a row. -/
def marked (I : List Int) (j : Nat) : List Int := (I.take j).map (fun i => 2 * i)
theorem freeL_none (n : Nat) : freeL n [] = List.replicate n (.bool false) := by
  apply List.ext_getElem
  · simp [freeL]
  · intro i h1 h2; simp [freeL, freeB]
theorem freeL_mark (n : Nat) (I : List Int) {j i : Nat} (hj : I[j]? = some (i : Int)) : (freeL n (marked I j)).set i (.bool true) = freeL n (marked I (j + 1)) := by
  apply List.ext_getElem
  · simp [freeL]
  · intro k h1 h2
    have e : marked I (j + 1) = marked I j ++ [2 * (i : Int)] := by
      unfold marked; rw [List.take_add_one, hj]; simp
    simp [freeL, List.getElem_set, e] at *
    by_cases hk : i = k
    · subst hk; simp [freeB]
    · have e2 : ¬ ((k : Int) = i) := by omega
      have e3 : ¬ (2 * (k : Int) = 2 * (i : Int)) := by omega
      simp [hk, freeB, e3]
theorem freeL_perm (n : Nat) {l m : List Int} (h : l.Perm m) : freeL n l = freeL n m := by
  unfold freeL freeB
  apply List.map_congr_left
  intro k _
  have : l.contains (2 * (k : Int)) = m.contains (2 * (k : Int)) := by
    rw [Bool.eq_iff_iff]; simp [h.mem_iff]
  rw [this]
/-- Of moderate size. -/
structure Small (N : Nt) : Prop where
  g : N.g.nodes.length ≤ 180000
  ins : N.ins.length ≤ 9000
  regs : N.regs.length ≤ 9000
  outs : N.outs.length ≤ 9000
end Go.Proofs.YtafoohdndlhbnaaGreatDoor
end

section
namespace Go.Proofs.YtafoohdndlhbnaaGreatDoor
open Go.RowKit Go.Maps

/-- The first j of r put to x, from the left. -/
def manyN (T : Gr → Int → Int → Gr × Int) (G : Gr) (x : Int) (r : List Int) (j : Nat) : Gr × Int := (r.take j).foldl (fun p y => T p.1 p.2 y) (G, x)
theorem manyN_zero (T : Gr → Int → Int → Gr × Int) (G : Gr) (x : Int) (r : List Int) : manyN T G x r 0 = (G, x) := rfl
theorem manyN_succ (T : Gr → Int → Int → Gr × Int) (G : Gr) (x : Int) (r : List Int) (j : Nat) (h : j < r.length) : manyN T G x r (j + 1) = T (manyN T G x r j).1 (manyN T G x r j).2 (r.getD j 0) := by
  unfold manyN
  rw [List.take_add_one, List.foldl_append]
  simp [List.getD, h]
theorem manyN_all (T : Gr → Int → Int → Gr × Int) (z : Int) (G : Gr) (x : Int) (r : List Int) : manyN T G x r r.length = manyG T z G (x :: r) := by
  unfold manyN manyG; rw [List.take_length]

/-- What a way to put two literals together is. -/
def OpOk (T : Gr → Int → Int → Gr × Int) (k : Nat) : Prop := ∀ G a b, Wf G → There G a → There G b → G.nodes.length ≤ 9000000 → Grows G (T G a b).1 (T G a b).2 k
theorem and_ok : OpOk andG 1 := fun _ _ _ h ha hb hl => andG_good h ha hb (by omega)
theorem or_ok : OpOk orG 1 := fun _ _ _ h ha hb hl => orG_good h ha hb (by omega)
theorem xor_ok : OpOk xorG 3 := fun _ _ _ h ha hb hl => xorG_good h ha hb hl
theorem many_good {T : Gr → Int → Int → Gr × Int} {k : Nat} (hT : OpOk T k) {G : Gr} {x : Int} {r : List Int} (hW : Wf G) (hx : There G x) (hr : AllThere G r) (hl : G.nodes.length + k * r.length ≤ 9000000) :
    ∀ j, j ≤ r.length → Grows G (manyN T G x r j).1 (manyN T G x r j).2 (k * j) := by
  intro j
  induction j with
  | zero => intro _; exact ⟨hW, Le.refl _, hx, by simp [manyN_zero], rfl⟩
  | succ j ih =>
    intro hj
    have g := ih (by omega)
    have hlen := g.len
    have hm : k * j ≤ k * r.length := Nat.mul_le_mul_left _ (by omega)
    have g2 := hT _ _ _ g.wf g.there (g.le.there (hr.at (i := j) (by omega))) (by omega)
    rw [manyN_succ _ _ _ _ _ (by omega)]
    exact g.trans g2

/-- A call's contract, as the walk of 'together' takes it. -/
def OpCall (f : FuncId) (T : Gr → Int → Int → Gr × Int) : Prop := ∀ (w : World) (p : Pl) (G : Gr) (a b : Int), Is w p G → Wf G → G.nodes.length ≤ 199000 → There G a → There G b →
    Calls Tryz.prog f #[.pointer (some ⟨p.b, 0, none⟩), .int .u32 a, .int .u32 b] w fun e w' => e = .returned (.tuple #[.int .u32 (T G a b).2, .int .i64 0]) ∧ ∃ p', Step p w p' w' (T G a b).1
theorem and_call : OpCall 144 andG := fun _ _ _ _ _ hI hW hm ha hb => and_any hI hW (by omega) ha.1 hb.1
theorem or_call : OpCall 145 orG := fun _ _ _ _ _ hI hW hm ha hb => or_any hI hW (by omega) ha hb
theorem xor_call : OpCall 146 xorG := fun _ _ _ _ _ hI hW hm ha hb => xor_any hI hW hm ha hb

set_option maxRecDepth 100000 in
set_option maxHeartbeats 1000000 in
theorem together_and {T : Gr → Int → Int → Gr × Int} {k : Nat} (hT : OpOk T k) (hc : OpCall 144 T) {w : World} {p : Pl} {G : Gr} (hG : Is w p G) (hW : Wf G) {a : Option Addr} {n cap : Nat} {l : List Int} (hs : Row .u32 w a n l) (hcap : n ≤ cap) (hap : ∀ x, a = some x → ¬ p.has x.block) (hl : AllThere G l) (hm : G.nodes.length + k * n ≤ 199000) (z : Int) :
    Calls Tryz.prog 143 #[.pointer (some ⟨p.b, 0, none⟩), .int .u32 z, .func (.func 144) #[.pointer (some ⟨p.b, 0, none⟩)] #[], .slice a n cap] w fun e w' => e = .returned (.tuple #[.int .u32 (manyG T z G l).2, .int .i64 0]) ∧ ∃ p', Step p w p' w' (manyG T z G l).1 := by
  have hck := Lib.hid (check_any hG hW (by omega) hs hl (cap := cap))
  have hlen := hs.len
  have HS := Lib.hid hs
  have hlt := hG.lay.lt
  cases l with
  | nil =>
    obtain rfl : n = 0 := by simpa using hlen.symm
    have hdone : Hid (manyG T z G [] = (G, z)) := Lib.hid rfl
    rw [hdone.out]
    have HG := Lib.hid hG
    clear hG hW hs hl HS
    go_enter Tryz.func143, Tryz.ntmps143
    go_wp2_with (go_at_call 147; refine hck.out.mono ?_; rintro e w2 ⟨rfl, hB⟩)
    go_ret2
    exact ⟨rfl, p, Step.of_below HG.out hB⟩
  | cons x r =>
    obtain ⟨m, rfl⟩ : ∃ m, n = m + 1 := ⟨r.length, by simpa using hlen.symm⟩
    obtain ⟨c, rfl⟩ : ∃ c, cap = c + 1 := ⟨cap - 1, by omega⟩
    have hmc : m ≤ c := by omega
    have hrl : r.length = m := by simpa using hlen
    have hx : There G x := hl x (by simp)
    have hr : AllThere G r := fun y hy => hl y (by simp [hy])
    have hgr := Lib.hid (many_good hT hW hx hr (by rw [hrl]; have : k * m ≤ k * (m + 1) := Nat.mul_le_mul_left _ (by omega); omega))
    have hkm := Lib.hid hm
    obtain ⟨b, off, rfl, hb, hcell⟩ := hs.at (by omega)
    have hc0 := hcell 0 (by omega)
    have hle := hs.le
    rw [show (x :: r).getD 0 0 = x from rfl, Nat.add_zero] at hc0
    have hcr : Hid (∀ i, i < m → w.cell? ⟨b, off + 1 + i, none⟩ = some (.int .u32 (r.getD i 0))) := Lib.hid (fun i hi => by have := hcell (i + 1) (by omega); rw [show off + (i + 1) = off + 1 + i by omega] at this; exact this)
    have hall : Hid (manyN T G x r m = manyG T z G (x :: r)) := Lib.hid (by rw [← hrl]; exact manyN_all T z G x r)
    rw [← hall.out]
    have hsucc := Lib.hid (fun j (hj : j < m) => manyN_succ T G x r j (by omega))
    have HG := Lib.hid hG
    have HC := Lib.hid hc
    have HR := Lib.hid hr
    have hm2 : Hid (∀ j, j ≤ m → G.nodes.length + k * j ≤ 199000) := Lib.hid (fun j hj => by have : k * j ≤ k * (m + 1) := Nat.mul_le_mul_left _ (by omega); omega)
    have hnp : Hid (¬ p.has b) := Lib.hid (hap _ rfl)
    have hm0 : Hid ((manyN T G x r 0).1 = G ∧ (manyN T G x r 0).2 = x) := Lib.hid ⟨rfl, rfl⟩
    clear hG hW hs hl HS hcell hc hT hx hr hlen hm hkm hap hall
    generalize hM : manyN T G x r = M at *
    have hM := Lib.hid hM
    by_cases g0 : c = 0
    · subst g0
      obtain rfl : m = 0 := by omega
      go_enter Tryz.func143, Tryz.ntmps143
      go_wp2_with (go_at_call 147; (with_reducible refine hck.out.mono ?_); rintro e w2 ⟨rfl, hB⟩; have d0 := stepc hB hb hc0)
      go_loopw [11, 32] (fun so i wr => ∃ j : Nat, j ≤ 0 ∧ i = .int .i64 j ∧ so = .int .u32 (M j).2 ∧ ∃ p', Hid (Step p w p' wr (M j).1)) (fun _ i _ => 0 - (intOf i).toNat)
      case atStart => exact ⟨0, Nat.zero_le _, rfl, by rw [hm0.out.2], p, by rw [hm0.out.1]; exact Lib.hid (Step.of_below HG.out hB)⟩
      case round =>
        clear hB d0 hc0
        obtain ⟨j, hj, rfl, rfl, p2, hS⟩ := hrel
        by_cases hjm : j < 0
        · exact absurd hjm (by omega)
        · obtain rfl : j = 0 := by omega
          go_wp2
          go_ret2
          exact ⟨rfl, p2, hS.out⟩
    · go_enter Tryz.func143, Tryz.ntmps143
      go_wp2_with (go_at_call 147; (with_reducible refine hck.out.mono ?_); rintro e w2 ⟨rfl, hB⟩; have d0 := stepc hB hb hc0)
      go_loopw [11, 32] (fun so i wr => ∃ j : Nat, j ≤ m ∧ i = .int .i64 j ∧ so = .int .u32 (M j).2 ∧ ∃ p', Hid (Step p w p' wr (M j).1)) (fun _ i _ => m - (intOf i).toNat)
      case atStart => exact ⟨0, Nat.zero_le _, rfl, by rw [hm0.out.2], p, by rw [hm0.out.1]; exact Lib.hid (Step.of_below HG.out hB)⟩
      case round =>
        clear hB d0 hc0
        obtain ⟨j, hj, rfl, rfl, p2, hS⟩ := hrel
        by_cases hjm : j < m
        · have hcj := (kept_cell hS.out.kept hb hnp.out (o := off + 1 + j)).1.trans (hcr.out j hjm)
          have hgj := hgr.out j (by omega)
          have hlen := hgj.len
          have hmj := hm2.out j (by omega)
          have hyT := Lib.hid (hgj.le.there (HR.out.at (i := j) (by omega)))
          have hsj := hsucc.out j hjm
          have hcall := Lib.hid (HC.out wr p2 _ _ _ hS.out.is hgj.wf (by omega) hgj.there hyT.out)
          rw [← hsj, hS.out.b] at hcall
          generalize r.getD j 0 = y at *
          have HSJ := Lib.hid hsj
          clear hsj
          have hgj := Lib.hid hgj
          clear hlen hmj hgr hm2 hsucc
          go_wp2_with (go_at_call 144; refine hcall.out.mono ?_; rintro e w3 ⟨rfl, p3, hS3⟩)
          go_roundw
          case rel => exact ⟨_, _, _, _, _, _, _, _, _, _, _, _, _, _, _, _, _, _, _, _, _, _, ⟨j + 1, by omega, by go_num, rfl, p3, Lib.hid (hS.out.trans hS3)⟩, rfl⟩
          case measure => simp [intOf]; omega
        · obtain rfl : j = m := by omega
          go_wp2
          go_ret2
          exact ⟨rfl, p2, hS.out⟩
end Go.Proofs.YtafoohdndlhbnaaGreatDoor
end

section
namespace Go.Proofs.YtafoohdndlhbnaaGreatDoor
open Go.RowKit Go.Maps

set_option maxRecDepth 100000 in
set_option maxHeartbeats 1000000 in
theorem together_or {T : Gr → Int → Int → Gr × Int} {k : Nat} (hT : OpOk T k) (hc : OpCall 145 T) {w : World} {p : Pl} {G : Gr} (hG : Is w p G) (hW : Wf G) {a : Option Addr} {n cap : Nat} {l : List Int} (hs : Row .u32 w a n l) (hcap : n ≤ cap) (hap : ∀ x, a = some x → ¬ p.has x.block) (hl : AllThere G l) (hm : G.nodes.length + k * n ≤ 199000) (z : Int) :
    Calls Tryz.prog 143 #[.pointer (some ⟨p.b, 0, none⟩), .int .u32 z, .func (.func 145) #[.pointer (some ⟨p.b, 0, none⟩)] #[], .slice a n cap] w fun e w' => e = .returned (.tuple #[.int .u32 (manyG T z G l).2, .int .i64 0]) ∧ ∃ p', Step p w p' w' (manyG T z G l).1 := by
  have hck := Lib.hid (check_any hG hW (by omega) hs hl (cap := cap))
  have hlen := hs.len
  have HS := Lib.hid hs
  have hlt := hG.lay.lt
  cases l with
  | nil =>
    obtain rfl : n = 0 := by simpa using hlen.symm
    have hdone : Hid (manyG T z G [] = (G, z)) := Lib.hid rfl
    rw [hdone.out]
    have HG := Lib.hid hG
    clear hG hW hs hl HS
    go_enter Tryz.func143, Tryz.ntmps143
    go_wp2_with (go_at_call 147; refine hck.out.mono ?_; rintro e w2 ⟨rfl, hB⟩)
    go_ret2
    exact ⟨rfl, p, Step.of_below HG.out hB⟩
  | cons x r =>
    obtain ⟨m, rfl⟩ : ∃ m, n = m + 1 := ⟨r.length, by simpa using hlen.symm⟩
    obtain ⟨c, rfl⟩ : ∃ c, cap = c + 1 := ⟨cap - 1, by omega⟩
    have hmc : m ≤ c := by omega
    have hrl : r.length = m := by simpa using hlen
    have hx : There G x := hl x (by simp)
    have hr : AllThere G r := fun y hy => hl y (by simp [hy])
    have hgr := Lib.hid (many_good hT hW hx hr (by rw [hrl]; have : k * m ≤ k * (m + 1) := Nat.mul_le_mul_left _ (by omega); omega))
    have hkm := Lib.hid hm
    obtain ⟨b, off, rfl, hb, hcell⟩ := hs.at (by omega)
    have hc0 := hcell 0 (by omega)
    have hle := hs.le
    rw [show (x :: r).getD 0 0 = x from rfl, Nat.add_zero] at hc0
    have hcr : Hid (∀ i, i < m → w.cell? ⟨b, off + 1 + i, none⟩ = some (.int .u32 (r.getD i 0))) := Lib.hid (fun i hi => by have := hcell (i + 1) (by omega); rw [show off + (i + 1) = off + 1 + i by omega] at this; exact this)
    have hall : Hid (manyN T G x r m = manyG T z G (x :: r)) := Lib.hid (by rw [← hrl]; exact manyN_all T z G x r)
    rw [← hall.out]
    have hsucc := Lib.hid (fun j (hj : j < m) => manyN_succ T G x r j (by omega))
    have HG := Lib.hid hG
    have HC := Lib.hid hc
    have HR := Lib.hid hr
    have hm2 : Hid (∀ j, j ≤ m → G.nodes.length + k * j ≤ 199000) := Lib.hid (fun j hj => by have : k * j ≤ k * (m + 1) := Nat.mul_le_mul_left _ (by omega); omega)
    have hnp : Hid (¬ p.has b) := Lib.hid (hap _ rfl)
    have hm0 : Hid ((manyN T G x r 0).1 = G ∧ (manyN T G x r 0).2 = x) := Lib.hid ⟨rfl, rfl⟩
    clear hG hW hs hl HS hcell hc hT hx hr hlen hm hkm hap hall
    generalize hM : manyN T G x r = M at *
    have hM := Lib.hid hM
    by_cases g0 : c = 0
    · subst g0
      obtain rfl : m = 0 := by omega
      go_enter Tryz.func143, Tryz.ntmps143
      go_wp2_with (go_at_call 147; (with_reducible refine hck.out.mono ?_); rintro e w2 ⟨rfl, hB⟩; have d0 := stepc hB hb hc0)
      go_loopw [11, 32] (fun so i wr => ∃ j : Nat, j ≤ 0 ∧ i = .int .i64 j ∧ so = .int .u32 (M j).2 ∧ ∃ p', Hid (Step p w p' wr (M j).1)) (fun _ i _ => 0 - (intOf i).toNat)
      case atStart => exact ⟨0, Nat.zero_le _, rfl, by rw [hm0.out.2], p, by rw [hm0.out.1]; exact Lib.hid (Step.of_below HG.out hB)⟩
      case round =>
        clear hB d0 hc0
        obtain ⟨j, hj, rfl, rfl, p2, hS⟩ := hrel
        by_cases hjm : j < 0
        · exact absurd hjm (by omega)
        · obtain rfl : j = 0 := by omega
          go_wp2
          go_ret2
          exact ⟨rfl, p2, hS.out⟩
    · go_enter Tryz.func143, Tryz.ntmps143
      go_wp2_with (go_at_call 147; (with_reducible refine hck.out.mono ?_); rintro e w2 ⟨rfl, hB⟩; have d0 := stepc hB hb hc0)
      go_loopw [11, 32] (fun so i wr => ∃ j : Nat, j ≤ m ∧ i = .int .i64 j ∧ so = .int .u32 (M j).2 ∧ ∃ p', Hid (Step p w p' wr (M j).1)) (fun _ i _ => m - (intOf i).toNat)
      case atStart => exact ⟨0, Nat.zero_le _, rfl, by rw [hm0.out.2], p, by rw [hm0.out.1]; exact Lib.hid (Step.of_below HG.out hB)⟩
      case round =>
        clear hB d0 hc0
        obtain ⟨j, hj, rfl, rfl, p2, hS⟩ := hrel
        by_cases hjm : j < m
        · have hcj := (kept_cell hS.out.kept hb hnp.out (o := off + 1 + j)).1.trans (hcr.out j hjm)
          have hgj := hgr.out j (by omega)
          have hlen := hgj.len
          have hmj := hm2.out j (by omega)
          have hyT := Lib.hid (hgj.le.there (HR.out.at (i := j) (by omega)))
          have hsj := hsucc.out j hjm
          have hcall := Lib.hid (HC.out wr p2 _ _ _ hS.out.is hgj.wf (by omega) hgj.there hyT.out)
          rw [← hsj, hS.out.b] at hcall
          generalize r.getD j 0 = y at *
          have HSJ := Lib.hid hsj
          clear hsj
          have hgj := Lib.hid hgj
          clear hlen hmj hgr hm2 hsucc
          go_wp2_with (go_at_call 145; refine hcall.out.mono ?_; rintro e w3 ⟨rfl, p3, hS3⟩)
          go_roundw
          case rel => exact ⟨_, _, _, _, _, _, _, _, _, _, _, _, _, _, _, _, _, _, _, _, _, _, ⟨j + 1, by omega, by go_num, rfl, p3, Lib.hid (hS.out.trans hS3)⟩, rfl⟩
          case measure => simp [intOf]; omega
        · obtain rfl : j = m := by omega
          go_wp2
          go_ret2
          exact ⟨rfl, p2, hS.out⟩
set_option maxRecDepth 100000 in
set_option maxHeartbeats 1000000 in
theorem together_xor {T : Gr → Int → Int → Gr × Int} {k : Nat} (hT : OpOk T k) (hc : OpCall 146 T) {w : World} {p : Pl} {G : Gr} (hG : Is w p G) (hW : Wf G) {a : Option Addr} {n cap : Nat} {l : List Int} (hs : Row .u32 w a n l) (hcap : n ≤ cap) (hap : ∀ x, a = some x → ¬ p.has x.block) (hl : AllThere G l) (hm : G.nodes.length + k * n ≤ 199000) (z : Int) :
    Calls Tryz.prog 143 #[.pointer (some ⟨p.b, 0, none⟩), .int .u32 z, .func (.func 146) #[.pointer (some ⟨p.b, 0, none⟩)] #[], .slice a n cap] w fun e w' => e = .returned (.tuple #[.int .u32 (manyG T z G l).2, .int .i64 0]) ∧ ∃ p', Step p w p' w' (manyG T z G l).1 := by
  have hck := Lib.hid (check_any hG hW (by omega) hs hl (cap := cap))
  have hlen := hs.len
  have HS := Lib.hid hs
  have hlt := hG.lay.lt
  cases l with
  | nil =>
    obtain rfl : n = 0 := by simpa using hlen.symm
    have hdone : Hid (manyG T z G [] = (G, z)) := Lib.hid rfl
    rw [hdone.out]
    have HG := Lib.hid hG
    clear hG hW hs hl HS
    go_enter Tryz.func143, Tryz.ntmps143
    go_wp2_with (go_at_call 147; refine hck.out.mono ?_; rintro e w2 ⟨rfl, hB⟩)
    go_ret2
    exact ⟨rfl, p, Step.of_below HG.out hB⟩
  | cons x r =>
    obtain ⟨m, rfl⟩ : ∃ m, n = m + 1 := ⟨r.length, by simpa using hlen.symm⟩
    obtain ⟨c, rfl⟩ : ∃ c, cap = c + 1 := ⟨cap - 1, by omega⟩
    have hmc : m ≤ c := by omega
    have hrl : r.length = m := by simpa using hlen
    have hx : There G x := hl x (by simp)
    have hr : AllThere G r := fun y hy => hl y (by simp [hy])
    have hgr := Lib.hid (many_good hT hW hx hr (by rw [hrl]; have : k * m ≤ k * (m + 1) := Nat.mul_le_mul_left _ (by omega); omega))
    have hkm := Lib.hid hm
    obtain ⟨b, off, rfl, hb, hcell⟩ := hs.at (by omega)
    have hc0 := hcell 0 (by omega)
    have hle := hs.le
    rw [show (x :: r).getD 0 0 = x from rfl, Nat.add_zero] at hc0
    have hcr : Hid (∀ i, i < m → w.cell? ⟨b, off + 1 + i, none⟩ = some (.int .u32 (r.getD i 0))) := Lib.hid (fun i hi => by have := hcell (i + 1) (by omega); rw [show off + (i + 1) = off + 1 + i by omega] at this; exact this)
    have hall : Hid (manyN T G x r m = manyG T z G (x :: r)) := Lib.hid (by rw [← hrl]; exact manyN_all T z G x r)
    rw [← hall.out]
    have hsucc := Lib.hid (fun j (hj : j < m) => manyN_succ T G x r j (by omega))
    have HG := Lib.hid hG
    have HC := Lib.hid hc
    have HR := Lib.hid hr
    have hm2 : Hid (∀ j, j ≤ m → G.nodes.length + k * j ≤ 199000) := Lib.hid (fun j hj => by have : k * j ≤ k * (m + 1) := Nat.mul_le_mul_left _ (by omega); omega)
    have hnp : Hid (¬ p.has b) := Lib.hid (hap _ rfl)
    have hm0 : Hid ((manyN T G x r 0).1 = G ∧ (manyN T G x r 0).2 = x) := Lib.hid ⟨rfl, rfl⟩
    clear hG hW hs hl HS hcell hc hT hx hr hlen hm hkm hap hall
    generalize hM : manyN T G x r = M at *
    have hM := Lib.hid hM
    by_cases g0 : c = 0
    · subst g0
      obtain rfl : m = 0 := by omega
      go_enter Tryz.func143, Tryz.ntmps143
      go_wp2_with (go_at_call 147; (with_reducible refine hck.out.mono ?_); rintro e w2 ⟨rfl, hB⟩; have d0 := stepc hB hb hc0)
      go_loopw [11, 32] (fun so i wr => ∃ j : Nat, j ≤ 0 ∧ i = .int .i64 j ∧ so = .int .u32 (M j).2 ∧ ∃ p', Hid (Step p w p' wr (M j).1)) (fun _ i _ => 0 - (intOf i).toNat)
      case atStart => exact ⟨0, Nat.zero_le _, rfl, by rw [hm0.out.2], p, by rw [hm0.out.1]; exact Lib.hid (Step.of_below HG.out hB)⟩
      case round =>
        clear hB d0 hc0
        obtain ⟨j, hj, rfl, rfl, p2, hS⟩ := hrel
        by_cases hjm : j < 0
        · exact absurd hjm (by omega)
        · obtain rfl : j = 0 := by omega
          go_wp2
          go_ret2
          exact ⟨rfl, p2, hS.out⟩
    · go_enter Tryz.func143, Tryz.ntmps143
      go_wp2_with (go_at_call 147; (with_reducible refine hck.out.mono ?_); rintro e w2 ⟨rfl, hB⟩; have d0 := stepc hB hb hc0)
      go_loopw [11, 32] (fun so i wr => ∃ j : Nat, j ≤ m ∧ i = .int .i64 j ∧ so = .int .u32 (M j).2 ∧ ∃ p', Hid (Step p w p' wr (M j).1)) (fun _ i _ => m - (intOf i).toNat)
      case atStart => exact ⟨0, Nat.zero_le _, rfl, by rw [hm0.out.2], p, by rw [hm0.out.1]; exact Lib.hid (Step.of_below HG.out hB)⟩
      case round =>
        clear hB d0 hc0
        obtain ⟨j, hj, rfl, rfl, p2, hS⟩ := hrel
        by_cases hjm : j < m
        · have hcj := (kept_cell hS.out.kept hb hnp.out (o := off + 1 + j)).1.trans (hcr.out j hjm)
          have hgj := hgr.out j (by omega)
          have hlen := hgj.len
          have hmj := hm2.out j (by omega)
          have hyT := Lib.hid (hgj.le.there (HR.out.at (i := j) (by omega)))
          have hsj := hsucc.out j hjm
          have hcall := Lib.hid (HC.out wr p2 _ _ _ hS.out.is hgj.wf (by omega) hgj.there hyT.out)
          rw [← hsj, hS.out.b] at hcall
          generalize r.getD j 0 = y at *
          have HSJ := Lib.hid hsj
          clear hsj
          have hgj := Lib.hid hgj
          clear hlen hmj hgr hm2 hsucc
          go_wp2_with (go_at_call 146; refine hcall.out.mono ?_; rintro e w3 ⟨rfl, p3, hS3⟩)
          go_roundw
          case rel => exact ⟨_, _, _, _, _, _, _, _, _, _, _, _, _, _, _, _, _, _, _, _, _, _, ⟨j + 1, by omega, by go_num, rfl, p3, Lib.hid (hS.out.trans hS3)⟩, rfl⟩
          case measure => simp [intOf]; omega
        · obtain rfl : j = m := by omega
          go_wp2
          go_ret2
          exact ⟨rfl, p2, hS.out⟩

/-- What a call of many literals comes to. -/
def ManyCall (f : FuncId) (T : Gr → Int → Int → Gr × Int) (z : Int) : Prop := ∀ (w : World) (p : Pl) (G : Gr) (a : Option Addr) (n cap : Nat) (l : List Int), Is w p G → Wf G → Row .u32 w a n l → n ≤ cap → (∀ x, a = some x → ¬ p.has x.block) → AllThere G l → G.nodes.length + 3 * n ≤ 199000 →
    Calls Tryz.prog f #[.pointer (some ⟨p.b, 0, none⟩), .slice a n cap] w fun e w' => e = .returned (.tuple #[.int .u32 (manyG T z G l).2, .int .i64 0]) ∧ ∃ p', Step p w p' w' (manyG T z G l).1

theorem And_any : ManyCall 69 andG 1 := by
  intro w p G a n cap l hG hW hs hcap hap hl hm
  have ht := Lib.hid (together_and and_ok and_call hG hW hs hcap hap hl (by omega) 1)
  clear hG hW hs hcap hap hl hm
  generalize manyG andG 1 G l = r at *
  go_enter Tryz.func69, Tryz.ntmps69
  go_wp2_with (go_at_call 143; (with_reducible refine ht.out.mono ?_); rintro e w2 ⟨rfl, p', hS⟩)
  go_ret2
  exact ⟨rfl, p', hS⟩
theorem Or_any : ManyCall 70 orG 0 := by
  intro w p G a n cap l hG hW hs hcap hap hl hm
  have ht := Lib.hid (together_or or_ok or_call hG hW hs hcap hap hl (by omega) 0)
  clear hG hW hs hcap hap hl hm
  generalize manyG orG 0 G l = r at *
  go_enter Tryz.func70, Tryz.ntmps70
  go_wp2_with (go_at_call 143; (with_reducible refine ht.out.mono ?_); rintro e w2 ⟨rfl, p', hS⟩)
  go_ret2
  exact ⟨rfl, p', hS⟩
theorem Xor_any : ManyCall 71 xorG 0 := by
  intro w p G a n cap l hG hW hs hcap hap hl hm
  have ht := Lib.hid (together_xor xor_ok xor_call hG hW hs hcap hap hl (by omega) 0)
  clear hG hW hs hcap hap hl hm
  generalize manyG xorG 0 G l = r at *
  go_enter Tryz.func71, Tryz.ntmps71
  go_wp2_with (go_at_call 143; (with_reducible refine ht.out.mono ?_); rintro e w2 ⟨rfl, p', hS⟩)
  go_ret2
  exact ⟨rfl, p', hS⟩

theorem row3 (w : World) (x y z : Int) (T : Nat) : Row .u32 (w.alloc (.cells #[.int .u32 x, .int .u32 y, .int .u32 z] T)) (some ⟨w.heap.size, 0, none⟩) 3 [x, y, z] := by
  refine ⟨rfl, by omega, .inr ⟨w.heap.size, 0, rfl, by simp, fun i hi => ?_⟩⟩
  match i, hi with
  | 0, _ => simp [go_sem]
  | 1, _ => simp [go_sem]
  | 2, _ => simp [go_sem]
  | i + 3, h => omega
theorem row2 (w : World) (x y : Int) (T : Nat) : Row .u32 (w.alloc (.cells #[.int .u32 x, .int .u32 y] T)) (some ⟨w.heap.size, 0, none⟩) 2 [x, y] := by
  refine ⟨rfl, by omega, .inr ⟨w.heap.size, 0, rfl, by simp, fun i hi => ?_⟩⟩
  match i, hi with
  | 0, _ => simp [go_sem]
  | 1, _ => simp [go_sem]
  | i + 2, h => omega

theorem Mux_any {w : World} {p : Pl} {G : Gr} (hG : Is w p G) (hW : Wf G) (hm : G.nodes.length ≤ 198000) {c a b : Int} (hc : There G c) (ha : There G a) (hb : There G b) :
    Calls Tryz.prog 72 #[.pointer (some ⟨p.b, 0, none⟩), .int .u32 c, .int .u32 a, .int .u32 b] w fun e w' => e = .returned (.tuple #[.int .u32 (muxG G c a b).2, .int .i64 0]) ∧ ∃ p', Step p w p' w' (muxG G c a b).1 := by
  have hB0 : Below w.heap.size w (w.alloc (.cells #[.int .u32 c, .int .u32 a, .int .u32 b] 66)) := (Below.refl _ _).alloc (Nat.le_refl _) _
  have hck := Lib.hid (check_any (hG.below hB0) hW (by omega) (row3 w c a b 66) (cap := 3) (by intro x hx; simp at hx; rcases hx with rfl | rfl | rfl <;> assumption))
  have hno := Lib.hid (fun w => not_any c hc.1 w)
  have he := Lib.hid (fun (w' : World) (hB : Below w.heap.size w w') => either_any (hG.below hB) hW (by omega) hc ha hc.not hb)
  have HB0 := Lib.hid hB0
  have HG := Lib.hid hG
  unfold muxG
  generalize eitherG G c a (notV c) b = r at *
  clear hG hW hc ha hb hB0
  go_enter Tryz.func72, Tryz.ntmps72
  go_wp2_with (first
    | (go_at_call 147; refine hck.out.mono ?_; rintro e w2 ⟨rfl, hb2⟩; have hB := nextw HB0.out hb2)
    | (go_at_call 24; (with_reducible refine (hno.out _).mono ?_); rintro e w3 ⟨rfl, rfl⟩)
    | (go_at_call 148; (with_reducible refine (he.out _ hB).mono ?_); rintro e w3 ⟨rfl, p', hS⟩))
  go_ret2
  exact ⟨rfl, p', Step.front HG.out hB hS⟩

theorem Raw_any {w : World} {p : Pl} {G : Gr} (hG : Is w p G) (hW : Wf G) (hm : G.nodes.length ≤ 198000) {a b : Int} (ha : There G a) (hb : There G b) :
    Calls Tryz.prog 73 #[.pointer (some ⟨p.b, 0, none⟩), .int .u32 a, .int .u32 b] w fun e w' => e = .returned (.tuple #[.int .u32 (gateG G a b).2, .int .i64 0]) ∧ ∃ p', Step p w p' w' (gateG G a b).1 := by
  have hB0 : Below w.heap.size w (w.alloc (.cells #[.int .u32 a, .int .u32 b] 66)) := (Below.refl _ _).alloc (Nat.le_refl _) _
  have hck := Lib.hid (check_any (hG.below hB0) hW (by omega) (row2 w a b 66) (cap := 2) (by intro x hx; simp at hx; rcases hx with rfl | rfl <;> assumption))
  have hor := Lib.hid (fun w => ordered_any (a := a) (b := b) w)
  have hg := Lib.hid (fun (w' : World) (hB : Below w.heap.size w w') => gate_any (hG.below hB) hW (by omega) (ha.hi hb).1 (ha.lo hb).1)
  have HB0 := Lib.hid hB0
  have HG := Lib.hid hG
  unfold gateG
  generalize addN G (hiV a b) (loV a b) = r at *
  generalize hiV a b = x at *
  generalize loV a b = y at *
  clear hG hW ha hb hB0
  go_enter Tryz.func73, Tryz.ntmps73
  go_wp2_with (first
    | (go_at_call 147; refine hck.out.mono ?_; rintro e w2 ⟨rfl, hb2⟩; have hB := nextw HB0.out hb2; clear hb2)
    | (go_at_call 150; (with_reducible refine (hor.out _).mono ?_); rintro e w3 ⟨rfl, hb2⟩; have hB2 := nextw hB hb2; clear hb2)
    | (go_at_call 149; (with_reducible refine (hg.out _ hB2).mono ?_); rintro e w3 ⟨rfl, p', hS⟩))
  go_ret2
  exact ⟨rfl, p', Step.front HG.out hB2 hS⟩
end Go.Proofs.YtafoohdndlhbnaaGreatDoor
end
