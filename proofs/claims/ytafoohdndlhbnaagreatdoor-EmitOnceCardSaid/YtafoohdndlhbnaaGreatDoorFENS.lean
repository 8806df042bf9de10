/-
  EmitTells, plainly: no line has a newline; the text of few steps is not too long.
  EmitOnce, plainly: the lines as lists of words; no word has a blank.
  EmitOnce, plainly: each node above nought is driven once; how many lines of each kind there are.
  EmitOnce: the two maps: what is driven (none twice); how many lines begin with a word.
  EmitOnce, plainly: the kinds of lines: their words, what each drives, how many there are.
  The library's contracts laid at this program's numbers (written by wip/tools/shelf2.py for one seat).
  EmitOnce: strings.Split by one byte: what was joined comes back.
-/
import Derived.Test.YtafoohdndlhbnaaGreatDoorFENR
import Derived.Test.YtafoohdndlhbnaaGreatDoorFENK
import Derived.Test.YtafoohdndlhbnaaGreatDoorFENI
import Derived.Maps.OwnSet
import Derived.Test.YtafoohdndlhbnaaGreatDoorProg
import Derived.Shelf.Strings.SplitCore
import Derived.Shelf.Strings.Search3
import Derived.Shelf.Strings.Count
import Derived.Lib.SplitLaws
section
namespace Go.Proofs.YtafoohdndlhbnaaGreatDoor
open Go.RowKit Go.Maps Bits
set_option maxRecDepth 100000
set_option linter.unusedVariables false

theorem decS_len20 (x : Int) (h0 : 0 ≤ x) (h1 : x < 18446744073709551616) : (decS x).data.toList.length ≤ 20 := by
  obtain ⟨u, rfl⟩ : ∃ u : Nat, x = u := ⟨x.toNat, by omega⟩
  show ((Lib.decDigits u).toArray.toList).length ≤ 20
  rw [List.toList_toArray, Lib.decDigits_length]
  by_cases hu : 1 ≤ u
  · have := Lib.numDigits_eq u hu (by omega)
    split at this <;> omega
  · obtain rfl : u = 0 := by omega
    unfold Lib.nDigits
    simp
theorem spellM (xs : List ByteArray) (M : Nat) (h : ∀ x ∈ xs, x.size ≤ M) : (spellS xs).size ≤ (M + 1) * xs.length := by
  have h1 := join_len (xs.map (·.data.toList)) M (fun y hy => by
    obtain ⟨x, hx, rfl⟩ := List.mem_map.1 hy
    exact h x hx)
  rw [List.length_map] at h1
  exact h1
theorem decS_size20 {x : Int} (h : 0 ≤ x ∧ x < 4294967296) : (decS x).size ≤ 20 := decS_len20 x h.1 (by omega)
theorem busM {s : ByteArray} {b : Bus} (hs : s.size ≤ 80) (hl : b.lits.length ≤ 64) (h : ∀ i, 0 ≤ b.lits.getD i 0 ∧ b.lits.getD i 0 < 4294967296) (hn : b.name.size ≤ 80) : (busS s b).size ≤ 5400 := by
  have h1 := spellM ([s, b.name] ++ (List.range b.lits.length).map (fun i => decS (b.lits.getD i 0))) 80 (fun x hx => by
    rcases List.mem_append.1 hx with hx | hx
    · simp at hx
      rcases hx with rfl | rfl
      · exact hs
      · exact hn
    · obtain ⟨i, -, rfl⟩ := List.mem_map.1 hx
      have := decS_size20 (h i)
      omega)
  have h2 : ([s, b.name] ++ (List.range b.lits.length).map (fun i => decS (b.lits.getD i 0))).length ≤ 66 := by simp; omega
  show (spellS _).size ≤ _
  have := Nat.mul_le_mul_left 81 h2
  omega
theorem textL_lenM (M : Nat) : ∀ (L : List ByteArray), (∀ x ∈ L, x.size ≤ M) → (textL L).length ≤ (M + 1) * L.length
  | [], _ => by simp [textL]
  | x :: L, h => by
    have h1 := textL_lenM M L (fun y hy => h y (by simp [hy]))
    have h2 : x.data.toList.length ≤ M := h x (by simp)
    have e : textL (x :: L) = (x.data.toList ++ [10]) ++ textL L := by simp [textL]
    rw [e, List.length_append, List.length_append, List.length_cons, List.length_cons, List.length_nil, Nat.mul_add]
    omega
theorem textL_app (A B : List ByteArray) : (textL (A ++ B)).length = (textL A).length + (textL B).length := by simp [textL]
theorem begin_size1 (b : Bool) : (sBegin b).size ≤ 20 := by cases b <;> decide
/-- The text of sixty steps is not too long. -/
theorem text_few {N : Nt} {rest : List Int} (hg : Good N rest) (hU : Upto N 60) : (textN N).length ≤ 16777216 := by
  have hok := EmOk.of hg (hU.small (Nat.le_refl _))
  have hg1 := hU.g
  have hg2 := hU.ins
  have hg3 := hU.regs
  have hg4 := hU.outs
  have h0 : (textL [spellS [sModel, N.name]]).length ≤ 200 := by
    have h1 := spellM [sModel, N.name] 80 (fun x hx => by
      simp at hx
      rcases hx with rfl | rfl
      · decide
      · exact mayName_size hg.name)
    have h2 := textL_lenM 162 [spellS [sModel, N.name]] (fun x hx => by simp at hx; subst hx; exact h1)
    simpa using Nat.le_trans h2 (by simp)
  have h1 : (textL (N.ins.map (busS sInput))).length ≤ 324060 := by
    have h2 := textL_lenM 5400 (N.ins.map (busS sInput)) (fun x hx => by
      obtain ⟨b, hb, rfl⟩ := List.mem_map.1 hx
      exact busM (by decide) (hok.ins b hb).1 (hok.ins b hb).2.1 (mayName_size (hg.ins.name b hb)))
    rw [List.length_map] at h2
    have := Nat.mul_le_mul_left 5401 hg2
    omega
  have h2 : (textL (N.outs.map (busS sOutput))).length ≤ 324060 := by
    have h2 := textL_lenM 5400 (N.outs.map (busS sOutput)) (fun x hx => by
      obtain ⟨b, hb, rfl⟩ := List.mem_map.1 hx
      exact busM (by decide) (hok.outs b hb).1 (hok.outs b hb).2.1 (mayName_size (hg.outs.name b hb)))
    rw [List.length_map] at h2
    have := Nat.mul_le_mul_left 5401 hg4
    omega
  have h3 : (textL (N.regs.map regS)).length ≤ 6360 := by
    have h2 := textL_lenM 105 (N.regs.map regS) (fun x hx => by
      obtain ⟨r, hr, rfl⟩ := List.mem_map.1 hx
      obtain ⟨k1, k2, k3⟩ := hok.regs r hr
      have h4 := spellM [sLatch, decS r.q, decS r.d, decS r.en, sBegin r.init] 20 (fun x hx => by
        simp at hx
        rcases hx with rfl | rfl | rfl | rfl | rfl
        · decide
        · exact decS_size20 k1
        · exact decS_size20 k2
        · exact decS_size20 k3
        · exact begin_size1 _)
      simp at h4
      exact h4)
    rw [List.length_map] at h2
    have := Nat.mul_le_mul_left 106 hg3
    omega
  have h4 : (textL (gatesL N.g N.g.nodes.length)).length ≤ 326485 := by
    have h2 := textL_lenM 84 (gatesL N.g N.g.nodes.length) (fun x hx => by
      unfold gatesL at hx
      obtain ⟨j, hj, rfl⟩ := List.mem_map.1 hx
      obtain ⟨hj, hgt⟩ := List.mem_filter.1 hj
      have hj := List.mem_range.1 hj
      obtain ⟨k1, k2⟩ := nodeAt_lits hok.wf hok.few hj hgt
      have h4 := spellM [sAnd, decS (2 * (j : Int)), decS (nodeAt N.g j).a, decS (nodeAt N.g j).b] 20 (fun x hx => by
        simp at hx
        rcases hx with rfl | rfl | rfl | rfl
        · decide
        · exact decS_size20 (by omega)
        · exact decS_size20 k1
        · exact decS_size20 k2)
      simp at h4
      exact h4)
    have h5 := gatesL_len N.g N.g.nodes.length
    have := Nat.mul_le_mul_left 85 (Nat.le_trans h5 hg1)
    omega
  have h5 : (textL [spellS [sEnd]]).length ≤ 10 := by decide
  have e : textN N = textL ([spellS [sModel, N.name]] ++ (N.ins.map (busS sInput) ++ (N.regs.map regS ++ (gatesL N.g N.g.nodes.length ++ (N.outs.map (busS sOutput) ++ [spellS [sEnd]]))))) := rfl
  rw [e, textL_app, textL_app, textL_app, textL_app, textL_app]
  omega
/-- Strings without a newline. -/
def NoNl (x : ByteArray) : Prop := (10 : UInt8) ∉ x.data.toList
theorem digits_nl : ∀ (n u : Nat), u ≤ n → (10 : UInt8) ∉ Lib.decDigits u := by
  intro n
  induction n with
  | zero =>
    intro u hu
    obtain rfl : u = 0 := by omega
    rw [Lib.decDigits]
    decide
  | succ n ih =>
    intro u hu h
    by_cases h9 : 9 < u
    · rw [digits_more h9] at h
      rcases List.mem_append.1 h with h | h
      · exact ih (u / 10) (by omega) h
      · have hd : u % 10 ≤ 9 := by omega
        simp at h
        have := congrArg UInt8.toNat h
        revert this
        generalize u % 10 = d at *
        intro this
        simp at this
        omega
    · rw [digits_one h9] at h
      simp at h
      have := congrArg UInt8.toNat h
      simp at this
      omega
theorem decS_nl (x : Int) : NoNl (decS x) := by
  unfold NoNl
  rw [decS_list]
  exact digits_nl _ _ (Nat.le_refl _)
theorem spell_nl {xs : List ByteArray} (h : ∀ x ∈ xs, NoNl x) : NoNl (spellS xs) := by
  cases xs with
  | nil => unfold NoNl spellS; decide
  | cons x r =>
    unfold NoNl
    rw [spellS_flat]
    intro hm
    simp only [List.toList_toArray] at hm
    rcases List.mem_append.1 hm with hm | hm
    · exact h x (by simp) hm
    · obtain ⟨z, hz, hm⟩ := List.mem_flatMap.1 hm
      rcases List.mem_cons.1 hm with hm | hm
      · revert hm; decide
      · exact h z (by simp [hz]) hm
theorem mayName_nl {s : ByteArray} (h : mayName s = true) : NoNl s := by
  intro hm
  unfold mayName at h
  simp only [Bool.and_eq_true, List.all_eq_true] at h
  have := h.2.2 _ hm
  revert this
  decide
theorem bus_nl {s : ByteArray} {b : Bus} (hs : NoNl s) (hn : mayName b.name = true) : NoNl (busS s b) := by
  refine spell_nl (fun x hx => ?_)
  rcases List.mem_append.1 hx with hx | hx
  · simp at hx
    rcases hx with rfl | rfl
    · exact hs
    · exact mayName_nl hn
  · obtain ⟨i, -, rfl⟩ := List.mem_map.1 hx
    exact decS_nl _
theorem lines_nl {N : Nt} {rest : List Int} (hg : Good N rest) : ∀ x ∈ linesL N, NoNl x := by
  intro x hx
  unfold linesL at hx
  rcases List.mem_cons.1 hx with rfl | hx
  · refine spell_nl (fun x hx => ?_)
    simp at hx
    rcases hx with rfl | rfl
    · unfold NoNl; decide
    · exact mayName_nl hg.name
  rcases List.mem_append.1 hx with hx | hx
  · obtain ⟨b, hb, rfl⟩ := List.mem_map.1 hx
    exact bus_nl (by unfold NoNl; decide) (hg.ins.name b hb)
  rcases List.mem_append.1 hx with hx | hx
  · obtain ⟨r, hr, rfl⟩ := List.mem_map.1 hx
    refine spell_nl (fun x hx => ?_)
    simp at hx
    rcases hx with rfl | rfl | rfl | rfl | rfl
    · unfold NoNl; decide
    · exact decS_nl _
    · exact decS_nl _
    · exact decS_nl _
    · cases r.init <;> (unfold NoNl; decide)
  rcases List.mem_append.1 hx with hx | hx
  · unfold gatesL at hx
    obtain ⟨j, -, rfl⟩ := List.mem_map.1 hx
    refine spell_nl (fun x hx => ?_)
    simp at hx
    rcases hx with rfl | rfl | rfl | rfl
    · unfold NoNl; decide
    · exact decS_nl _
    · exact decS_nl _
    · exact decS_nl _
  rcases List.mem_append.1 hx with hx | hx
  · obtain ⟨b, hb, rfl⟩ := List.mem_map.1 hx
    exact bus_nl (by unfold NoNl; decide) (hg.outs.name b hb)
  · simp at hx
    subst hx
    refine spell_nl (fun x hx => ?_)
    simp at hx
    subst hx
    unfold NoNl
    decide
end Go.Proofs.YtafoohdndlhbnaaGreatDoor
end

section
namespace Go.Proofs.YtafoohdndlhbnaaGreatDoor
open Go.RowKit Go.Maps Bits
set_option maxRecDepth 100000
set_option linter.unusedVariables false

/-- Strings without a blank. -/
def NoBl (x : ByteArray) : Prop := (32 : UInt8) ∉ x.data.toList
theorem digits_bl : ∀ (n u : Nat), u ≤ n → (32 : UInt8) ∉ Lib.decDigits u := by
  intro n
  induction n with
  | zero =>
    intro u hu
    obtain rfl : u = 0 := by omega
    rw [Lib.decDigits]
    decide
  | succ n ih =>
    intro u hu h
    by_cases h9 : 9 < u
    · rw [digits_more h9] at h
      rcases List.mem_append.1 h with h | h
      · exact ih (u / 10) (by omega) h
      · have hd : u % 10 ≤ 9 := by omega
        simp at h
        have := congrArg UInt8.toNat h
        revert this
        generalize u % 10 = d at *
        intro this
        simp at this
        omega
    · rw [digits_one h9] at h
      simp at h
      have := congrArg UInt8.toNat h
      simp at this
      omega
theorem decS_bl (x : Int) : NoBl (decS x) := by
  unfold NoBl
  rw [decS_list]
  exact digits_bl _ _ (Nat.le_refl _)
theorem mayName_bl {s : ByteArray} (h : mayName s = true) : NoBl s := by
  intro hm
  unfold mayName at h
  simp only [Bool.and_eq_true, List.all_eq_true] at h
  have := h.2.2 _ hm
  revert this
  decide
theorem begin_bl (b : Bool) : NoBl (sBegin b) := by cases b <;> (unfold NoBl; decide)
/-- The words of each kind of line. -/
def busWs (s : ByteArray) (b : Bus) : List ByteArray := s :: b.name :: b.lits.map decS
def regWs (r : Rg) : List ByteArray := [sLatch, decS r.q, decS r.d, decS r.en, sBegin r.init]
def gateWs (G : Gr) (j : Nat) : List ByteArray := [sAnd, decS (2 * (j : Int)), decS (nodeAt G j).a, decS (nodeAt G j).b]
def gatesWs (G : Gr) (k : Nat) : List (List ByteArray) := ((List.range k).filter (fun j => (nodeAt G j).gate)).map (gateWs G)
def linesW (N : Nt) : List (List ByteArray) := [sModel, N.name] :: (N.ins.map (busWs sInput) ++ (N.regs.map regWs ++ (gatesWs N.g N.g.nodes.length ++ (N.outs.map (busWs sOutput) ++ [[sEnd]]))))
theorem busW_spell (s : ByteArray) (b : Bus) : spellS (busWs s b) = busS s b := by
  unfold busS busWs
  rw [range_lits]
  rfl
/-- The lines are their words, spelled. -/
theorem linesW_spell (N : Nt) : (linesW N).map spellS = linesL N := by
  have h1 : ∀ (s : ByteArray) (l : List Bus), (l.map (busWs s)).map spellS = l.map (busS s) := by
    intro s l
    rw [List.map_map]
    exact List.map_congr_left (fun b _ => busW_spell s b)
  have h2 : (N.regs.map regWs).map spellS = N.regs.map regS := by
    rw [List.map_map]
    rfl
  have h3 : (gatesWs N.g N.g.nodes.length).map spellS = gatesL N.g N.g.nodes.length := by
    unfold gatesWs gatesL
    rw [List.map_map]
    rfl
  unfold linesW linesL
  rw [List.map_cons, List.map_append, List.map_append, List.map_append, List.map_append, h1, h1, h2, h3]
  rfl
theorem linesW_ne (N : Nt) : ∀ x ∈ linesW N, x ≠ [] := by
  intro x hx
  unfold linesW at hx
  rcases List.mem_cons.1 hx with rfl | hx
  · simp
  rcases List.mem_append.1 hx with hx | hx
  · obtain ⟨b, hb, rfl⟩ := List.mem_map.1 hx
    simp [busWs]
  rcases List.mem_append.1 hx with hx | hx
  · obtain ⟨r, hr, rfl⟩ := List.mem_map.1 hx
    simp [regWs]
  rcases List.mem_append.1 hx with hx | hx
  · obtain ⟨j, hj, rfl⟩ := List.mem_map.1 hx
    simp [gateWs]
  rcases List.mem_append.1 hx with hx | hx
  · obtain ⟨b, hb, rfl⟩ := List.mem_map.1 hx
    simp [busWs]
  · simp at hx
    subst hx
    simp
theorem busW_bl {s : ByteArray} {b : Bus} (hs : NoBl s) (hn : mayName b.name = true) : ∀ y ∈ busWs s b, NoBl y := by
  intro y hy
  unfold busWs at hy
  rcases List.mem_cons.1 hy with rfl | hy
  · exact hs
  rcases List.mem_cons.1 hy with rfl | hy
  · exact mayName_bl hn
  · obtain ⟨x, -, rfl⟩ := List.mem_map.1 hy
    exact decS_bl _
/-- No word has a blank. -/
theorem linesW_bl {N : Nt} {rest : List Int} (hg : Good N rest) : ∀ x ∈ linesW N, ∀ y ∈ x, NoBl y := by
  intro x hx y hy
  unfold linesW at hx
  rcases List.mem_cons.1 hx with rfl | hx
  · simp at hy
    rcases hy with rfl | rfl
    · unfold NoBl; decide
    · exact mayName_bl hg.name
  rcases List.mem_append.1 hx with hx | hx
  · obtain ⟨b, hb, rfl⟩ := List.mem_map.1 hx
    exact busW_bl (by unfold NoBl; decide) (hg.ins.name b hb) y hy
  rcases List.mem_append.1 hx with hx | hx
  · obtain ⟨r, hr, rfl⟩ := List.mem_map.1 hx
    simp [regWs] at hy
    rcases hy with rfl | rfl | rfl | rfl | rfl
    · unfold NoBl; decide
    · exact decS_bl _
    · exact decS_bl _
    · exact decS_bl _
    · exact begin_bl _
  rcases List.mem_append.1 hx with hx | hx
  · obtain ⟨j, hj, rfl⟩ := List.mem_map.1 hx
    simp [gateWs] at hy
    rcases hy with rfl | rfl | rfl | rfl
    · unfold NoBl; decide
    · exact decS_bl _
    · exact decS_bl _
    · exact decS_bl _
  rcases List.mem_append.1 hx with hx | hx
  · obtain ⟨b, hb, rfl⟩ := List.mem_map.1 hx
    exact busW_bl (by unfold NoBl; decide) (hg.outs.name b hb) y hy
  · simp at hx
    subst hx
    simp at hy
    subst hy
    unfold NoBl
    decide
/-- A digit is one of ten bytes. -/
theorem digit_byte {d : Nat} (h : d ≤ 9) : (UInt8.ofNat (48 + d)).toNat = 48 + d := by
  simp
  omega
/-- A number has one spelling. -/
theorem digits_inj : ∀ (n u v : Nat), u ≤ n → Lib.decDigits u = Lib.decDigits v → u = v := by
  intro n
  induction n with
  | zero =>
    intro u v hu h
    obtain rfl : u = 0 := by omega
    by_cases h9 : 9 < v
    · rw [digits_one (by omega : ¬ 9 < 0), digits_more h9] at h
      have h1 : Lib.decDigits (v / 10) ≠ [] := by
        by_cases h8 : 9 < v / 10
        · rw [digits_more h8]; simp
        · rw [digits_one h8]; simp
      have h2 := congrArg List.length h
      simp at h2
      exact absurd h2 (by simpa using h1)
    · rw [digits_one (by omega : ¬ 9 < 0), digits_one h9] at h
      have h1 := congrArg UInt8.toNat (List.cons.inj h).1
      rw [digit_byte (by omega), digit_byte (by omega)] at h1
      omega
  | succ n ih =>
    intro u v hu h
    have hne : ∀ x, Lib.decDigits x ≠ [] := by
      intro x
      by_cases h8 : 9 < x
      · rw [digits_more h8]; simp
      · rw [digits_one h8]; simp
    by_cases h9 : 9 < u
    · by_cases k9 : 9 < v
      · rw [digits_more h9, digits_more k9] at h
        have h1 := List.append_inj' h rfl
        have h2 := ih (u / 10) (v / 10) (by omega) h1.1
        have h3 := congrArg UInt8.toNat (List.cons.inj h1.2).1
        rw [digit_byte (by omega), digit_byte (by omega)] at h3
        omega
      · rw [digits_more h9, digits_one k9] at h
        have h2 := congrArg List.length h
        simp at h2
        exact absurd h2 (hne _)
    · by_cases k9 : 9 < v
      · rw [digits_one h9, digits_more k9] at h
        have h2 := congrArg List.length h
        simp at h2
        exact absurd h2 (hne _)
      · rw [digits_one h9, digits_one k9] at h
        have h1 := congrArg UInt8.toNat (List.cons.inj h).1
        rw [digit_byte (by omega), digit_byte (by omega)] at h1
        omega
theorem decS_inj {x y : Int} (hx : 0 ≤ x) (hy : 0 ≤ y) (h : decS x = decS y) : x = y := by
  have h1 := congrArg (fun s : ByteArray => s.data.toList) h
  simp only [decS_list] at h1
  have := digits_inj _ _ _ (Nat.le_refl _) h1
  omega
end Go.Proofs.YtafoohdndlhbnaaGreatDoor
end

section
namespace Go.Proofs.YtafoohdndlhbnaaGreatDoor
open Go.RowKit Go.Maps Bits
set_option maxRecDepth 100000
set_option linter.unusedVariables false

/-- The gates' numbers below k. -/
def gatesN (G : Gr) (k : Nat) : List Nat := (List.range k).filter (fun j => (nodeAt G j).gate)
/-- What the lines drive: inputs and registers, then gates. -/
def drvL (N : Nt) : List Int := takenN N ++ (gatesN N.g N.g.nodes.length).map (fun j : Nat => 2 * (j : Int))
theorem nodeAt_get {G : Gr} {j : Nat} (h : j < G.nodes.length) : G.nodes[j]? = some (nodeAt G j) := by
  unfold nodeAt
  simp [List.getD, h]
theorem gatesN_mem {G : Gr} {k j : Nat} : j ∈ gatesN G k ↔ j < k ∧ (nodeAt G j).gate = true := by
  unfold gatesN
  simp
theorem taken_mem {N : Nt} (hg : Good N []) (x : Int) : x ∈ takenN N ↔ x ∈ inLits N.g := by
  have h := hg.drv.mem_iff (a := x)
  rw [List.append_nil] at h
  exact h
theorem taken_plain {N : Nt} (hg : Good N []) {j : Nat} (hj : 2 * (j : Int) ∈ takenN N) : 0 < j ∧ j < N.g.nodes.length ∧ (nodeAt N.g j).gate = false := by
  have h := (taken_mem hg _).1 hj
  obtain ⟨i, e, h0, h1, hi⟩ := inLits_mem hg.wf h
  have e2 : i = j := by omega
  subst e2
  refine ⟨h0, h1, ?_⟩
  obtain ⟨k, hk, hv⟩ := List.getElem_of_mem hi
  obtain ⟨i', e', -, n, hn, hgt⟩ := hg.wf.ins k _ (List.getElem?_eq_getElem hk)
  rw [hv] at e'
  have e3 : i' = i := by omega
  subst e3
  rw [nodeAt_get h1] at hn
  rw [Option.some.inj hn]
  exact hgt
theorem drv_nodup {N : Nt} (hg : Good N []) : (drvL N).Nodup := by
  unfold drvL
  refine List.nodup_append.2 ⟨?_, ?_, ?_⟩
  · have := hg.left.nodup
    rw [List.append_nil] at this
    exact this
  · unfold gatesN
    have h1 : ((List.range N.g.nodes.length).filter (fun j => (nodeAt N.g j).gate)).Nodup := List.Pairwise.filter _ List.nodup_range
    unfold List.Nodup at h1 ⊢
    rw [List.pairwise_map]
    exact h1.imp (fun {a b} hab e => hab (by omega))
  · intro a ha b hb e
    obtain ⟨j, hj, rfl⟩ := List.mem_map.1 hb
    subst e
    have h1 := (taken_plain hg ha).2.2
    have h2 := (gatesN_mem.1 hj).2
    rw [h1] at h2
    cases h2
theorem drv_mem {N : Nt} (hg : Good N []) (x : Int) : x ∈ drvL N ↔ ∃ j : Nat, 1 ≤ j ∧ j < N.g.nodes.length ∧ x = 2 * (j : Int) := by
  unfold drvL
  rw [List.mem_append]
  constructor
  · rintro (h | h)
    · obtain ⟨i, e, h0, h1, -⟩ := inLits_mem hg.wf ((taken_mem hg x).1 h)
      exact ⟨i, h0, h1, e⟩
    · obtain ⟨j, hj, rfl⟩ := List.mem_map.1 h
      obtain ⟨h1, h2⟩ := gatesN_mem.1 hj
      refine ⟨j, ?_, h1, rfl⟩
      rcases Nat.eq_zero_or_pos j with rfl | h
      · have h3 := nodeAt_get h1
        rw [hg.wf.zero] at h3
        rw [← Option.some.inj h3] at h2
        cases h2
      · exact h
  · rintro ⟨j, h0, h1, rfl⟩
    have hn := nodeAt_get h1
    cases hgt : (nodeAt N.g j).gate with
    | true => exact Or.inr (List.mem_map.2 ⟨j, gatesN_mem.2 ⟨h1, hgt⟩, rfl⟩)
    | false =>
      obtain ⟨k, hk⟩ := hg.wf.all j _ h0 hn hgt
      refine Or.inl ((taken_mem hg _).2 ?_)
      unfold inLits
      exact List.mem_map.2 ⟨_, List.mem_of_getElem? hk, rfl⟩
/-- Each node above nought is driven once. -/
theorem drv_once {N : Nt} (hg : Good N []) {j : Nat} (h0 : 1 ≤ j) (h1 : j < N.g.nodes.length) : (drvL N).count (2 * (j : Int)) = 1 := by
  have h2 := List.nodup_iff_count.1 (drv_nodup hg) (2 * (j : Int))
  have h3 := List.count_pos_iff.2 ((drv_mem hg _).2 ⟨j, h0, h1, rfl⟩)
  omega
theorem drv_len {N : Nt} (hg : Good N []) : (drvL N).length = N.g.nodes.length - 1 := by
  have hp : (drvL N).Perm ((List.range (N.g.nodes.length - 1)).map (fun j => 2 * ((j + 1 : Nat) : Int))) := by
    rw [List.perm_iff_count]
    intro x
    have hn2 : ((List.range (N.g.nodes.length - 1)).map (fun j => 2 * ((j + 1 : Nat) : Int))).Nodup := by
      have h1 : (List.range (N.g.nodes.length - 1)).Nodup := List.nodup_range
      unfold List.Nodup at h1 ⊢
      rw [List.pairwise_map]
      exact h1.imp (fun {a b} hab e => hab (by omega))
    have c1 := List.nodup_iff_count.1 (drv_nodup hg) x
    have c2 := List.nodup_iff_count.1 hn2 x
    have hm : x ∈ drvL N ↔ x ∈ (List.range (N.g.nodes.length - 1)).map (fun j => 2 * ((j + 1 : Nat) : Int)) := by
      rw [drv_mem hg]
      constructor
      · rintro ⟨j, h0, h1, rfl⟩
        exact List.mem_map.2 ⟨j - 1, List.mem_range.2 (by omega), by omega⟩
      · intro h
        obtain ⟨j, hj, rfl⟩ := List.mem_map.1 h
        have := List.mem_range.1 hj
        exact ⟨j + 1, by omega, by omega, rfl⟩
    by_cases hx : x ∈ drvL N
    · have k1 := List.count_pos_iff.2 hx
      have k2 := List.count_pos_iff.2 (hm.1 hx)
      omega
    · rw [List.count_eq_zero.2 hx, List.count_eq_zero.2 (fun h => hx (hm.2 h))]
  rw [hp.length_eq]
  simp
end Go.Proofs.YtafoohdndlhbnaaGreatDoor
end

section
namespace Go.Proofs.YtafoohdndlhbnaaGreatDoor
open Go.RowKit Go.Maps Bits
set_option maxRecDepth 100000
set_option linter.unusedVariables false

/-- Numbers of 64 bits that are literals. -/
def dkey (x : Int) : Lit := .int .u64 x
theorem dlaw : Keyed Tryz.prog 49 := int_keyed Tryz.underlying49
theorem d_wf {x : Int} (h : 0 ≤ x ∧ x < 4294967296) : (Lit.int .u64 x).wf = true := WalkArith.wf_u64 ⟨by omega, by omega⟩
theorem dkey_of {x : Int} (h : 0 ≤ x ∧ x < 4294967296) : keyOf Tryz.prog 49 (.int .u64 x) = some (dkey x) := keyOf_int_mk Tryz.underlying49 (d_wf h)
theorem dkey_key {x : Int} (h : 0 ≤ x ∧ x < 4294967296) : WideAt.IsKeyLit (dkey x) := dlaw.key (dkey_of h)
theorem dkey_ne {x y : Int} (h : ¬ x = y) : dkey x ≠ dkey y := fun e => h (by unfold dkey at e; exact (Lit.int.inj e).2)
theorem zeroD (w : World) : (zeroValue 3).run Tryz.prog w = .ok (.int .i64 0) w := by kernel_rfl
/-- A map in which each of l stands with 1. -/
structure Dvn (D : DataW Unit) (l : List Int) : Prop where
  tidy : Tidy D
  has : ∀ x, (0 ≤ x ∧ x < 4294967296) → has D (dkey x) = decide (x ∈ l)
  val : ∀ x z, (0 ≤ x ∧ x < 4294967296) → x ∈ l → D.atKey (dkey x) z = .lit (.int .i64 1)
  size : Maps.size D = l.length
theorem Dvn.nil : Dvn (.map []) [] := ⟨tidy_empty, fun x _ => by simp [Maps.has], fun x z _ h => by simp at h, rfl⟩
theorem Dvn.put {D : DataW Unit} {l : List Int} (h : Dvn D l) {x : Int} (hx : 0 ≤ x ∧ x < 4294967296) (hn : x ∉ l) : Dvn (D.put (dkey x) (.lit (.int .i64 1))) (l ++ [x]) := by
  refine ⟨h.tidy.put (dkey_key hx) _, fun y hy => ?_, fun y z hy hm => ?_, ?_⟩
  · by_cases e : y = x
    · subst e; rw [has_put_same h.tidy.isMap (dkey_key hy)]; simp
    · rw [has_put_other (dkey_ne e), h.has y hy]; simp [e]
  · by_cases e : y = x
    · subst e; exact atKey_put_same h.tidy.isMap (dkey_key hy) _ _
    · rw [atKey_put_other (dkey_ne e)]
      exact h.val y z hy (by simpa [e] using hm)
  · rw [size_put h.tidy, h.has x hx, h.size]
    simp [hn]
theorem Dvn.perm {D : DataW Unit} {l m : List Int} (h : Dvn D l) (hp : l.Perm m) : Dvn D m :=
  ⟨h.tidy, fun x hx => by rw [h.has x hx]; simp [hp.mem_iff], fun x z hx hm => h.val x z hx (hp.mem_iff.2 hm), by rw [h.size, hp.length_eq]⟩
theorem Dvn.look {D : DataW Unit} {l : List Int} (h : Dvn D l) {M n : Nat} {wr : World} (ho : wr.ownsMap Tryz.prog 49 (plainElem Tryz.prog 3) M n D) {x : Int} (hx : 0 ≤ x ∧ x < 4294967296) {v : Int} (hv : v = if x ∈ l then 1 else 0) :
    (Instr.lookup 45 (.map (some M)) (.int .u64 x) false).run Tryz.prog wr = .ok (.int .i64 v) wr := by
  obtain ⟨c, hrun, hat, -⟩ := ho.lookup_int dlaw Tryz.underlying45 Tryz.underlying3 (zeroD wr) (dkey_of hx)
  have e : c = v := by
    by_cases hm : x ∈ l
    · rw [h.val x _ hx hm] at hat
      rw [hv, if_pos hm]
      have := DataW.lit.inj hat
      exact (Lit.int.inj this).2.symm
    · rw [atKey_of_not_has (by rw [h.has x hx]; simp [hm])] at hat
      rw [hv, if_neg hm]
      have := DataW.lit.inj hat
      exact (Lit.int.inj this).2.symm
  rw [e] at hrun
  exact hrun
/-- How often each string was counted. -/
def cntS (l : List ByteArray) (s : ByteArray) : Nat := l.countP (fun t => decide (t = s))
theorem cntS_one (t s : ByteArray) : cntS [t] s = if t = s then 1 else 0 := by
  unfold cntS
  by_cases e : t = s <;> simp [e]
theorem cntS_app (l m : List ByteArray) (s : ByteArray) : cntS (l ++ m) s = cntS l s + cntS m s := List.countP_append
structure Cnt (D : DataW Unit) (l : List ByteArray) : Prop where
  map : IsMap D
  at_ : ∀ s : ByteArray, s.size ≤ maxLen → D.atKey (skey s) (.lit (.int .i64 0)) = .lit (.int .i64 (cntS l s : Nat))
theorem Cnt.nil : Cnt (.map []) [] := ⟨isMap_empty, fun _ _ => rfl⟩
theorem skey_ne {s t : ByteArray} (h : ¬ s = t) : skey s ≠ skey t := fun e => h (ByteArray.ext (by unfold skey at e; simpa using e))
theorem Cnt.put {D : DataW Unit} {l : List ByteArray} (h : Cnt D l) {s : ByteArray} (hs : s.size ≤ maxLen) : Cnt (D.put (skey s) (.lit (.int .i64 ((cntS l s : Nat) + 1)))) (l ++ [s]) := by
  refine ⟨h.map.put _ _, fun t ht => ?_⟩
  by_cases e : t = s
  · subst e
    rw [atKey_put_same h.map (slaw.key (skey_of t ht)), cntS_app, cntS_one, if_pos rfl]
    rfl
  · rw [atKey_put_other (skey_ne e), h.at_ t ht]
    rw [cntS_app, cntS_one, if_neg (fun e' => e e'.symm)]
    rfl
theorem Cnt.look {D : DataW Unit} {l : List ByteArray} (h : Cnt D l) {M n : Nat} {wr : World} (ho : wr.ownsMap Tryz.prog 9 (plainElem Tryz.prog 3) M n D) {s : ByteArray} (hs : s.size ≤ maxLen) {v : Nat} (hv : cntS l s = v) :
    (Instr.lookup 46 (.map (some M)) (.string s) false).run Tryz.prog wr = .ok (.int .i64 (v : Int)) wr := by
  obtain ⟨c, hrun, hat, -⟩ := ho.lookup_int slaw Tryz.underlying46 Tryz.underlying3 (zeroD wr) (skey_of s hs)
  rw [h.at_ s hs, hv] at hat
  have := DataW.lit.inj hat
  rw [(Lit.int.inj this).2]
  exact hrun
end Go.Proofs.YtafoohdndlhbnaaGreatDoor
end

section
namespace Go.Proofs.YtafoohdndlhbnaaGreatDoor
open Go.RowKit Go.Maps Bits
set_option maxRecDepth 100000
set_option linter.unusedVariables false

inductive LnK where
  | model
  | inp (b : Bus)
  | latch (r : Rg)
  | gate (j : Nat)
  | out (b : Bus)
  | fin
def LnK.words (N : Nt) : LnK → List ByteArray
  | .model => [sModel, N.name]
  | .inp b => busWs sInput b
  | .latch r => regWs r
  | .gate j => gateWs N.g j
  | .out b => busWs sOutput b
  | .fin => [sEnd]
def LnK.first : LnK → ByteArray
  | .model => sModel
  | .inp _ => sInput
  | .latch _ => sLatch
  | .gate _ => sAnd
  | .out _ => sOutput
  | .fin => sEnd
/-- The numbers that a line drives. -/
def LnK.drives : LnK → List Int
  | .inp b => b.lits
  | .latch r => [r.q]
  | .gate j => [2 * (j : Int)]
  | _ => []
def lnsK (N : Nt) : List LnK := .model :: (N.ins.map .inp ++ (N.regs.map .latch ++ ((gatesN N.g N.g.nodes.length).map .gate ++ (N.outs.map .out ++ [.fin]))))
theorem LnK.words_first (N : Nt) (k : LnK) : (k.words N)[0]? = some k.first := by cases k <;> rfl
theorem lnsK_words (N : Nt) : (lnsK N).map (LnK.words N) = linesW N := by
  unfold lnsK linesW gatesWs gatesN
  simp only [List.map_cons, List.map_append, List.map_map, List.map_nil]
  rfl
theorem lnsK_len (N : Nt) : (lnsK N).length = (linesW N).length := by rw [← lnsK_words, List.length_map]
theorem lnsK_drives (N : Nt) : (lnsK N).flatMap LnK.drives = drvL N := by
  unfold lnsK drvL takenN litsOf
  have h1 : ∀ l : List Bus, (l.map LnK.inp).flatMap LnK.drives = l.flatMap (fun b => b.lits) := fun l => by rw [List.flatMap_map]; rfl
  have h2 : ∀ l : List Rg, (l.map LnK.latch).flatMap LnK.drives = l.map (fun r => r.q) := by
    intro l
    induction l with
    | nil => rfl
    | cons r l ih => rw [List.map_cons, List.flatMap_cons, ih]; rfl
  have h3 : ∀ l : List Nat, (l.map LnK.gate).flatMap LnK.drives = l.map (fun j : Nat => 2 * (j : Int)) := by
    intro l
    induction l with
    | nil => rfl
    | cons r l ih => rw [List.map_cons, List.flatMap_cons, ih]; rfl
  have h4 : ∀ l : List Bus, (l.map LnK.out).flatMap LnK.drives = [] := by
    intro l
    induction l with
    | nil => rfl
    | cons r l ih => rw [List.map_cons, List.flatMap_cons, ih]; rfl
  rw [List.flatMap_cons, List.flatMap_append, List.flatMap_append, List.flatMap_append, List.flatMap_append, h1, h2, h3, h4]
  simp [LnK.drives]
theorem cnt_const {α : Type} (f : α → LnK) (c : ByteArray) (hf : ∀ x, (f x).first = c) (l : List α) (s : ByteArray) : cntS ((l.map f).map LnK.first) s = if c = s then l.length else 0 := by
  induction l with
  | nil => simp [cntS]
  | cons x l ih =>
    have e : ((x :: l).map f).map LnK.first = [c] ++ (l.map f).map LnK.first := by simp [hf]
    rw [e, cntS_app, cntS_one, ih]
    by_cases hc : c = s
    · rw [if_pos hc, if_pos hc, if_pos hc, List.length_cons]; omega
    · rw [if_neg hc, if_neg hc, if_neg hc]
/-- How many lines begin with s. -/
theorem cnt_lines (N : Nt) (s : ByteArray) : cntS ((lnsK N).map LnK.first) s =
    (if sModel = s then 1 else 0) + ((if sInput = s then N.ins.length else 0) + ((if sLatch = s then N.regs.length else 0) + ((if sAnd = s then (gatesN N.g N.g.nodes.length).length else 0) + ((if sOutput = s then N.outs.length else 0) + (if sEnd = s then 1 else 0))))) := by
  unfold lnsK
  have e : ∀ r : List LnK, (LnK.model :: r).map LnK.first = [sModel] ++ r.map LnK.first := fun r => rfl
  rw [e, List.map_append, List.map_append, List.map_append, List.map_append, cntS_app, cntS_app, cntS_app, cntS_app, cntS_app, cntS_one,
    cnt_const LnK.inp sInput (fun _ => rfl), cnt_const LnK.latch sLatch (fun _ => rfl), cnt_const LnK.gate sAnd (fun _ => rfl), cnt_const LnK.out sOutput (fun _ => rfl)]
  have e2 : [LnK.fin].map LnK.first = [sEnd] := rfl
  rw [e2, cntS_one]
theorem lnsK_zero (N : Nt) : (lnsK N)[0]? = some .model := rfl
theorem lnsK_last (N : Nt) : (lnsK N)[(lnsK N).length - 1]? = some .fin := by
  unfold lnsK
  rw [← List.cons_append, ← List.append_assoc, ← List.append_assoc, ← List.append_assoc]
  rw [List.length_append, List.length_singleton, Nat.add_sub_cancel, List.getElem?_append_right (Nat.le_refl _), Nat.sub_self]
  rfl
/-- What a line of a netlist is, and where. -/
theorem lnsK_at {N : Nt} {i : Nat} {k : LnK} (h : (lnsK N)[i]? = some k) :
    (k = .model ∧ i = 0) ∨ (∃ b ∈ N.ins, k = .inp b) ∨ (∃ r ∈ N.regs, k = .latch r) ∨ (∃ j ∈ gatesN N.g N.g.nodes.length, k = .gate j) ∨ (∃ b ∈ N.outs, k = .out b) ∨ (k = .fin ∧ i + 1 = (lnsK N).length) := by
  rcases Nat.eq_zero_or_pos i with rfl | h0
  · rw [lnsK_zero] at h
    exact Or.inl ⟨(Option.some.inj h).symm, rfl⟩
  · by_cases hl : i + 1 = (lnsK N).length
    · have h2 := lnsK_last N
      rw [show (lnsK N).length - 1 = i by omega, h] at h2
      exact Or.inr (Or.inr (Or.inr (Or.inr (Or.inr ⟨Option.some.inj h2, hl⟩))))
    · have hlt := (List.getElem?_eq_some_iff.1 h).1
      obtain ⟨i', rfl⟩ : ∃ i', i = i' + 1 := ⟨i - 1, by omega⟩
      have h3 : (N.ins.map LnK.inp ++ (N.regs.map LnK.latch ++ ((gatesN N.g N.g.nodes.length).map LnK.gate ++ N.outs.map LnK.out)))[i']? = some k := by
        have e : lnsK N = (LnK.model :: (N.ins.map LnK.inp ++ (N.regs.map LnK.latch ++ ((gatesN N.g N.g.nodes.length).map LnK.gate ++ N.outs.map LnK.out)))) ++ [LnK.fin] := by
          unfold lnsK
          simp
        rw [e] at h hl
        rw [List.length_append, List.length_singleton] at hl
        rw [e, List.length_append, List.length_singleton] at hlt
        rw [List.getElem?_append_left (by omega), List.getElem?_cons_succ] at h
        exact h
      have hm := List.mem_of_getElem? h3
      rw [List.mem_append, List.mem_append, List.mem_append] at hm
      rcases hm with hm | hm | hm | hm
      · obtain ⟨b, hb, rfl⟩ := List.mem_map.1 hm
        exact Or.inr (Or.inl ⟨b, hb, rfl⟩)
      · obtain ⟨b, hb, rfl⟩ := List.mem_map.1 hm
        exact Or.inr (Or.inr (Or.inl ⟨b, hb, rfl⟩))
      · obtain ⟨b, hb, rfl⟩ := List.mem_map.1 hm
        exact Or.inr (Or.inr (Or.inr (Or.inl ⟨b, hb, rfl⟩)))
      · obtain ⟨b, hb, rfl⟩ := List.mem_map.1 hm
        exact Or.inr (Or.inr (Or.inr (Or.inr (Or.inl ⟨b, hb, rfl⟩))))
end Go.Proofs.YtafoohdndlhbnaaGreatDoor
end

section
namespace Go.Proofs.YtafoohdndlhbnaaGreatDoor
open Go.RowKit Go.Shelf
set_option maxRecDepth 100000

def layGenSplit_ren : Go.Shelf.Ren := ⟨fun | 221 => 53 | 268 => 129 | 138 => 130 | 143 => 46 | 195 => 193 | 197 => 194 | 218 => 195 | 219 => 121 | 260 => 233 | 217 => 189 | 225 => 190 | 224 => 191 | 267 => 192 | 266 => 231 | 314 => 232 | n => n, fun | 9 => 9 | 3 => 3 | 31 => 37 | 4 => 4 | 0 => 0 | 105 => 272 | 21 => 21 | 5 => 5 | 46 => 166 | 119 => 326 | 139 => 329 | 138 => 328 | 146 => 257 | 51 => 65 | n => n, fun | 1 => 0 | 3 => 3 | 4 => 4 | n => n⟩
theorem layGenSplit : Go.Proofs.Lays.n221 Tryz.prog layGenSplit_ren := {
  mixed := by kernel_rfl,
  f138 := Tryz.func130.trans (congrArg some (by kernel_rfl)),
  f143 := Tryz.func46.trans (congrArg some (by kernel_rfl)),
  f195 := Tryz.func193.trans (congrArg some (by kernel_rfl)),
  f197 := Tryz.func194.trans (congrArg some (by kernel_rfl)),
  f217 := Tryz.func189.trans (congrArg some (by kernel_rfl)),
  f218 := Tryz.func195.trans (congrArg some (by kernel_rfl)),
  f219 := Tryz.func121.trans (congrArg some (by kernel_rfl)),
  f221 := Tryz.func53.trans (congrArg some (by kernel_rfl)),
  f224 := Tryz.func191.trans (congrArg some (by kernel_rfl)),
  f225 := Tryz.func190.trans (congrArg some (by kernel_rfl)),
  f260 := Tryz.func233.trans (congrArg some (by kernel_rfl)),
  f266 := Tryz.func231.trans (congrArg some (by kernel_rfl)),
  f267 := Tryz.func192.trans (congrArg some (by kernel_rfl)),
  f268 := Tryz.func129.trans (congrArg some (by kernel_rfl)),
  f314 := Tryz.func232.trans (congrArg some (by kernel_rfl)),
  t0 := Tryz.underlying0,
  a0 := Tryz.isAgg0,
  z0 := Tryz.sizeOf0,
  v0 := Tryz.zeroValue0,
  t3 := Tryz.underlying3,
  a3 := Tryz.isAgg3,
  z3 := Tryz.sizeOf3,
  v3 := Tryz.zeroValue3,
  t4 := Tryz.underlying4,
  a4 := Tryz.isAgg4,
  z4 := Tryz.sizeOf4,
  v4 := Tryz.zeroValue4,
  t5 := Tryz.underlying5,
  a5 := Tryz.isAgg5,
  z5 := Tryz.sizeOf5,
  v5 := Tryz.zeroValue5,
  t9 := Tryz.underlying9,
  a9 := Tryz.isAgg9,
  z9 := Tryz.sizeOf9,
  v9 := Tryz.zeroValue9,
  t21 := Tryz.underlying21,
  a21 := Tryz.isAgg21,
  z21 := Tryz.sizeOf21,
  v21 := Tryz.zeroValue21,
  t31 := Tryz.underlying37,
  a31 := Tryz.isAgg37,
  z31 := Tryz.sizeOf37,
  v31 := Tryz.zeroValue37,
  t46 := Tryz.underlying166,
  a46 := Tryz.isAgg166,
  z46 := Tryz.sizeOf166,
  v46 := Tryz.zeroValue166,
  t51 := Tryz.underlying65,
  a51 := Tryz.isAgg65,
  z51 := Tryz.sizeOf65,
  v51 := Tryz.zeroValue65,
  t105 := Tryz.underlying272,
  a105 := Tryz.isAgg272,
  z105 := Tryz.sizeOf272,
  v105 := Tryz.zeroValue272,
  t119 := Tryz.underlying326,
  a119 := Tryz.isAgg326,
  z119 := Tryz.sizeOf326,
  t138 := Tryz.underlying328,
  a138 := Tryz.isAgg328,
  z138 := Tryz.sizeOf328,
  v138 := Tryz.zeroValue328,
  t139 := Tryz.underlying329,
  a139 := Tryz.isAgg329,
  z139 := Tryz.sizeOf329,
  v139 := Tryz.zeroValue329,
  t146 := Tryz.underlying257,
  a146 := Tryz.isAgg257,
  z146 := Tryz.sizeOf257,
  v146 := Tryz.zeroValue257,
  g1 := by kernel_rfl,
  g3 := by kernel_rfl,
  g4 := by kernel_rfl }

end Go.Proofs.YtafoohdndlhbnaaGreatDoor
end

section
namespace Go.Proofs.YtafoohdndlhbnaaGreatDoor
open Go.RowKit Go.Maps Bits Go.Shelf
set_option maxRecDepth 100000
set_option linter.unusedVariables false

theorem indexB_byte (x : ByteArray) (c : UInt8) : Lib.indexB x ⟨#[c]⟩ = Lib.indexByte x.data.toList c := Lib.index_one x.data.toList c
theorem countB_byte (x : ByteArray) (c : UInt8) : Lib.countB x ⟨#[c]⟩ = x.data.toList.count c := Lib.count_one c x.data.toList
theorem split_any (s : ByteArray) (c : UInt8) (w : World) (hs : s.size < 4294967281) :
    Calls Tryz.prog 18 #[.string s, .string ⟨#[c]⟩] w fun e w' => e = .returned (.slice (some ⟨w.heap.size, 0, none⟩) (Lib.splitB ⟨#[c]⟩ 0 (Lib.countB s ⟨#[c]⟩) s).length (Lib.countB s ⟨#[c]⟩ + 1)) ∧ w' = w.alloc (.cells (Lib.cellsOf (Lib.splitB ⟨#[c]⟩ 0 (Lib.countB s ⟨#[c]⟩) s) (Lib.countB s ⟨#[c]⟩ + 1)) 9) := by
  have hle := Lib.countB_le ⟨#[c]⟩ (Nat.le_refl 1) s.size s (Nat.le_refl _)
  have hg := Lib.hid (Any.strings_genSplit_core layGenSplit (by kernel_rfl) s ⟨#[c]⟩ 0 (-1) (Lib.countB s ⟨#[c]⟩ + 1) w hs (Nat.le_refl 1) (Nat.zero_le _)
    (fun x cc hx => (Any.strings_Index_one { layGenSplit with } x c _).mono (fun e w' hh => ⟨by rw [hh.1, indexB_byte], hh.2⟩))
    ((Any.strings_Count_one { layGenSplit with } s c w).mono (fun e w' hh => ⟨by rw [hh.1, countB_byte]; rfl, hh.2⟩))
    (by decide) (by decide) (by rw [if_pos (by decide)]; omega))
  have hg := Lib.hid (show Calls Tryz.prog 53 #[.string s, .string ⟨#[c]⟩, .int .i64 0, .int .i64 (-1)] w _ from hg.out)
  go_enter Tryz.func18, Tryz.ntmps18
  go_wp2_with (go_at_call 53; (with_reducible refine hg.out.mono ?_); rintro e w' ⟨rfl, hw⟩)
  go_ret
  exact ⟨rfl, rfl⟩
/-- Pieces with a byte between them. -/
def joinC (c : UInt8) : List ByteArray → List UInt8
  | [] => []
  | [x] => x.data.toList
  | x :: y :: r => x.data.toList ++ c :: joinC c (y :: r)
theorem index_hit : ∀ (l r : List UInt8) (c : UInt8), c ∉ l → Lib.indexByte (l ++ c :: r) c = l.length
  | [], r, c, _ => by simp [Lib.indexByte]
  | b :: l, r, c, h => by
    have h1 : (b == c) = false := by
      have h2 : ¬ b = c := fun e => h (by simp [e])
      simpa using h2
    have h2 := index_hit l r c (fun hm => h (by simp [hm]))
    have h3 : (Lib.indexByte (l ++ c :: r) c == -1) = false := by
      rw [h2]
      have : ¬ ((l.length : Int) = -1) := by omega
      exact beq_eq_false_iff_ne.2 this
    show Lib.indexByte (b :: (l ++ c :: r)) c = _
    rw [Lib.indexByte, if_neg (by rw [h1]; simp), if_neg (by rw [h3]; simp), h2]
    simp
theorem splitC : ∀ (xs : List ByteArray) (c : UInt8), (∀ x ∈ xs, c ∉ x.data.toList) → xs ≠ [] → Lib.splitB ⟨#[c]⟩ 0 (xs.length - 1) ⟨(joinC c xs).toArray⟩ = xs
  | [], c, _, h => absurd rfl h
  | [x], c, h, _ => by
    show [(⟨x.data.toList.toArray⟩ : ByteArray)] = [x]
    rw [← arr_list]
  | x :: y :: r, c, h, _ => by
    have hx := h x (by simp)
    have hi : Lib.indexB ⟨(joinC c (x :: y :: r)).toArray⟩ ⟨#[c]⟩ = ((x.size : Nat) : Int) := by
      rw [indexB_byte]
      have := index_hit x.data.toList (joinC c (y :: r)) c hx
      simpa [joinC] using this
    have ih := splitC (y :: r) c (fun z hz => h z (by simp [hz])) (by simp)
    show Lib.splitB ⟨#[c]⟩ 0 (r.length + 1) _ = _
    rw [Lib.splitB_hit _ _ _ _ _ hi]
    have e0 : joinC c (x :: y :: r) = x.data.toList ++ c :: joinC c (y :: r) := rfl
    have hxs : x.data.toList.length = x.size := rfl
    have e1 : (⟨(joinC c (x :: y :: r)).toArray⟩ : ByteArray).extract 0 (x.size + 0) = x := by
      refine ByteArray.ext ?_
      rw [ByteArray.data_extract]
      refine Array.ext' ?_
      rw [Array.toList_extract, e0]
      show ((x.data.toList ++ c :: joinC c (y :: r)).drop 0).take x.data.toList.length = _
      rw [List.drop_zero, List.take_left']
      rfl
    have e2 : (⟨(joinC c (x :: y :: r)).toArray⟩ : ByteArray).extract (x.size + (⟨#[c]⟩ : ByteArray).size) (⟨(joinC c (x :: y :: r)).toArray⟩ : ByteArray).size = ⟨(joinC c (y :: r)).toArray⟩ := by
      refine ByteArray.ext ?_
      rw [ByteArray.data_extract]
      refine Array.ext' ?_
      rw [Array.toList_extract, e0]
      have h1 : (⟨#[c]⟩ : ByteArray).size = 1 := rfl
      have h2 : (⟨(x.data.toList ++ c :: joinC c (y :: r)).toArray⟩ : ByteArray).size = x.size + 1 + (joinC c (y :: r)).length := by
        show (x.data.toList ++ c :: joinC c (y :: r)).toArray.size = _
        rw [List.size_toArray, List.length_append, List.length_cons, hxs]
        omega
      rw [h1, h2]
      show ((x.data.toList ++ c :: joinC c (y :: r)).drop (x.size + 1)).take _ = _
      rw [← hxs, List.drop_append, List.drop_of_length_le (by omega)]
      simp
    rw [e1, e2]
    exact congrArg (x :: ·) ih
theorem countC : ∀ (xs : List ByteArray) (c : UInt8), (∀ x ∈ xs, c ∉ x.data.toList) → (joinC c xs).count c = xs.length - 1
  | [], c, _ => rfl
  | [x], c, h => List.count_eq_zero.2 (h x (by simp))
  | x :: y :: r, c, h => by
    have ih := countC (y :: r) c (fun z hz => h z (by simp [hz]))
    show (x.data.toList ++ c :: joinC c (y :: r)).count c = _
    rw [List.count_append, List.count_cons_self, ih, List.count_eq_zero.2 (h x (by simp))]
    simp
/-- What was joined by a byte that no piece has comes back. -/
theorem splitJ_any (xs : List ByteArray) (c : UInt8) (hx : ∀ x ∈ xs, c ∉ x.data.toList) (h0 : xs ≠ []) (s : ByteArray) (hs : s.data.toList = joinC c xs) (hsz : s.size < 4294967281) (w : World) :
    Calls Tryz.prog 18 #[.string s, .string ⟨#[c]⟩] w fun e w' => e = .returned (.slice (some ⟨w.heap.size, 0, none⟩) xs.length xs.length) ∧ w' = w.alloc (.cells (xs.map Value.string).toArray 9) := by
  have e : s = ⟨(joinC c xs).toArray⟩ := by rw [← hs]
  have hl : 1 ≤ xs.length := by cases xs with | nil => exact absurd rfl h0 | cons a r => simp
  have hc : Lib.countB s ⟨#[c]⟩ = xs.length - 1 := by rw [countB_byte, hs]; exact countC xs c hx
  have hp : Lib.splitB ⟨#[c]⟩ 0 (Lib.countB s ⟨#[c]⟩) s = xs := by
    rw [hc, e]
    exact splitC xs c hx h0
  have h1 := split_any s c w hsz
  rw [hp, hc, show xs.length - 1 + 1 = xs.length by omega, Lib.cellsOf_full] at h1
  exact h1
theorem spell_join : ∀ (xs : List ByteArray), (spellS xs).data.toList = joinC 32 xs
  | [] => rfl
  | [x] => by simp [spellS_flat, joinC]
  | x :: y :: r => by
    have ih := spell_join (y :: r)
    rw [spellS_flat] at ih ⊢
    simp only [List.toList_toArray] at ih ⊢
    rw [List.flatMap_cons]
    show _ = x.data.toList ++ 32 :: joinC 32 (y :: r)
    rw [← ih]
    rfl
theorem text_join : ∀ (xs : List ByteArray), xs ≠ [] → textL xs = joinC 10 xs ++ [10]
  | [], h => absurd rfl h
  | [x], _ => by simp [textL, joinC]
  | x :: y :: r, _ => by
    have ih := text_join (y :: r) (by simp)
    have e : textL (x :: y :: r) = (x.data.toList ++ [10]) ++ textL (y :: r) := by simp [textL]
    rw [e, ih]
    show _ = (x.data.toList ++ 10 :: joinC 10 (y :: r)) ++ [10]
    simp
end Go.Proofs.YtafoohdndlhbnaaGreatDoor
end
