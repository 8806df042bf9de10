/-
  EmitOnce, plainly: a text has one list of lines, a line one list of words: what differs in one thing has another text.
  EmitOnce, plainly: each line's numbers.
  EmitOnce, plainly: a netlist in which one thing is another, and its text.
  The library's contracts laid at this program's numbers (written by wip/tools/shelf2.py for one seat).
  EmitOnce: strconv.ParseUint(s, 10, 32) of a number's own digits.
  EmitOnce: what the loop over the lines carries along: both maps, the lines' row.
  EmitOnce: a line taken apart: its words, how few they are; the row of its numbers.
-/
import Derived.Test.YtafoohdndlhbnaaGreatDoorFENS
import Derived.Test.YtafoohdndlhbnaaGreatDoorProg
import Derived.Shelf.Pu.ParseUintPublic10
import Derived.Lib.AtoiErrMem
section
namespace Go.Proofs.YtafoohdndlhbnaaGreatDoor
open Go.RowKit Go.Maps Bits Go.Shelf
set_option maxRecDepth 100000
set_option linter.unusedVariables false

theorem joinC_inj {c : UInt8} {xs ys : List ByteArray} (hx : ∀ x ∈ xs, c ∉ x.data.toList) (hy : ∀ x ∈ ys, c ∉ x.data.toList) (h0 : xs ≠ []) (h1 : ys ≠ []) (h : joinC c xs = joinC c ys) : xs = ys := by
  have l0 : 1 ≤ xs.length := by cases xs with | nil => exact absurd rfl h0 | cons a r => simp
  have l1 : 1 ≤ ys.length := by cases ys with | nil => exact absurd rfl h1 | cons a r => simp
  have c0 := countC xs c hx
  have c1 := countC ys c hy
  rw [h] at c0
  have e : xs.length - 1 = ys.length - 1 := by omega
  have s0 := splitC xs c hx h0
  have s1 := splitC ys c hy h1
  rw [h, e] at s0
  exact s0.symm.trans s1
theorem spell_inj {xs ys : List ByteArray} (hx : ∀ x ∈ xs, NoBl x) (hy : ∀ x ∈ ys, NoBl x) (h0 : xs ≠ []) (h1 : ys ≠ []) (h : spellS xs = spellS ys) : xs = ys := by
  have e := congrArg (fun s : ByteArray => s.data.toList) h
  simp only [spell_join] at e
  exact joinC_inj hx hy h0 h1 e
theorem map_inj_on {α β : Type} (f : α → β) : ∀ (xs ys : List α), (∀ x ∈ xs, ∀ y ∈ ys, f x = f y → x = y) → xs.map f = ys.map f → xs = ys
  | [], [], _, _ => rfl
  | [], y :: ys, _, h => by simp at h
  | x :: xs, [], _, h => by simp at h
  | x :: xs, y :: ys, hf, h => by
    rw [List.map_cons, List.map_cons] at h
    obtain ⟨h1, h2⟩ := List.cons.inj h
    rw [hf x (by simp) y (by simp) h1, map_inj_on f xs ys (fun a ha b hb => hf a (by simp [ha]) b (by simp [hb])) h2]
theorem linesL_ne (N : Nt) : linesL N ≠ [] := by unfold linesL; simp
/-- A text has one list of lists of words. -/
theorem text_words {N M : Nt} {r s : List Int} (hN : Good N r) (hM : Good M s) (h : textN N = textN M) : linesW N = linesW M := by
  have h1 : textL (linesL N) = textL (linesL M) := h
  rw [text_join _ (linesL_ne N), text_join _ (linesL_ne M)] at h1
  have h2 := (List.append_inj' h1 rfl).1
  have h3 := joinC_inj (lines_nl hN) (lines_nl hM) (linesL_ne N) (linesL_ne M) h2
  rw [← linesW_spell, ← linesW_spell] at h3
  exact map_inj_on spellS _ _ (fun x hx y hy e => spell_inj (linesW_bl hN x hx) (linesW_bl hM y hy) (linesW_ne N x hx) (linesW_ne M y hy) e) h3
theorem linesW_parts {N M : Nt} (h : linesW N = linesW M) (hi : N.ins.length = M.ins.length) (hr : N.regs.length = M.regs.length) (hG : N.g = M.g) :
    N.name = M.name ∧ N.regs.map regWs = M.regs.map regWs ∧ N.outs.map (busWs sOutput) = M.outs.map (busWs sOutput) := by
  unfold linesW at h
  obtain ⟨h0, h⟩ := List.cons.inj h
  obtain ⟨-, h⟩ := List.append_inj h (by simp [hi])
  obtain ⟨h1, h⟩ := List.append_inj h (by simp [hr])
  rw [hG] at h
  obtain ⟨-, h⟩ := List.append_inj h rfl
  obtain ⟨h2, -⟩ := List.append_inj' h rfl
  refine ⟨?_, h1, h2⟩
  have h3 := (List.cons.inj h0).2
  exact (List.cons.inj h3).1
theorem begin_inj {a b : Bool} (h : sBegin a = sBegin b) : a = b := by
  cases a <;> cases b
  · rfl
  · exact absurd (congrArg (fun s : ByteArray => s.data.toList) h) (by decide)
  · exact absurd (congrArg (fun s : ByteArray => s.data.toList) h) (by decide)
  · rfl
theorem regWs_inj {r t : Rg} (hr : 0 ≤ r.d) (ht : 0 ≤ t.d) (h : regWs r = regWs t) : r.d = t.d ∧ r.init = t.init := by
  unfold regWs at h
  simp only [List.cons.injEq, and_true, true_and] at h
  exact ⟨decS_inj hr ht h.2.1, begin_inj h.2.2.2⟩
theorem busWs_inj {s : ByteArray} {b c : Bus} (hb : ∀ x ∈ b.lits, 0 ≤ x) (hc : ∀ x ∈ c.lits, 0 ≤ x) (h : busWs s b = busWs s c) : b.name = c.name ∧ b.lits = c.lits := by
  unfold busWs at h
  obtain ⟨-, h⟩ := List.cons.inj h
  obtain ⟨h1, h⟩ := List.cons.inj h
  exact ⟨h1, map_inj_on decS _ _ (fun x hx y hy e => decS_inj (hb x hx) (hc y hy) e) h⟩
end Go.Proofs.YtafoohdndlhbnaaGreatDoor
end

section
namespace Go.Proofs.YtafoohdndlhbnaaGreatDoor
open Go.RowKit Go.Maps Bits
set_option maxRecDepth 100000
set_option linter.unusedVariables false

theorem gatesN_len {G : Gr} : ∀ {k : Nat}, k ≤ G.nodes.length → (gatesN G k).length = gatesTo G k
  | 0, _ => by simp [gatesN, gatesTo]
  | k + 1, h => by
    have ih := gatesN_len (G := G) (k := k) (by omega)
    rw [gatesTo_succ (by omega), ← ih]
    unfold gatesN
    rw [List.range_succ, List.filter_append, List.length_append]
    cases hg : (nodeAt G k).gate <;> simp [hg]
/-- Where a line's numbers begin. -/
def LnK.start : LnK → Nat
  | .model => 2
  | .inp _ => 2
  | .out _ => 2
  | _ => 1
def LnK.nums (N : Nt) : LnK → List Int
  | .inp b => b.lits
  | .latch r => [r.q, r.d, r.en, if r.init then 1 else 0]
  | .gate j => [2 * (j : Int), (nodeAt N.g j).a, (nodeAt N.g j).b]
  | .out b => b.lits
  | _ => []
theorem begin_dec (b : Bool) : sBegin b = decS (if b then 1 else 0) := by
  cases b
  · exact dec0.symm
  · exact dec1.symm
/-- A line's words behind its name are its numbers. -/
theorem LnK.words_nums (N : Nt) (k : LnK) : (k.words N).drop k.start = (k.nums N).map decS := by
  cases k with
  | model => rfl
  | inp b => rfl
  | latch r =>
    show [decS r.q, decS r.d, decS r.en, sBegin r.init] = _
    rw [begin_dec]
    rfl
  | gate j => rfl
  | out b => rfl
  | fin => rfl
theorem LnK.words_len (N : Nt) (k : LnK) : (k.words N).length = k.start + (k.nums N).length := by
  have h := congrArg List.length (LnK.words_nums N k)
  have h1 : k.start ≤ (k.words N).length := by
    cases k <;> simp [LnK.start, LnK.words, busWs, regWs, gateWs]
  rw [List.length_drop, List.length_map] at h
  omega
theorem LnK.words_at (N : Nt) (k : LnK) (i : Nat) : (k.words N)[k.start + i]? = (k.nums N)[i]?.map decS := by
  have h := congrArg (fun l : List ByteArray => l[i]?) (LnK.words_nums N k)
  simp only [List.getElem?_drop, List.getElem?_map] at h
  exact h
/-- What region's guard asks of a gate's numbers. -/
theorem gate_order {G : Gr} (hW : Wf G) {j : Nat} (hj : j ∈ gatesN G G.nodes.length) : (nodeAt G j).a < 2 * (j : Int) ∧ (nodeAt G j).b ≤ (nodeAt G j).a ∧ 0 ≤ (nodeAt G j).b := by
  obtain ⟨h1, h2⟩ := gatesN_mem.1 hj
  obtain ⟨k1, k2, k3, k4⟩ := hW.gates j _ (nodeAt_get h1) h2
  unfold IsLit at k1 k2
  omega
theorem nums_lit {N : Nt} {rest : List Int} (hg : Good N rest) (hok : EmOk N) {i : Nat} {k : LnK} (h : (lnsK N)[i]? = some k) : ∀ x ∈ k.nums N, 0 ≤ x ∧ x < 4294967296 := by
  have hbus : ∀ b : Bus, (∀ i, 0 ≤ b.lits.getD i 0 ∧ b.lits.getD i 0 < 4294967296) → ∀ x ∈ b.lits, 0 ≤ x ∧ x < 4294967296 := by
    intro b hb x hx
    obtain ⟨i, hi⟩ := List.getElem?_of_mem hx
    have h3 := hb i
    rw [List.getD_eq_getElem?_getD, hi] at h3
    exact h3
  rcases lnsK_at h with ⟨rfl, -⟩ | ⟨b, hb, rfl⟩ | ⟨r, hr, rfl⟩ | ⟨j, hj, rfl⟩ | ⟨b, hb, rfl⟩ | ⟨rfl, -⟩
  · intro x hx; simp [LnK.nums] at hx
  · exact hbus b (hok.ins b hb).2.1
  · obtain ⟨k1, k2, k3⟩ := hok.regs r hr
    intro x hx
    simp [LnK.nums] at hx
    rcases hx with rfl | rfl | rfl | rfl
    · exact k1
    · exact k2
    · exact k3
    · cases r.init <;> simp
  · obtain ⟨h1, h2⟩ := gatesN_mem.1 hj
    obtain ⟨k1, k2⟩ := nodeAt_lits hok.wf hok.few h1 h2
    have h3 := hok.few
    intro x hx
    simp [LnK.nums] at hx
    rcases hx with rfl | rfl | rfl
    · omega
    · exact k1
    · exact k2
  · exact hbus b (hok.outs b hb).2.1
  · intro x hx; simp [LnK.nums] at hx
end Go.Proofs.YtafoohdndlhbnaaGreatDoor
end

section
namespace Go.Proofs.YtafoohdndlhbnaaGreatDoor
open Go.RowKit Go.Maps Bits
set_option maxRecDepth 100000
set_option linter.unusedVariables false

def setNm (N : Nt) (s : ByteArray) : Nt := { N with name := s }
def setRegN (N : Nt) (i : Nat) (r : Rg) : Nt := { N with regs := N.regs.set i r }
def setOutN (N : Nt) (i : Nat) (b : Bus) : Nt := { N with outs := N.outs.set i b }
theorem Good.setNm {N : Nt} {rest : List Int} (h : Good N rest) {s : ByteArray} (hs : mayName s = true) : Good (setNm N s) rest :=
  ⟨h.wf, hs, h.ins, h.outs, h.outT, h.regT, h.drv⟩
theorem Good.setRegN {N : Nt} {rest : List Int} (h : Good N rest) {i : Nat} (hi : i < N.regs.length) {r : Rg} (hq : r.q = N.regs[i].q) (hd : There N.g r.d) (he : There N.g r.en) : Good (setRegN N i r) rest := by
  refine ⟨h.wf, h.name, h.ins, h.outs, h.outT, fun t ht => ?_, ?_⟩
  · rcases List.mem_or_eq_of_mem_set ht with h1 | rfl
    · exact h.regT t h1
    · exact ⟨hd, he⟩
  · have e : takenN (Proofs.YtafoohdndlhbnaaGreatDoor.setRegN N i r) = takenN N := by
      show litsOf N.ins ++ (N.regs.set i r).map (fun r => r.q) = litsOf N.ins ++ N.regs.map (fun r => r.q)
      rw [List.map_set, hq]
      congr 1
      have h2 : (N.regs.map (fun r => r.q))[i]? = some N.regs[i].q := by simp [hi]
      refine List.ext_getElem? (fun k => ?_)
      by_cases hk : i = k
      · subst hk
        rw [List.getElem?_set_self (by simpa using hi), h2]
      · rw [List.getElem?_set_ne hk]
    rw [e]
    exact h.drv
theorem text_nm {N : Nt} {rest : List Int} (h : Good N rest) {s : ByteArray} (hs : mayName s = true) (hn : ¬ s = N.name) : ¬ textN (setNm N s) = textN N := by
  intro e
  have h1 := linesW_parts (text_words (h.setNm hs) h e) rfl rfl rfl
  exact hn h1.1
theorem text_reg {N : Nt} {rest : List Int} (h : Good N rest) {i : Nat} (hi : i < N.regs.length) {r : Rg} (hq : r.q = N.regs[i].q) (hd : There N.g r.d) (he : There N.g r.en) (h0 : 0 ≤ r.d) (h1 : 0 ≤ N.regs[i].d) (hne : ¬ (r.d = N.regs[i].d ∧ r.init = N.regs[i].init)) : ¬ textN (setRegN N i r) = textN N := by
  intro e
  have k := (linesW_parts (text_words (h.setRegN hi hq hd he) h e) rfl (by simp [setRegN]) rfl).2.1
  have k2 := congrArg (fun l : List (List ByteArray) => l[i]?) k
  simp only [setRegN, List.getElem?_map, List.getElem?_set_self hi, List.getElem?_eq_getElem hi, Option.map_some] at k2
  exact hne (regWs_inj h0 h1 (Option.some.inj k2))
theorem Good.setOutN {N : Nt} {rest : List Int} (h : Good N rest) {i : Nat} (hi : i < N.outs.length) {l : List Int} (hl : l.length = N.outs[i].lits.length) (ht : ∀ x ∈ l, There N.g x) : Good (setOutN N i ⟨N.outs[i].name, l⟩) rest := by
  have hm := List.getElem_mem hi
  refine ⟨h.wf, h.name, h.ins, ⟨fun b hb => ?_, fun b hb => ?_, ?_⟩, fun b hb => ?_, h.regT, h.drv⟩
  · rcases List.mem_or_eq_of_mem_set hb with h1 | rfl
    · exact h.outs.name b h1
    · exact h.outs.name N.outs[i] hm
  · rcases List.mem_or_eq_of_mem_set hb with h1 | rfl
    · exact h.outs.wide b h1
    · have h2 := h.outs.wide N.outs[i] hm
      show 1 ≤ l.length ∧ l.length ≤ 64
      rw [hl]
      exact h2
  · have e : (N.outs.set i ⟨N.outs[i].name, l⟩).map Bus.name = N.outs.map Bus.name := by
      rw [List.map_set]
      refine List.ext_getElem? (fun k => ?_)
      by_cases hk : i = k
      · subst hk
        rw [List.getElem?_set_self (by simpa using hi)]
        simp [hi]
      · rw [List.getElem?_set_ne hk]
    have h1 : (N.outs.map Bus.name).Pairwise (fun a b => sameN a b = false) := List.pairwise_map.2 h.outs.apart
    rw [← e] at h1
    exact List.pairwise_map.1 h1
  · rcases List.mem_or_eq_of_mem_set hb with h1 | rfl
    · exact h.outT b h1
    · exact ht
theorem text_out {N : Nt} {rest : List Int} (h : Good N rest) {i : Nat} (hi : i < N.outs.length) {l : List Int} (hl : l.length = N.outs[i].lits.length) (ht : ∀ x ∈ l, There N.g x) (h0 : ∀ x ∈ l, 0 ≤ x) (h1 : ∀ x ∈ N.outs[i].lits, 0 ≤ x) (hne : ¬ l = N.outs[i].lits) : ¬ textN (setOutN N i ⟨N.outs[i].name, l⟩) = textN N := by
  intro e
  have k := (linesW_parts (text_words (h.setOutN hi hl ht) h e) rfl rfl rfl).2.2
  have k2 := congrArg (fun l : List (List ByteArray) => l[i]?) k
  simp only [setOutN, List.getElem?_map, List.getElem?_set_self hi, List.getElem?_eq_getElem hi, Option.map_some] at k2
  exact hne (busWs_inj (b := ⟨N.outs[i].name, l⟩) h0 h1 (Option.some.inj k2)).2
end Go.Proofs.YtafoohdndlhbnaaGreatDoor
end

section
namespace Go.Proofs.YtafoohdndlhbnaaGreatDoor
open Go.RowKit Go.Shelf
set_option maxRecDepth 100000

def layParse_ren : Go.Shelf.Ren := ⟨fun | 14 => 19 | 16 => 54 | 17 => 55 | 19 => 131 | 20 => 132 | 21 => 133 | 22 => 134 | 23 => 135 | 24 => 136 | 25 => 196 | 27 => 198 | 26 => 197 | 28 => 234 | 29 => 255 | 30 => 265 | 31 => 266 | 32 => 267 | 33 => 268 | 35 => 246 | 34 => 271 | 36 => 272 | 37 => 273 | 38 => 274 | 39 => 275 | 40 => 276 | n => n, fun | 9 => 9 | 3 => 3 | 22 => 49 | 24 => 51 | 25 => 52 | 4 => 4 | 34 => 208 | 5 => 5 | 36 => 166 | 37 => 29 | 0 => 0 | 39 => 210 | 21 => 21 | 44 => 276 | 47 => 261 | 50 => 307 | 48 => 305 | 2 => 2 | 52 => 344 | 55 => 346 | 59 => 353 | 60 => 65 | 20 => 20 | 61 => 354 | 65 => 355 | 66 => 356 | 67 => 175 | n => n, fun | 0 => 1 | 1 => 2 | 2 => 5 | 3 => 6 | 4 => 7 | n => n⟩
theorem layParse : Go.Proofs.LaysPu.n14 Tryz.prog layParse_ren := {
  mixed := by kernel_rfl,
  f14 := Tryz.func19.trans (congrArg some (by kernel_rfl)),
  f16 := Tryz.func54.trans (congrArg some (by kernel_rfl)),
  f17 := Tryz.func55.trans (congrArg some (by kernel_rfl)),
  f19 := Tryz.func131.trans (congrArg some (by kernel_rfl)),
  f20 := Tryz.func132.trans (congrArg some (by kernel_rfl)),
  f21 := Tryz.func133.trans (congrArg some (by kernel_rfl)),
  f22 := Tryz.func134.trans (congrArg some (by kernel_rfl)),
  f23 := Tryz.func135.trans (congrArg some (by kernel_rfl)),
  f24 := Tryz.func136.trans (congrArg some (by kernel_rfl)),
  f25 := Tryz.func196.trans (congrArg some (by kernel_rfl)),
  f26 := Tryz.func197.trans (congrArg some (by kernel_rfl)),
  f27 := Tryz.func198.trans (congrArg some (by kernel_rfl)),
  f28 := Tryz.func234.trans (congrArg some (by kernel_rfl)),
  f29 := Tryz.func255.trans (congrArg some (by kernel_rfl)),
  f30 := Tryz.func265.trans (congrArg some (by kernel_rfl)),
  f31 := Tryz.func266.trans (congrArg some (by kernel_rfl)),
  f32 := Tryz.func267.trans (congrArg some (by kernel_rfl)),
  f33 := Tryz.func268.trans (congrArg some (by kernel_rfl)),
  f34 := Tryz.func271.trans (congrArg some (by kernel_rfl)),
  f35 := Tryz.func246.trans (congrArg some (by kernel_rfl)),
  f36 := Tryz.func272.trans (congrArg some (by kernel_rfl)),
  f37 := Tryz.func273.trans (congrArg some (by kernel_rfl)),
  f38 := Tryz.func274.trans (congrArg some (by kernel_rfl)),
  f39 := Tryz.func275.trans (congrArg some (by kernel_rfl)),
  f40 := Tryz.func276.trans (congrArg some (by kernel_rfl)),
  t0 := Tryz.underlying0,
  a0 := Tryz.isAgg0,
  z0 := Tryz.sizeOf0,
  v0 := Tryz.zeroValue0,
  i0 := by kernel_rfl,
  t2 := Tryz.underlying2,
  a2 := Tryz.isAgg2,
  z2 := Tryz.sizeOf2,
  v2 := Tryz.zeroValue2,
  i2 := by kernel_rfl,
  t3 := Tryz.underlying3,
  a3 := Tryz.isAgg3,
  z3 := Tryz.sizeOf3,
  v3 := Tryz.zeroValue3,
  i3 := by kernel_rfl,
  t4 := Tryz.underlying4,
  a4 := Tryz.isAgg4,
  z4 := Tryz.sizeOf4,
  v4 := Tryz.zeroValue4,
  i4 := by kernel_rfl,
  t5 := Tryz.underlying5,
  a5 := Tryz.isAgg5,
  z5 := Tryz.sizeOf5,
  v5 := Tryz.zeroValue5,
  i5 := by kernel_rfl,
  t9 := Tryz.underlying9,
  a9 := Tryz.isAgg9,
  z9 := Tryz.sizeOf9,
  v9 := Tryz.zeroValue9,
  i9 := by kernel_rfl,
  t20 := Tryz.underlying20,
  a20 := Tryz.isAgg20,
  z20 := Tryz.sizeOf20,
  v20 := Tryz.zeroValue20,
  i20 := by kernel_rfl,
  t21 := Tryz.underlying21,
  a21 := Tryz.isAgg21,
  z21 := Tryz.sizeOf21,
  v21 := Tryz.zeroValue21,
  i21 := by kernel_rfl,
  t22 := Tryz.underlying49,
  a22 := Tryz.isAgg49,
  z22 := Tryz.sizeOf49,
  v22 := Tryz.zeroValue49,
  i22 := by kernel_rfl,
  t24 := Tryz.underlying51,
  a24 := Tryz.isAgg51,
  z24 := Tryz.sizeOf51,
  v24 := Tryz.zeroValue51,
  i24 := by kernel_rfl,
  t25 := Tryz.underlying52,
  a25 := Tryz.isAgg52,
  z25 := Tryz.sizeOf52,
  v25 := Tryz.zeroValue52,
  i25 := by kernel_rfl,
  t34 := Tryz.underlying208,
  a34 := Tryz.isAgg208,
  z34 := Tryz.sizeOf208,
  v34 := Tryz.zeroValue208,
  i34 := by kernel_rfl,
  c34 := by kernel_rfl,
  t36 := Tryz.underlying166,
  a36 := Tryz.isAgg166,
  z36 := Tryz.sizeOf166,
  v36 := Tryz.zeroValue166,
  i36 := by kernel_rfl,
  t37 := Tryz.underlying29,
  a37 := Tryz.isAgg29,
  z37 := Tryz.sizeOf29,
  v37 := Tryz.zeroValue29,
  i37 := by kernel_rfl,
  t39 := Tryz.underlying210,
  a39 := Tryz.isAgg210,
  z39 := Tryz.sizeOf210,
  v39 := Tryz.zeroValue210,
  i39 := by kernel_rfl,
  t44 := Tryz.underlying276,
  a44 := Tryz.isAgg276,
  z44 := Tryz.sizeOf276,
  v44 := Tryz.zeroValue276,
  i44 := by kernel_rfl,
  t47 := Tryz.underlying261,
  a47 := Tryz.isAgg261,
  z47 := Tryz.sizeOf261,
  v47 := Tryz.zeroValue261,
  i47 := by kernel_rfl,
  t48 := Tryz.underlying305,
  a48 := Tryz.isAgg305,
  z48 := Tryz.sizeOf305,
  v48 := Tryz.zeroValue305,
  i48 := by kernel_rfl,
  t50 := Tryz.underlying307,
  a50 := Tryz.isAgg307,
  z50 := Tryz.sizeOf307,
  v50 := Tryz.zeroValue307,
  i50 := by kernel_rfl,
  t52 := Tryz.underlying344,
  a52 := Tryz.isAgg344,
  z52 := Tryz.sizeOf344,
  v52 := Tryz.zeroValue344,
  i52 := by kernel_rfl,
  t55 := Tryz.underlying346,
  a55 := Tryz.isAgg346,
  z55 := Tryz.sizeOf346,
  v55 := Tryz.zeroValue346,
  i55 := by kernel_rfl,
  t59 := Tryz.underlying353,
  a59 := Tryz.isAgg353,
  z59 := Tryz.sizeOf353,
  v59 := Tryz.zeroValue353,
  i59 := by kernel_rfl,
  t60 := Tryz.underlying65,
  a60 := Tryz.isAgg65,
  z60 := Tryz.sizeOf65,
  v60 := Tryz.zeroValue65,
  i60 := by kernel_rfl,
  t61 := Tryz.underlying354,
  a61 := Tryz.isAgg354,
  z61 := Tryz.sizeOf354,
  t65 := Tryz.underlying355,
  a65 := Tryz.isAgg355,
  z65 := Tryz.sizeOf355,
  v65 := Tryz.zeroValue355,
  i65 := by kernel_rfl,
  t66 := Tryz.underlying356,
  a66 := Tryz.isAgg356,
  z66 := Tryz.sizeOf356,
  v66 := Tryz.zeroValue356,
  i66 := by kernel_rfl,
  t67 := Tryz.underlying175,
  a67 := Tryz.isAgg175,
  z67 := Tryz.sizeOf175,
  v67 := Tryz.zeroValue175,
  i67 := by kernel_rfl,
  g0 := by kernel_rfl,
  m0 := by kernel_rfl,
  g1 := by kernel_rfl,
  m1 := by kernel_rfl,
  g2 := by kernel_rfl,
  m2 := by kernel_rfl,
  g3 := by kernel_rfl,
  m3 := by kernel_rfl,
  g4 := by kernel_rfl,
  m4 := by kernel_rfl }

end Go.Proofs.YtafoohdndlhbnaaGreatDoor
end

section
namespace Go.Proofs.YtafoohdndlhbnaaGreatDoor
open Go.RowKit Go.Maps Bits Go.Shelf
set_option maxRecDepth 100000
set_option linter.unusedVariables false

theorem parseM_snoc (M : Nat) (hM : M < 1844674407370955162) : ∀ (l : List UInt8) (acc a : Nat) (d : Nat), d ≤ 9 → Lib.parseUintM M acc l = .ok a → a * 10 + d ≤ M → Lib.parseUintM M acc (l ++ [UInt8.ofNat (48 + d)]) = .ok (a * 10 + d)
  | [], acc, a, d, hd, h, hle => by
    have ha : acc = a := by
      unfold Lib.parseUintM at h
      cases h
      rfl
    subst ha
    have hc : (UInt8.ofNat (48 + d)).toNat = 48 + d := by
      simp
      omega
    show Lib.parseUintM M acc [UInt8.ofNat (48 + d)] = _
    rw [Lib.parseUintM, hc, if_pos (by omega), if_neg (by omega), if_neg (by omega), Lib.parseUintM]
    congr 1
    omega
  | c :: r, acc, a, d, hd, h, hle => by
    rw [Lib.parseUintM] at h
    show Lib.parseUintM M acc (c :: (r ++ [UInt8.ofNat (48 + d)])) = _
    rw [Lib.parseUintM]
    by_cases h1 : 48 ≤ c.toNat ∧ c.toNat ≤ 57
    · rw [if_pos h1] at h ⊢
      by_cases h2 : 1844674407370955162 ≤ acc
      · rw [if_pos h2] at h
        cases h
      · rw [if_neg h2] at h ⊢
        by_cases h3 : M < acc * 10 + (c.toNat - 48)
        · rw [if_pos h3] at h
          cases h
        · rw [if_neg h3] at h ⊢
          exact parseM_snoc M hM r _ a d hd h hle
    · rw [if_neg h1] at h
      cases h
theorem parse_digits (M : Nat) (hM : M < 1844674407370955162) : ∀ (n u : Nat), u ≤ n → u ≤ M → Lib.parseUintM M 0 (Lib.decDigits u) = .ok u := by
  intro n
  induction n with
  | zero =>
    intro u hu hM2
    obtain rfl : u = 0 := by omega
    rw [digits_one (by omega)]
    have := parseM_snoc M hM [] 0 0 0 (by omega) rfl (by omega)
    simpa using this
  | succ n ih =>
    intro u hu hM2
    by_cases h9 : 9 < u
    · rw [digits_more h9]
      have h1 := ih (u / 10) (by omega) (by omega)
      have h2 := parseM_snoc M hM _ 0 (u / 10) (u % 10) (by omega) h1 (by omega)
      rw [show u / 10 * 10 + u % 10 = u by omega] at h2
      exact h2
    · rw [digits_one h9]
      have h2 := parseM_snoc M hM [] 0 0 u (by omega) rfl (by omega)
      rw [List.nil_append, show 0 * 10 + u = u by omega] at h2
      exact h2
theorem digits_ne (u : Nat) : Lib.decDigits u ≠ [] := by
  by_cases h9 : 9 < u
  · rw [digits_more h9]
    simp
  · rw [digits_one h9]
    simp
theorem parseU_any (x : Int) (hx : 0 ≤ x ∧ x < 4294967296) (w : World) :
    Calls Tryz.prog 19 #[.string (decS x), .int .i64 10, .int .i64 32] w fun e w' => e = .returned (.tuple #[.int .u64 x, .nilIface]) ∧ Below w.heap.size w w' := by
  obtain ⟨u, rfl⟩ : ∃ u : Nat, x = u := ⟨x.toNat, by omega⟩
  have hp : Lib.parseUintB 32 (decS (u : Int)).data.toList = .ok u := by
    rw [decS_list, Int.toNat_natCast]
    unfold Lib.parseUintB
    rw [if_neg (digits_ne u)]
    have h2 : (2 ^ 32 - 1 : Nat) = 4294967295 := by decide
    rw [h2]
    exact parse_digits _ (by decide) u u (Nat.le_refl _) (by omega)
  have h1 := Any.strconv_ParseUint_10_at32_ok layParse (decS (u : Int)) (by have := decS_size20 hx; omega) u hp w
  refine h1.mono ?_
  rintro e w' ⟨he, hw⟩
  refine ⟨he, ?_⟩
  rcases hw with rfl | rfl
  · exact Below.refl _ _
  · exact Lib.bytesWorld_below w _ _
end Go.Proofs.YtafoohdndlhbnaaGreatDoor
end

section
namespace Go.Proofs.YtafoohdndlhbnaaGreatDoor
open Go.RowKit Go.Maps Bits
set_option maxRecDepth 100000
set_option linter.unusedVariables false

/-- A row of strings in a block. -/
def StrsAt (W : World) (g : Nat) (X : List ByteArray) : Prop := g < W.heap.size ∧ ∀ j, (h : j < X.length) → W.cell? ⟨g, j, none⟩ = some (.string X[j])
theorem StrsAt.step {W W' : World} {g : Nat} {X : List ByteArray} (h : StrsAt W g X) (hb : Below W.heap.size W W') : StrsAt W' g X :=
  ⟨Nat.lt_of_lt_of_le h.1 hb.size, fun j hj => stepc hb h.1 (h.2 j hj)⟩
theorem StrsAt.grown {W W' : World} {g m : Nat} {X : List ByteArray} (h : StrsAt W g X) (hg : W.grownBy W' (some m)) (hne : g ≠ m) : StrsAt W' g X :=
  ⟨Nat.lt_of_lt_of_le h.1 hg.size, fun j hj => hg.cell (h.2 j hj) (by simp; omega)⟩
theorem StrsAt.made (W : World) (X : List ByteArray) : StrsAt (W.alloc (.cells (X.map Value.string).toArray 9)) W.heap.size X :=
  ⟨by simp, fun j hj => by
    have h := news_list W (X.map Value.string) 9 j (.string X[j]) (by simp [hj])
    rw [show (⟨W.heap.size, 0, none⟩ : Addr).add j = ⟨W.heap.size, j, none⟩ by simp [Addr.add]; omega] at h
    exact h⟩
/-- Both maps, the lines' row. -/
structure OS (M : Nat) (X : List ByteArray) (w3 : World) (ld : List Int) (ls : List ByteArray) (W : World) : Prop where
  b : Below w3.heap.size w3 W
  e : w3.heap.size = M
  m : ∃ D, Dvn D ld ∧ W.ownsMap Tryz.prog 49 (plainElem Tryz.prog 3) M ld.length D
  c : ∃ C, Cnt C ls ∧ W.ownsMap Tryz.prog 9 (plainElem Tryz.prog 3) (M + 1) ls.length C
  x : StrsAt W (M + 2) X
theorem OS.step {M : Nat} {X : List ByteArray} {w3 W W' : World} {ld : List Int} {ls : List ByteArray} (h : OS M X w3 ld ls W) (hb : Below W.heap.size W W') : OS M X w3 ld ls W' := by
  obtain ⟨D, hD, oD⟩ := h.m
  obtain ⟨C, hC, oC⟩ := h.c
  exact ⟨nextw h.b hb, h.e, ⟨D, hD, omap_below oD hb⟩, ⟨C, hC, omap_below oC hb⟩, h.x.step hb⟩
theorem OS.start {M : Nat} {w3 : World} (X : List ByteArray) (h : w3.heap.size = M) :
    OS M X w3 [] [] ((((w3.alloc (.map #[] 0)).alloc (.map #[] 0))).alloc (.cells (X.map Value.string).toArray 9)) := by
  subst h
  refine ⟨(((Below.refl _ _).alloc (Nat.le_refl _) _).alloc (by simp) _).alloc (by simp; omega) _, rfl, ⟨_, Dvn.nil, ?_⟩, ⟨_, Cnt.nil, ?_⟩, ?_⟩
  · exact ((World.ownsMap_made w3 _ _ _).alloc _).alloc _
  · have := (World.ownsMap_made (H := Unit) (w3.alloc (.map #[] 0)) Tryz.prog 9 (plainElem Tryz.prog 3)).alloc (.cells (X.map Value.string).toArray 9)
    rw [World.size_alloc] at this
    exact this
  · have := StrsAt.made ((w3.alloc (.map #[] 0)).alloc (.map #[] 0)) X
    simpa using this
/-- A line was counted. -/
theorem OS.cnt {M : Nat} {X : List ByteArray} {w3 W W' : World} {ld : List Int} {ls : List ByteArray} {s : ByteArray} {C : DataW Unit} (h : OS M X w3 ld ls W) (hC : Cnt C ls) (hs : s.size ≤ maxLen)
    (hg : W.grownBy W' (some (M + 1))) (ho : W'.ownsMap Tryz.prog 9 (plainElem Tryz.prog 3) (M + 1) (ls.length + 1) (C.put (skey s) (.lit (.int .i64 ((cntS ls s : Nat) + 1))))) : OS M X w3 ld (ls ++ [s]) W' := by
  obtain ⟨D, hD, oD⟩ := h.m
  have he := h.e
  exact ⟨h.b.grown hg h.b.size (fun k e => by cases e; omega), h.e, ⟨D, hD, oD.kept hg (by simp)⟩, ⟨_, hC.put hs, by rw [List.length_append]; exact ho⟩, h.x.grown hg (by omega)⟩
/-- A node is driven. -/
theorem OS.drv {M : Nat} {X : List ByteArray} {w3 W W' : World} {ld : List Int} {ls : List ByteArray} {x : Int} {D : DataW Unit} (h : OS M X w3 ld ls W) (hD : Dvn D ld) (hx : 0 ≤ x ∧ x < 4294967296) (hn : x ∉ ld)
    (hg : W.grownBy W' (some M)) (ho : W'.ownsMap Tryz.prog 49 (plainElem Tryz.prog 3) M (ld.length + 1) (D.put (dkey x) (.lit (.int .i64 1)))) : OS M X w3 (ld ++ [x]) ls W' := by
  obtain ⟨C, hC, oC⟩ := h.c
  have he := h.e
  exact ⟨h.b.grown hg h.b.size (fun k e => by cases e; omega), h.e, ⟨_, hD.put hx hn, by rw [List.length_append]; exact ho⟩, ⟨C, hC, oC.kept hg (by simp)⟩, h.x.grown hg (by omega)⟩
/-- Behind the i-th line. -/
def ldK (N : Nt) (i : Nat) : List Int := ((lnsK N).take i).flatMap LnK.drives
def lsK (N : Nt) (i : Nat) : List ByteArray := ((lnsK N).take i).map LnK.first
theorem ldK_next {N : Nt} {i : Nat} {k : LnK} (h : (lnsK N)[i]? = some k) : ldK N (i + 1) = ldK N i ++ k.drives := by
  unfold ldK
  rw [List.take_add_one, h]
  simp
theorem lsK_next {N : Nt} {i : Nat} {k : LnK} (h : (lnsK N)[i]? = some k) : lsK N (i + 1) = lsK N i ++ [k.first] := by
  unfold lsK
  rw [List.take_add_one, h]
  simp
theorem ldK_pre (N : Nt) (i : Nat) : ∃ t, ldK N i ++ t = drvL N := ⟨((lnsK N).drop i).flatMap LnK.drives, by
  unfold ldK
  rw [← List.flatMap_append, List.take_append_drop, lnsK_drives]⟩
/-- What a line drives was not driven ahead, nor by itself. -/
theorem ldK_new {N : Nt} (hg : Good N []) {i : Nat} {k : LnK} (h : (lnsK N)[i]? = some k) {j : Nat} {x : Int} (hj : k.drives[j]? = some x) : x ∉ ldK N i ++ k.drives.take j := by
  obtain ⟨t, ht⟩ := ldK_pre N (i + 1)
  rw [ldK_next h] at ht
  have hn := drv_nodup hg
  rw [← ht] at hn
  have h2 := (List.nodup_append.1 hn).1
  have hlt := (List.getElem?_eq_some_iff.1 hj).1
  have e : k.drives = k.drives.take j ++ x :: k.drives.drop (j + 1) := by
    conv => lhs; rw [← List.take_append_drop j k.drives]
    congr 1
    rw [List.drop_eq_getElem_cons hlt]
    congr 1
    exact (List.getElem?_eq_some_iff.1 hj).2
  rw [e, ← List.append_assoc] at h2
  intro hm
  exact (List.nodup_append.1 h2).2.2 x hm x (by simp) rfl
theorem ldK_len {N : Nt} (hg : Good N []) (i : Nat) : (ldK N i).length ≤ N.g.nodes.length := by
  obtain ⟨t, ht⟩ := ldK_pre N i
  have := drv_len hg
  rw [← ht, List.length_append] at this
  omega
theorem lsK_len (N : Nt) {i : Nat} (h : i ≤ (lnsK N).length) : (lsK N i).length = i := by
  unfold lsK
  rw [List.length_map, List.length_take]
  omega
theorem ldK_end (N : Nt) : ldK N (lnsK N).length = drvL N := by
  unfold ldK
  rw [List.take_length, lnsK_drives]
theorem lsK_end (N : Nt) : lsK N (lnsK N).length = (lnsK N).map LnK.first := by
  unfold lsK
  rw [List.take_length]
/-- The i-th line's text and words. -/
theorem lines_at {N : Nt} {i : Nat} {k : LnK} (h : (lnsK N)[i]? = some k) : (linesL N)[i]? = some (spellS (k.words N)) := by
  rw [← linesW_spell, ← lnsK_words, List.map_map, List.getElem?_map, h]
  rfl
theorem words_bl {N : Nt} {rest : List Int} (hg : Good N rest) {i : Nat} {k : LnK} (h : (lnsK N)[i]? = some k) : ∀ y ∈ k.words N, NoBl y := by
  refine linesW_bl hg _ ?_
  rw [← lnsK_words]
  exact List.mem_map_of_mem (List.mem_of_getElem? h)
theorem words_ne (N : Nt) (k : LnK) : k.words N ≠ [] := by cases k <;> simp [LnK.words, busWs, regWs, gateWs]
end Go.Proofs.YtafoohdndlhbnaaGreatDoor
end

section
namespace Go.Proofs.YtafoohdndlhbnaaGreatDoor
open Go.RowKit Go.Maps Bits
set_option maxRecDepth 100000
set_option linter.unusedVariables false

theorem nums_few {N : Nt} (hok : EmOk N) {i : Nat} {k : LnK} (h : (lnsK N)[i]? = some k) : (k.nums N).length ≤ 64 := by
  rcases lnsK_at h with ⟨rfl, -⟩ | ⟨b, hb, rfl⟩ | ⟨r, hr, rfl⟩ | ⟨j, hj, rfl⟩ | ⟨b, hb, rfl⟩ | ⟨rfl, -⟩
  · simp [LnK.nums]
  · exact (hok.ins b hb).1
  · simp [LnK.nums]
  · simp [LnK.nums]
  · exact (hok.outs b hb).1
  · simp [LnK.nums]
theorem start_le (k : LnK) : 1 ≤ k.start ∧ k.start ≤ 2 := by cases k <;> simp [LnK.start]
theorem first_few (k : LnK) : k.first.size ≤ maxLen := by cases k <;> simp [LnK.first, ByteArray.size, maxLen]
theorem cntS_le (l : List ByteArray) (s : ByteArray) : cntS l s ≤ l.length := List.countP_le_length
/-- The words' row and the maps behind Split. -/
theorem split_line {M : Nat} {X : List ByteArray} {w3 W : World} {ld : List Int} {ls : List ByteArray} (hO : OS M X w3 ld ls W) {ws : List ByteArray} (hb : ∀ y ∈ ws, NoBl y) (h0 : ws ≠ []) {s : ByteArray} (hs : s = spellS ws) (hsz : s.size < 4294967281) :
    Calls Tryz.prog 18 #[.string s, .string ⟨#[32]⟩] W fun e w' => ∃ g : Nat, e = .returned (.slice (some ⟨g, 0, none⟩) ws.length ws.length) ∧ StrsAt w' g ws ∧ M + 2 < g ∧ OS M X w3 ld ls w' ∧ Below W.heap.size W w' := by
  refine (splitJ_any ws 32 hb h0 s (by rw [hs, spell_join]) hsz W).mono ?_
  rintro e w' ⟨rfl, rfl⟩
  have hb2 : Below W.heap.size W (W.alloc (.cells (ws.map Value.string).toArray 9)) := (Below.refl _ _).alloc (Nat.le_refl _) _
  exact ⟨W.heap.size, rfl, StrsAt.made W ws, hO.x.1, hO.step hb2, hb2⟩
/-- Behind the first k numbers of a line. -/
structure NS (M : Nat) (X : List ByteArray) (w3 : World) (ld : List Int) (ls : List ByteArray) (g : Nat) (ws : List ByteArray) (v : Value) (ns : List Int) (W : World) : Prop where
  o : OS M X w3 ld ls W
  s : StrsAt W g ws
  lo : M + 2 < g
  r : W.ownsRow (g + 1) 49 1 v ns.length (ns.map (Value.int .u64))
theorem NS.step {M : Nat} {X : List ByteArray} {w3 W W' : World} {ld : List Int} {ls : List ByteArray} {g : Nat} {ws : List ByteArray} {v : Value} {ns : List Int} (h : NS M X w3 ld ls g ws v ns W) (hb : Below W.heap.size W W') : NS M X w3 ld ls g ws v ns W' :=
  ⟨h.o.step hb, h.s.step hb, h.lo, own_below h.r hb⟩
theorem own_off {W W' : World} {base T n m : Nat} {v : Value} {xs : List Value} (h : W.ownsRow base T 1 v n xs) (hg : W.grownBy W' (some m)) (hm : m < base) : W'.ownsRow base T 1 v n xs := by
  refine h.kept hg (.inr fun e => ?_)
  have := own_ge h m e
  omega
theorem StrsAt.far {W W' : World} {g base T n : Nat} {X : List ByteArray} {v : Value} {xs : List Value} (h : StrsAt W g X) (ho : W.ownsRow base T 1 v n xs) (hb : g < base) (hg : W.grownBy W' v.ownBlock) : StrsAt W' g X :=
  ⟨Nat.lt_of_lt_of_le h.1 hg.size, fun j hj => hg.cell (h.2 j hj) (fun e => by have := own_ge ho g e.symm; omega)⟩
theorem OS.far {M : Nat} {X : List ByteArray} {w3 W W' : World} {ld : List Int} {ls : List ByteArray} {base T n : Nat} {v : Value} {xs : List Value} (h : OS M X w3 ld ls W) (ho : W.ownsRow base T 1 v n xs) (hb : M + 2 < base) (hg : W.grownBy W' v.ownBlock) : OS M X w3 ld ls W' := by
  obtain ⟨D, hD, oD⟩ := h.m
  obtain ⟨C, hC, oC⟩ := h.c
  have he := h.e
  have hge := own_ge ho
  exact ⟨h.b.grown hg h.b.size (fun k e => by have := hge k e; omega), h.e, ⟨D, hD, oD.kept hg (fun e => by have := hge M e.symm; omega)⟩, ⟨C, hC, oC.kept hg (fun e => by have := hge (M + 1) e.symm; omega)⟩, h.x.far ho (by omega) hg⟩
/-- Behind an appended number. -/
theorem NS.push {M : Nat} {X : List ByteArray} {w3 W W' : World} {ld : List Int} {ls : List ByteArray} {g : Nat} {ws : List ByteArray} {v v' : Value} {ns : List Int} {x : Int} (h : NS M X w3 ld ls g ws v ns W) (hg : W.grownBy W' v.ownBlock)
    (ho : W'.ownsRow (g + 1) 49 1 v' (ns.length + 1) (ns.map (Value.int .u64) ++ [.int .u64 x])) : NS M X w3 ld ls g ws v' (ns ++ [x]) W' := by
  have hlo := h.lo
  refine ⟨h.o.far h.r (by omega) hg, h.s.far h.r (by omega) hg, h.lo, ?_⟩
  rw [List.length_append, List.map_append]
  exact ho
theorem NS.nil {M : Nat} {X : List ByteArray} {w3 W : World} {ld : List Int} {ls : List ByteArray} {g : Nat} {ws : List ByteArray} (h : OS M X w3 ld ls W) (hs : StrsAt W g ws) (hlo : M + 2 < g) : NS M X w3 ld ls g ws (.slice none 0 0) [] W :=
  ⟨h, hs, hlo, by simp, .inl ⟨rfl, rfl⟩⟩
/-- A number is driven. -/
theorem NS.drv {M : Nat} {X : List ByteArray} {w3 W W' : World} {ld : List Int} {ls : List ByteArray} {g : Nat} {ws : List ByteArray} {v : Value} {ns : List Int} {x : Int} {D : DataW Unit} (h : NS M X w3 ld ls g ws v ns W) (hD : Dvn D ld) (hx : 0 ≤ x ∧ x < 4294967296) (hn : x ∉ ld)
    (hg : W.grownBy W' (some M)) (ho : W'.ownsMap Tryz.prog 49 (plainElem Tryz.prog 3) M (ld.length + 1) (D.put (dkey x) (.lit (.int .i64 1)))) : NS M X w3 (ld ++ [x]) ls g ws v ns W' := by
  have hlo := h.lo
  exact ⟨h.o.drv hD hx hn hg ho, h.s.grown hg (by omega), h.lo, own_off h.r hg (by omega)⟩
theorem NS.row {M : Nat} {X : List ByteArray} {w3 W : World} {ld : List Int} {ls : List ByteArray} {g : Nat} {ws : List ByteArray} {v : Value} {ns : List Int} (h : NS M X w3 ld ls g ws v ns W) : ∃ a c, v = .slice a ns.length c := own_slice h.r
/-- A number of the row. -/
theorem NS.at {M : Nat} {X : List ByteArray} {w3 W : World} {ld : List Int} {ls : List ByteArray} {g : Nat} {ws : List ByteArray} {v : Value} {ns : List Int} (h : NS M X w3 ld ls g ws v ns W) (hn : 0 < ns.length) :
    ∃ b c, v = .slice (some ⟨b, 0, none⟩) ns.length c ∧ ∀ (W2 : World), Below W.heap.size W W2 → ∀ j (hj : j < ns.length), W2.cell? ⟨b, j, none⟩ = some (.int .u64 ns[j]) := by
  obtain ⟨b, c, e⟩ := own_form h.r hn
  refine ⟨b, c, e, fun W2 hb j hj => ?_⟩
  have ho := own_below h.r hb
  rw [e] at ho
  rw [ho.cellAt (j := j) (by omega)]
  simp [hj]
/-- The text without its last byte, split. -/
theorem split_text {N : Nt} {rest : List Int} (hg : Good N rest) {J : List UInt8} (hJ : joinC 10 (linesL N) = J) (hl : J.length < 16777216) (w3 : World) :
    Calls Tryz.prog 18 #[.string ⟨J.toArray⟩, .string ⟨#[10]⟩] ((w3.alloc (.map #[] 0)).alloc (.map #[] 0)) fun e w' => e = .returned (.slice (some ⟨w3.heap.size + 2, 0, none⟩) (linesL N).length (linesL N).length) ∧ OS w3.heap.size (linesL N) w3 [] [] w' := by
  refine (splitJ_any (linesL N) 10 (fun x hx => lines_nl hg x hx) (linesL_ne N) ⟨J.toArray⟩ (by rw [hJ]) (by simp [ByteArray.size]; omega) _).mono ?_
  rintro e w' ⟨rfl, rfl⟩
  exact ⟨by simp, OS.start _ rfl⟩
theorem lines_len {N : Nt} (hok : EmOk N) (hS : Small N) : (linesL N).length ≤ 1000000 := by
  obtain ⟨L, hL, hn⟩ := lines_ln hok hS
  rw [← hL, List.length_map]
  exact hn
theorem lnsK_lines (N : Nt) : (lnsK N).length = (linesL N).length := by rw [lnsK_len, ← linesW_spell, List.length_map]
theorem line_size {N : Nt} (hok : EmOk N) {i : Nat} {k : LnK} (h : (lnsK N)[i]? = some k) : (spellS (k.words N)).size < 4294967281 := by
  have := lines_size hok _ (List.mem_of_getElem? (lines_at h))
  omega
theorem start_two (k : LnK) : ((k.start : Nat) : Int) = if decide (k.start = 2) then 2 else 1 := by cases k <;> rfl
theorem info_u64o : (Tryz.prog.info? 49).map (fun i => (i.zero, i.size, i.bytes)) = some (some (.int .u64 0), 1, 8) := by kernel_rfl
theorem NS.num {M : Nat} {X : List ByteArray} {w3 W : World} {ld : List Int} {ls : List ByteArray} {g nb l c : Nat} {ws : List ByteArray} {ns : List Int} (h : NS M X w3 ld ls g ws (.slice (some ⟨nb, 0, none⟩) l c) ns W) {j : Nat} {x : Int} (hx : ns[j]? = some x) : W.cell? ⟨nb, j, none⟩ = some (.int .u64 x) ∧ nb < W.heap.size := by
  obtain ⟨hj, e⟩ := List.getElem?_eq_some_iff.1 hx
  obtain ⟨b, c2, e2, hc⟩ := h.at (by omega)
  simp only [Value.slice.injEq, Option.some.injEq, Addr.mk.injEq] at e2
  obtain ⟨⟨rfl, -⟩, -, -⟩ := e2
  have h1 := hc W (Below.refl _ _) j hj
  rw [e] at h1
  exact ⟨h1, World.block_lt_of_cell? W _ h1⟩
theorem NS.form {M : Nat} {X : List ByteArray} {w3 W : World} {ld : List Int} {ls : List ByteArray} {g : Nat} {ws : List ByteArray} {v : Value} {ns : List Int} (h : NS M X w3 ld ls g ws v ns W) {l : Nat} (hl : ns.length = l) (h0 : 0 < l) : ∃ nb c, v = .slice (some ⟨nb, 0, none⟩) l c := by
  obtain ⟨b, c, e, -⟩ := h.at (by omega)
  rw [hl] at e
  exact ⟨b, c, e⟩
theorem first_start (k : LnK) : (k.first = sInput ∧ k.start = 2) ∨ (k.first = sOutput ∧ k.start = 2) ∨ (k.first = sModel ∧ k.start = 2) ∨ (k.first = sLatch ∧ k.start = 1) ∨ (k.first = sAnd ∧ k.start = 1) ∨ (k.first = sEnd ∧ k.start = 1) := by
  cases k
  · exact .inr (.inr (.inl ⟨rfl, rfl⟩))
  · exact .inl ⟨rfl, rfl⟩
  · exact .inr (.inr (.inr (.inl ⟨rfl, rfl⟩)))
  · exact .inr (.inr (.inr (.inr (.inl ⟨rfl, rfl⟩))))
  · exact .inr (.inl ⟨rfl, rfl⟩)
  · exact .inr (.inr (.inr (.inr (.inr ⟨rfl, rfl⟩))))
theorem take_next {l : List Int} {p st : Nat} {x : Int} (h : st ≤ p) (hx : l[p - st]? = some x) : l.take (p + 1 - st) = l.take (p - st) ++ [x] := by
  rw [show p + 1 - st = (p - st) + 1 by omega, List.take_add_one, hx]
  rfl
end Go.Proofs.YtafoohdndlhbnaaGreatDoor
end
