/-
  Eval, plainly: the inputs' words laid in, then each gate's, rising; what comes of it.
  Eval: the walk.
  Gate, Inputs; the law package's own 'brought'.
  Netlists, plainly: buses, registers, what each call makes of one; what is well formed.
-/
import Derived.Test.YtnhpjacodhdpeaaDoorFEKG
import Derived.Test.YtnhpjacodhdpeaaDoorFEKI
import Derived.Deep.CutBlock
import Derived.Deep.DeepCutAuto
import Derived.Lib.SliceRun
section
namespace Go.Proofs.YtnhpjacodhdpeaaDoor
open Go.RowKit Num

def in1 (G : Gr) (ins : List Int) : Nat → List Int
  | 0 => List.replicate G.nodes.length 0
  | j + 1 => (in1 G ins j).set (G.inputs.getD j 0).toNat (ins.getD j 0)
def nodeAt (G : Gr) (i : Nat) : Nd := G.nodes.getD i ⟨false, 0, 0⟩
def gateW (G : Gr) (i : Nat) (ws : List Int) : Int := bits .and .u64 (wordV (nodeAt G i).a ws) (wordV (nodeAt G i).b ws)
def ev (G : Gr) (W : List Int) : Nat → List Int
  | 0 => W
  | i + 1 => if (nodeAt G i).gate then (ev G W i).set i (gateW G i (ev G W i)) else ev G W i

theorem in1_len (G : Gr) (ins : List Int) (j : Nat) : (in1 G ins j).length = G.nodes.length := by
  induction j with
  | zero => simp [in1]
  | succ j ih => simp [in1, ih]
theorem ev_len (G : Gr) (W : List Int) (i : Nat) : (ev G W i).length = W.length := by
  induction i with
  | zero => rfl
  | succ i ih => unfold ev; split <;> simp [ih]
theorem words_set {ws : List Int} (h : Words ws) (i : Nat) {x : Int} (hx : 0 ≤ x ∧ x < 18446744073709551616) : Words (ws.set i x) := by
  intro j
  simp only [List.getD, List.getElem?_set]
  by_cases e : i = j
  · subst e
    by_cases hl : i < ws.length
    · simp [hl]; omega
    · simp [hl]
  · simp [e]; exact h j
theorem words_zero (n : Nat) : Words (List.replicate n 0) := by
  intro i
  simp [List.getD, List.getElem?_replicate]
  split <;> simp
theorem in1_words (G : Gr) {ins : List Int} (h : Words ins) (j : Nat) : Words (in1 G ins j) := by
  induction j with
  | zero => exact words_zero _
  | succ j ih => exact words_set ih _ (h j)
theorem gateW_bd (G : Gr) (i : Nat) {ws : List Int} (h : Words ws) : 0 ≤ gateW G i ws ∧ gateW G i ws < 18446744073709551616 := by
  have a := wordV_bd h (nodeAt G i).a
  have b := wordV_bd h (nodeAt G i).b
  exact and_bd a.1 a.2 b.1 b.2
theorem ev_words (G : Gr) {W : List Int} (h : Words W) (i : Nat) : Words (ev G W i) := by
  induction i with
  | zero => exact h
  | succ i ih =>
    unfold ev; split
    · exact words_set ih _ (gateW_bd G i ih)
    · exact ih
theorem getD_set {ws : List Int} (i j : Nat) (x : Int) (hi : i < ws.length) : (ws.set i x).getD j 0 = if i = j then x else ws.getD j 0 := by
  simp only [List.getD, List.getElem?_set]
  by_cases e : i = j
  · subst e; simp [hi]
  · simp [e]
/-- What is laid in. -/
theorem in1_at {G : Gr} (hW : Wf G) (ins : List Int) : ∀ j, j ≤ G.inputs.length → (∀ (k i : Nat), k < j → G.inputs[k]? = some (i : Int) → (in1 G ins j).getD i 0 = ins.getD k 0) ∧ (in1 G ins j).getD 0 0 = 0 := by
  intro j
  induction j with
  | zero =>
    intro _
    refine ⟨fun k i h => by omega, ?_⟩
    have := words_zero G.nodes.length
    simp [in1, List.getD, List.getElem?_replicate]
    split <;> simp
  | succ j ih =>
    intro hj
    obtain ⟨h1, h2⟩ := ih (by omega)
    have hg : G.inputs[j]? = some (G.inputs.getD j 0) := by simp [List.getD, show j < G.inputs.length by omega]
    obtain ⟨m, em, m0, n, hn, -⟩ := hW.ins j _ hg
    have hm := (List.getElem?_eq_some_iff.1 hn).1
    have hml : m < (in1 G ins j).length := by rw [in1_len]; exact hm
    rw [show in1 G ins (j + 1) = (in1 G ins j).set (G.inputs.getD j 0).toNat (ins.getD j 0) from rfl, em, Int.toNat_natCast]
    refine ⟨fun k i hk hki => ?_, ?_⟩
    · rw [getD_set _ _ _ hml]
      by_cases e : k = j
      · subst e
        rw [hg] at hki
        have : m = i := by have := Option.some.inj hki; omega
        rw [if_pos this]
      · have hlt : k < j := by omega
        have := hW.rise k j _ _ hlt hki hg
        rw [if_neg (by omega)]
        exact h1 k i hlt hki
    · rw [getD_set _ _ _ hml, if_neg (by omega)]; exact h2
/-- What is past stays. -/
theorem ev_past (G : Gr) (W : List Int) (hl : W.length = G.nodes.length) (k : Nat) : ∀ d i, k < i → (ev G W (i + d)).getD k 0 = (ev G W i).getD k 0 := by
  intro d
  induction d with
  | zero => intro i _; rfl
  | succ d ih =>
    intro i hk
    rw [← ih i hk, show i + (d + 1) = (i + d) + 1 from rfl]
    show (if (nodeAt G (i + d)).gate then (ev G W (i + d)).set (i + d) (gateW G (i + d) (ev G W (i + d))) else ev G W (i + d)).getD k 0 = _
    split
    · by_cases hlt : i + d < (ev G W (i + d)).length
      · rw [getD_set _ _ _ hlt, if_neg (by omega)]
      · rw [List.set_eq_of_length_le (by omega)]
    · rfl
theorem ev_plain (G : Gr) (W : List Int) (k : Nat) (hk : (nodeAt G k).gate = false) : ∀ i, (ev G W i).getD k 0 = W.getD k 0 := by
  intro i
  induction i with
  | zero => rfl
  | succ i ih =>
    unfold ev
    split
    · rename_i hg
      by_cases hlt : i < (ev G W i).length
      · rw [getD_set _ _ _ hlt, if_neg (fun e => by subst e; rw [hk] at hg; cases hg)]; exact ih
      · rw [List.set_eq_of_length_le (by omega)]; exact ih
    · exact ih
theorem wordV_congr {l : Int} {ws ws' : List Int} (hl : ws.length = ws'.length) (h0 : 0 ≤ l) (h : ws.getD (l / 2).toNat 0 = ws'.getD (l / 2).toNat 0) : wordV l ws = wordV l ws' := by
  have e : nodeW (l / 2) ws = nodeW (l / 2) ws' := by
    unfold nodeW; rw [hl, h]
  unfold wordV; rw [e]
/-- Eval says the graph's words. -/
theorem ev_val {G : Gr} (hW : Wf G) {ins : List Int} (hI : Words ins) : Val G ins (ev G (in1 G ins G.inputs.length) G.nodes.length) := by
  have hl := in1_len G ins G.inputs.length
  have hin := in1_at hW ins _ (Nat.le_refl _)
  have hat : ∀ i n, G.nodes[i]? = some n → nodeAt G i = n := fun i n h => by simp [nodeAt, List.getD, h]
  refine ⟨ev_words G (in1_words G hI _) _, by rw [ev_len, hl]; exact Nat.le_refl _, ?_, ?_, ?_⟩
  · rw [ev_plain G _ 0 (by rw [hat 0 _ hW.zero]) _]; exact hin.2
  · intro i n hn hg
    have hi := (List.getElem?_eq_some_iff.1 hn).1
    obtain ⟨la, lb, hba, hai⟩ := hW.gates i n hn hg
    have e1 : (ev G (in1 G ins G.inputs.length) G.nodes.length).getD i 0 = (ev G (in1 G ins G.inputs.length) (i + 1)).getD i 0 := by
      have := ev_past G _ hl i (G.nodes.length - (i + 1)) (i + 1) (by omega)
      rw [show i + 1 + (G.nodes.length - (i + 1)) = G.nodes.length by omega] at this
      exact this
    have e2 : ∀ k, k < i → (ev G (in1 G ins G.inputs.length) G.nodes.length).getD k 0 = (ev G (in1 G ins G.inputs.length) i).getD k 0 := fun k hk => by
      have := ev_past G _ hl k (G.nodes.length - i) i hk
      rw [show i + (G.nodes.length - i) = G.nodes.length by omega] at this
      exact this
    have e3 : (ev G (in1 G ins G.inputs.length) (i + 1)).getD i 0 = gateW G i (ev G (in1 G ins G.inputs.length) i) := by
      show (if (nodeAt G i).gate then (ev G _ i).set i (gateW G i (ev G _ i)) else ev G _ i).getD i 0 = _
      rw [hat i n hn, if_pos hg, getD_set _ _ _ (by rw [ev_len, hl]; exact hi), if_pos rfl]
    have ll : ∀ m, (ev G (in1 G ins G.inputs.length) i).length = (ev G (in1 G ins G.inputs.length) m).length := fun m => by rw [ev_len, ev_len]
    unfold IsLit at la lb
    rw [e1, e3]
    unfold gateW
    rw [hat i n hn, wordV_congr (ll _) la.1 (e2 _ (by omega)).symm, wordV_congr (ll _) lb.1 (e2 _ (by omega)).symm]
  · intro k i hk
    have hk2 := (List.getElem?_eq_some_iff.1 hk).1
    obtain ⟨m, em, m0, n, hn, hg⟩ := hW.ins k _ hk
    have : m = i := by omega
    subst this
    rw [ev_plain G _ m (by rw [hat m n hn]; exact hg) _]
    exact hin.1 k m hk2 hk
end Go.Proofs.YtnhpjacodhdpeaaDoor
end

section
namespace Go.Proofs.YtnhpjacodhdpeaaDoor
open Go.RowKit Go.Maps

theorem info_u64 : (Tryd.prog.info? 46).map (fun i => (i.zero, i.size, i.bytes)) = some (some (.int .u64 0), 1, 8) := by kernel_rfl
theorem made_zero (kd : IntKind) (n : Nat) : (madeCells (Value.int kd 0).cells (n * 1)).toList = (List.replicate n (0 : Int)).map (Value.int kd) := by
  rw [fillK_zero kd (fun _ => 0) n]
  congr 1
  apply List.ext_getElem
  · simp [fillF, Bits.row]
  · intro i h1 h2; simp [fillF, Bits.row]

theorem node_cells {w : World} {p : Pl} {G : Gr} (hL : Lay w p G.fold G.hash G.nodes G.inputs) {j : Nat} (hj : j < G.nodes.length) :
    w.cell? ⟨p.nb, j * 3, none⟩ = some (.bool (nodeAt G j).gate) ∧ w.cell? ⟨p.nb, j * 3 + 1, none⟩ = some (.int .u32 (nodeAt G j).a) ∧ w.cell? ⟨p.nb, j * 3 + 2, none⟩ = some (.int .u32 (nodeAt G j).b) := by
  have hn : G.nodes[j]? = some (nodeAt G j) := by simp [nodeAt, List.getD, hj]
  obtain ⟨e0, e1, e2⟩ := nodeCells_at _ _ _ hn
  have ho : w.ownsRow 0 149 3 (.slice (some ⟨p.nb, 0, none⟩) G.nodes.length p.nc) G.nodes.length (nodeCells G.nodes) := hL.nodes
  rw [ho.cellAt _ (by omega), ho.cellAt _ (by omega), ho.cellAt _ (by omega), Nat.mul_comm j 3]
  exact ⟨e0, e1, e2⟩

theorem tri_box (w : World) (x y z : Value) (T : Nat) : (w.alloc (.cells #[x, y, z] T)).cell? ⟨w.heap.size, 1, none⟩ = some y ∧ (w.alloc (.cells #[x, y, z] T)).cell? ⟨w.heap.size, 2, none⟩ = some z := ⟨by simp [go_sem], by simp [go_sem]⟩

end Go.Proofs.YtnhpjacodhdpeaaDoor
end

section
namespace Go.Proofs.YtnhpjacodhdpeaaDoor
open Go.RowKit Go.Maps
set_option maxRecDepth 100000

theorem Gate_any {w : World} {p : Pl} {G : Gr} (hG : Is w p G) (hW : Wf G) (hm : G.nodes.length ≤ 200000) {j : Nat} (hj : j < G.nodes.length) :
    Calls Tryd.prog 149 #[.pointer (some ⟨p.b, 0, none⟩), .int .i64 j] w fun e w' => e = .returned (.tuple #[.int .u32 (nodeAt G j).a, .int .u32 (nodeAt G j).b, .bool (nodeAt G j).gate]) ∧ Below w.heap.size w w' := by
  have hno := Lib.hid (nodes_any hG.lay hW.pos)
  obtain ⟨-, -, c2, -, -, -⟩ := hG.lay.cells
  have hlt := hG.lay.lt
  have hnl := hG.lay.nlt
  obtain ⟨n0, n1, n2⟩ := node_cells hG.lay hj
  have g0 : decide ((j : Int) < 0) = false := by simp
  have g1 : decide ((G.nodes.length : Int) ≤ j) = false := by simp; omega
  generalize G.nodes.length = k at *
  generalize (nodeAt G j).gate = ng at *
  generalize (nodeAt G j).a = na at *
  generalize (nodeAt G j).b = nb at *
  clear hG hW
  go_enter Tryd.func149, Tryd.ntmps149
  go_wp2_with (go_at_call 116; (with_reducible refine hno.out.mono ?_); rintro e w2 ⟨rfl, rfl⟩)
  go_quiet (fail)
  go_wp2
  refine bodyPost_ret (v := .tuple #[.int .u32 na, .int .u32 nb, .bool ng]) (by simp [results, Tryd.results149, go_sem]) rfl ⟨rfl, nextw ((Below.refl _ _).alloc (Nat.le_refl _) _) (below_draws _ _)⟩

theorem Inputs_any {w : World} {p : Pl} {G : Gr} (hG : Is w p G) (hW : Wf G) (hm : G.nodes.length ≤ 200000) :
    Calls Tryd.prog 144 #[.pointer (some ⟨p.b, 0, none⟩)] w fun e w' => ∃ (a : Option Addr) (cap : Nat), e = .returned (.slice a G.inputs.length cap) ∧ Below w.heap.size w w' := by
  have hst := Lib.hid (stands_any hG.lay hW.pos)
  have hcn := hW.cnt
  obtain ⟨-, -, -, c3, -, -⟩ := hG.lay.cells
  obtain ⟨ia, ic, hiv⟩ := own_slice hG.lay.inputs
  rw [hiv] at c3
  have hio := hG.lay.inputs
  rw [hiv] at hio
  have hil : G.inputs.length ≤ 200000 := by omega
  have hcl : Hid (∀ w2, w2 = w → Calls Tryd.prog 151 #[.slice ia G.inputs.length ic] w2 fun e w' => ∃ (a : Option Addr) (cap : Nat), e = .returned (.slice a G.inputs.length cap) ∧ Below w.heap.size w w') := by
    show ∀ w2, _
    rintro w2 rfl
    obtain ⟨i0, hi, hz0, hz1, hz2⟩ := info_parts info_int
    have hlen : (G.inputs.map (Value.int .i64)).length = G.inputs.length := by simp
    have hone : ∀ u ∈ G.inputs.map (Value.int .i64), u.oneCell' = true := by
      intro u hu
      obtain ⟨z, -, rfl⟩ := List.mem_map.1 hu
      rfl
    clear hst hcn hiv c3 hG hW
    generalize G.inputs.map (Value.int .i64) = xs at *
    generalize G.inputs.length = m at *
    rcases hio.2 with ⟨h0, h1⟩ | ⟨g, cap', cur, hv, -, -⟩
    · simp at h0
      obtain ⟨rfl, rfl, rfl⟩ := h0
      clear hio hlen hone h1
      have heq : ∀ W, (binOp .eql 141 (.slice none 0 0) (.slice none 0 0)).run Tryd.prog W = .ok (.bool true) W := fun W => Lib.run_eql_slice_nil W _ _ _ _ _ _ _ Tryd.underlying141
      go_enter Tryd.func151, Tryd.ntmps151
      go_wp2
      go_ret
      exact ⟨none, 0, rfl, Below.refl _ _⟩
    · simp at hv
      obtain ⟨rfl, rfl⟩ := hv
      have hlt := own_lt hio
      have hcells := hio.cells (g := g) rfl
      have HO := Lib.hid (fun j u (h : xs[j]? = some u) => hcells j u h)
      have HL := Lib.hid hlen
      have H1 := Lib.hid hone
      have hemp : Hid ((w2.alloc (.cells #[] 3)).ownsRow w2.heap.size 3 1 (.slice (some ⟨w2.heap.size, 0, none⟩) 0 0) 0 []) := Lib.hid ⟨rfl, .inr ⟨w2.heap.size, 0, #[], rfl, Nat.le_refl _, Deep.blk_alloc_new _ _, Nat.le_refl _, by decide, rfl, rfl⟩⟩
      have hb0 : Hid (Below w2.heap.size w2 (w2.alloc (.cells #[] 3))) := Lib.hid ((Below.refl _ _).alloc (Nat.le_refl _) _)
      have hadd : ∀ j, (⟨g, 0, none⟩ : Addr).add j = ⟨g, j, none⟩ := fun j => by simp [Addr.add]; omega
      have HN := Lib.hid (fun j u (h : xs[j]? = some u) => (hb0.out.cell (p := (⟨g, 0, none⟩ : Addr).add j) (by rw [hadd]; exact hlt)).trans (HO.out j u h))
      clear hio hcells hlen hone hadd
      have heq : ∀ W, (binOp .eql 141 (.slice (some ⟨g, 0, none⟩) m ic) (.slice none 0 0)).run Tryd.prog W = .ok (.bool false) W := fun W => Lib.run_eql_slice_nil W _ _ _ _ _ _ _ Tryd.underlying141
      go_enter Tryd.func151, Tryd.ntmps151
      go_wp2_with (at_builtin; refine wpList_append_own_at _ rfl _ _ 141 rfl w2.heap.size 3 i0 (.int .i64 0) 1 8 Tryd.underlying141 hi hz0 hz1 hz2 rfl (by decide) (.slice (some ⟨w2.heap.size, 0, none⟩) 0 0) 0 [] rfl hemp.out ⟨g, 0, none⟩ m ic xs rfl (by rw [HL.out]; omega) HN.out H1.out (by unfold maxLen; omega) (by omega) (by simp) ?_; intro v' w3 hown' hgrow hnil hloc)
      obtain ⟨a3, c3, rfl⟩ := own_slice hown'
      go_wp2
      go_ret
      refine ⟨a3, c3, by simp, ?_⟩
      exact hb0.out.grown hgrow (by simp) (fun k hk => by simp [Value.ownBlock] at hk; omega)
  clear hG hW hcn hio hiv
  generalize G.inputs.length = m at *
  go_enter Tryd.func144, Tryd.ntmps144
  go_wp2_with (first
    | (go_at_call 77; refine hst.out.mono ?_; rintro e w2 ⟨rfl, rfl⟩)
    | (go_at_call 151; refine (hcl.out _ rfl).mono ?_; rintro e w2 ⟨a2, cap2, rfl, hB⟩))
  go_ret
  exact ⟨a2, cap2, rfl, hB⟩
end Go.Proofs.YtnhpjacodhdpeaaDoor
end

section
namespace Go.Proofs.YtnhpjacodhdpeaaDoor
open Go.RowKit Num

structure Bus where
  name : ByteArray
  lits : List Int
structure Rg where
  q : Int
  d : Int
  en : Int
  init : Bool
structure Nt where
  g : Gr
  name : ByteArray
  ins : List Bus
  regs : List Rg
  outs : List Bus

def spellB (b : Int) : Bool := ((((((decide (97 ≤ b) && decide (b ≤ 122)) || (decide (65 ≤ b) && decide (b ≤ 90))) || (decide (48 ≤ b) && decide (b ≤ 57))) || (b == 95)) || (b == 64)) || (b == 63))
def mayName (s : ByteArray) : Bool := decide (1 ≤ s.size) && (decide (s.size ≤ 80) && s.data.toList.all (fun b => spellB b.toNat))
def wide (n : Int) : Bool := decide (1 ≤ n) && decide (n ≤ 64)
def sameN (s t : ByteArray) : Bool := s.toList == t.toList
theorem sameN_refl (s : ByteArray) : sameN s s = true := by simp [sameN]
theorem sameN_comm (s t : ByteArray) : sameN s t = sameN t s := by
  unfold sameN
  rw [Bool.eq_iff_iff, beq_iff_eq, beq_iff_eq]
  exact eq_comm
theorem sameN_trans {s t u : ByteArray} (h : sameN s t = true) (k : sameN t u = true) : sameN s u = true := by
  simp [sameN] at *; rw [h, k]

/-- Where a row has a first one of the kind; below 0, if none. -/
def firstV : Option Nat → Int
  | some i => i
  | none => -1
def atB (L : List Bus) (s : ByteArray) : Option Nat := L.findIdx? (fun b => sameN b.name s)
def regAt (R : List Rg) (q : Int) : Option Nat := R.findIdx? (fun r => r.q == q)
def hasB (G : Gr) (l : Int) : Bool := decide (l / 2 < G.nodes.length)
def allHas (G : Gr) (l : List Int) : Bool := l.all (hasB G)

def inputsN (G : Gr) : Nat → Gr
  | 0 => G
  | k + 1 => inputG (inputsN G k)
/-- The literals of k inputs that come next. -/
def newL (G : Gr) (k : Nat) : List Int := (List.range k).map (fun (i : Nat) => 2 * ((G.nodes.length + i : Nat) : Int))

theorem inputsN_len (G : Gr) (k : Nat) : (inputsN G k).nodes.length = G.nodes.length + k := by
  induction k with
  | zero => rfl
  | succ k ih => show (inputG (inputsN G k)).nodes.length = _; rw [inputG_len, ih]; omega
theorem inputsN_wf {G : Gr} (h : Wf G) (k : Nat) : Wf (inputsN G k) := by
  induction k with
  | zero => exact h
  | succ k ih => exact Wf_inputG ih
theorem inputsN_le (G : Gr) (k : Nat) : Le G (inputsN G k) := by
  induction k with
  | zero => exact Le.refl _
  | succ k ih => exact ih.trans (inputG_le _)
theorem inputsN_succ (G : Gr) (k : Nat) : inputsN G (k + 1) = inputG (inputsN G k) := rfl
theorem newL_len (G : Gr) (k : Nat) : (newL G k).length = k := by simp [newL]
theorem newL_succ (G : Gr) (k : Nat) : newL G (k + 1) = newL G k ++ [2 * ((G.nodes.length + k : Nat) : Int)] := by simp [newL, List.range_succ]

/-- What comes in. -/
def inLits (G : Gr) : List Int := G.inputs.map (fun i => 2 * i)
theorem inLits_inputG (G : Gr) : inLits (inputG G) = inLits G ++ [2 * (G.nodes.length : Int)] := by simp [inLits, inputG]
theorem inLits_inputsN (G : Gr) (k : Nat) : inLits (inputsN G k) = inLits G ++ newL G k := by
  induction k with
  | zero => simp [inputsN, newL]
  | succ k ih => rw [inputsN_succ, inLits_inputG, ih, newL_succ, inputsN_len, List.append_assoc]

def litsOf (L : List Bus) : List Int := L.flatMap (fun b => b.lits)
def takenN (N : Nt) : List Int := litsOf N.ins ++ N.regs.map (fun r => r.q)

def addIn (N : Nt) (s : ByteArray) (k : Int) : Nt × List Int × Int :=
  if (mayName s && wide k) = true then
    if (atB N.ins s).isSome = true then (N, [], 9)
    else ({ N with g := inputsN N.g k.toNat, ins := N.ins ++ [⟨s, newL N.g k.toNat⟩] }, newL N.g k.toNat, 0)
  else (N, [], 1)
def addReg (N : Nt) (i : Bool) : Nt × Int := ({ N with g := inputG N.g, regs := N.regs ++ [⟨2 * (N.g.nodes.length : Int), 0, 0, i⟩] }, 2 * (N.g.nodes.length : Int))
def setRg (d en : Int) (r : Rg) : Rg := { r with d := d, en := en }
def setReg (N : Nt) (q d en : Int) : Nt × Int :=
  match regAt N.regs q with
  | none => (N, 1)
  | some i => if allHas N.g [d, en] = true then ({ N with regs := N.regs.modify i (setRg d en) }, 0) else (N, 1)
def addOut (N : Nt) (s : ByteArray) (l : List Int) : Nt × Int :=
  if (mayName s && (wide l.length && allHas N.g l)) = true then
    if (atB N.outs s).isSome = true then (N, 9) else ({ N with outs := N.outs ++ [⟨s, l⟩] }, 0)
  else (N, 1)
def gateN (T : Gr → Int → Int → Gr × Int) (N : Nt) (b c : Int) : Nt × Int × Int :=
  if allHas N.g [b, c] = true then ({ N with g := (T N.g b c).1 }, (T N.g b c).2, 0) else (N, 0, 1)

def NamesApart (L : List Bus) : Prop := L.Pairwise (fun a b => sameN a.name b.name = false)
structure BusesOk (L : List Bus) : Prop where
  name : ∀ b ∈ L, mayName b.name = true
  wide : ∀ b ∈ L, 1 ≤ b.lits.length ∧ b.lits.length ≤ 64
  apart : NamesApart L
/-- Well formed, but for inputs that nothing drives. -/
structure Good (N : Nt) (rest : List Int) : Prop where
  wf : Wf N.g
  name : mayName N.name = true
  ins : BusesOk N.ins
  outs : BusesOk N.outs
  outT : ∀ b ∈ N.outs, ∀ x ∈ b.lits, There N.g x
  regT : ∀ r ∈ N.regs, There N.g r.d ∧ There N.g r.en
  drv : (takenN N ++ rest).Perm (inLits N.g)

theorem atB_none {L : List Bus} {s : ByteArray} (h : (atB L s).isSome ≠ true) : ∀ b ∈ L, sameN b.name s = false := by
  unfold atB at h
  intro b hb
  have : L.findIdx? (fun b => sameN b.name s) = none := by
    cases e : L.findIdx? (fun b => sameN b.name s) with
    | none => rfl
    | some i => rw [e] at h; simp at h
  rw [List.findIdx?_eq_none_iff] at this
  simpa using this b hb
theorem BusesOk.push {L : List Bus} (h : BusesOk L) {s : ByteArray} {l : List Int} (hs : mayName s = true) (hl : 1 ≤ l.length ∧ l.length ≤ 64) (ha : (atB L s).isSome ≠ true) : BusesOk (L ++ [⟨s, l⟩]) := by
  refine ⟨?_, ?_, ?_⟩
  · intro b hb; rcases List.mem_append.1 hb with h1 | h1
    · exact h.name b h1
    · simp at h1; subst h1; exact hs
  · intro b hb; rcases List.mem_append.1 hb with h1 | h1
    · exact h.wide b h1
    · simp at h1; subst h1; exact hl
  · unfold NamesApart
    rw [List.pairwise_append]
    refine ⟨h.apart, by simp, fun a ha' b hb => ?_⟩
    simp at hb; subst hb
    exact atB_none ha a ha'
theorem wide_iff {k : Int} : wide k = true ↔ 1 ≤ k ∧ k ≤ 64 := by simp [wide]
theorem hasB_there {G : Gr} {x : Int} (hx : IsLit x) : hasB G x = true ↔ There G x := by
  unfold hasB There
  simp [hx]
theorem allHas_there {G : Gr} {l : List Int} (hl : ∀ x ∈ l, IsLit x) (h : allHas G l = true) : AllThere G l := by
  intro x hx
  unfold allHas at h
  exact (hasB_there (hl x hx)).1 (List.all_eq_true.1 h x hx)

theorem Good.new (F H : Bool) {s : ByteArray} (hs : mayName s = true) : Good ⟨newG F H, s, [], [], []⟩ [] :=
  ⟨Wf_new F H, hs, ⟨by simp, by simp, List.Pairwise.nil⟩, ⟨by simp, by simp, List.Pairwise.nil⟩, by simp, by simp, by simp [takenN, litsOf, inLits, newG]⟩
theorem litsOf_push (L : List Bus) (b : Bus) : litsOf (L ++ [b]) = litsOf L ++ b.lits := by simp [litsOf]
theorem Good.addIn {N : Nt} {rest : List Int} (h : Good N rest) (s : ByteArray) (k : Int) : Good (addIn N s k).1 rest := by
  unfold YtnhpjacodhdpeaaDoor.addIn
  split
  · rename_i hc
    simp only [Bool.and_eq_true] at hc
    split
    · exact h
    · rename_i ha
      have hk := wide_iff.1 hc.2
      have hL := inputsN_le N.g k.toNat
      refine ⟨inputsN_wf h.wf _, h.name, h.ins.push hc.1 (by rw [newL_len]; omega) ha, h.outs, fun b hb x hx => hL.there (h.outT b hb x hx), fun r hr => ⟨hL.there (h.regT r hr).1, hL.there (h.regT r hr).2⟩, ?_⟩
      show (litsOf (N.ins ++ [⟨s, newL N.g k.toNat⟩]) ++ N.regs.map (fun r => r.q) ++ rest).Perm (inLits (inputsN N.g k.toNat))
      rw [litsOf_push, inLits_inputsN]
      have hd := h.drv
      unfold takenN at hd
      refine List.Perm.trans ?_ (List.Perm.append_right _ hd)
      simp only [List.append_assoc]
      refine List.Perm.append_left _ ?_
      have h1 : (newL N.g k.toNat ++ (List.map (fun r => r.q) N.regs ++ rest)).Perm ((List.map (fun r => r.q) N.regs ++ rest) ++ newL N.g k.toNat) := List.perm_append_comm
      simpa [List.append_assoc] using h1
  · exact h
theorem Good.addReg {N : Nt} {rest : List Int} (h : Good N rest) (i : Bool) : Good (addReg N i).1 rest := by
  have hL := inputG_le N.g
  have hp := h.wf.pos
  have h0 : There (inputG N.g) 0 := ⟨by unfold IsLit; omega, by rw [inputG_len]; omega⟩
  refine ⟨Wf_inputG h.wf, h.name, h.ins, h.outs, fun b hb x hx => hL.there (h.outT b hb x hx), fun r hr => ?_, ?_⟩
  · rcases List.mem_append.1 hr with h1 | h1
    · exact ⟨hL.there (h.regT r h1).1, hL.there (h.regT r h1).2⟩
    · simp at h1; subst h1; exact ⟨h0, h0⟩
  · show (litsOf N.ins ++ (N.regs ++ [_]).map (fun (r : Rg) => r.q) ++ rest).Perm (inLits (inputG N.g))
    rw [inLits_inputG]
    have hd := h.drv
    unfold takenN at hd
    refine List.Perm.trans ?_ (List.Perm.append_right _ hd)
    simp only [List.map_append, List.append_assoc, List.map_cons, List.map_nil]
    refine List.Perm.append_left _ (List.Perm.append_left _ ?_)
    exact List.perm_append_comm
theorem modify_q (R : List Rg) (i : Nat) (d en : Int) : (R.modify i (setRg d en)).map (fun r => r.q) = R.map (fun r => r.q) := by
  apply List.ext_getElem
  · simp
  · intro k h1 h2
    simp [List.getElem_modify]
    split <;> rfl
theorem Good.setReg {N : Nt} {rest : List Int} (h : Good N rest) (q d en : Int) (hd : IsLit d) (he : IsLit en) : Good (setReg N q d en).1 rest := by
  unfold YtnhpjacodhdpeaaDoor.setReg
  split
  · exact h
  · rename_i i hi
    split
    · rename_i hc
      have ht := allHas_there (l := [d, en]) (by intro x hx; simp at hx; rcases hx with rfl | rfl <;> assumption) hc
      refine ⟨h.wf, h.name, h.ins, h.outs, h.outT, fun r hr => ?_, ?_⟩
      · obtain ⟨k, hk, rfl⟩ := List.getElem_of_mem hr
        simp [List.getElem_modify]
        split
        · exact ⟨ht d (by simp), ht en (by simp)⟩
        · exact h.regT _ (List.getElem_mem _)
      · show (litsOf N.ins ++ (N.regs.modify i (setRg d en)).map (fun r => r.q) ++ rest).Perm (inLits N.g)
        rw [modify_q]
        exact h.drv
    · exact h
theorem Good.addOut {N : Nt} {rest : List Int} (h : Good N rest) (s : ByteArray) (l : List Int) (hl : ∀ x ∈ l, IsLit x) : Good (addOut N s l).1 rest := by
  unfold YtnhpjacodhdpeaaDoor.addOut
  split
  · rename_i hc
    simp only [Bool.and_eq_true] at hc
    split
    · exact h
    · rename_i ha
      have hk := wide_iff.1 hc.2.1
      have ht := allHas_there hl hc.2.2
      refine ⟨h.wf, h.name, h.ins, h.outs.push hc.1 (by omega) ha, fun b hb x hx => ?_, h.regT, h.drv⟩
      rcases List.mem_append.1 hb with h1 | h1
      · exact h.outT b h1 x hx
      · simp at h1; subst h1; exact ht x hx
  · exact h
theorem Good.grow {N : Nt} {rest : List Int} (h : Good N rest) {G' : Gr} {l : Int} {k : Nat} (g : Grows N.g G' l k) : Good { N with g := G' } rest :=
  ⟨g.wf, h.name, h.ins, h.outs, fun b hb x hx => g.le.there (h.outT b hb x hx), fun r hr => ⟨g.le.there (h.regT r hr).1, g.le.there (h.regT r hr).2⟩, by
    show (takenN N ++ rest).Perm (inLits G')
    have := h.drv
    unfold inLits at this ⊢
    rw [g.ins]; exact this⟩
theorem Good.input {N : Nt} {rest : List Int} (h : Good N rest) : Good { N with g := inputG N.g } (rest ++ [2 * (N.g.nodes.length : Int)]) := by
  have hL := inputG_le N.g
  refine ⟨Wf_inputG h.wf, h.name, h.ins, h.outs, fun b hb x hx => hL.there (h.outT b hb x hx), fun r hr => ⟨hL.there (h.regT r hr).1, hL.there (h.regT r hr).2⟩, ?_⟩
  show (takenN N ++ (rest ++ _)).Perm (inLits (inputG N.g))
  rw [inLits_inputG, ← List.append_assoc]
  exact List.Perm.append_right _ h.drv

/-! ### what is not taken yet -/
theorem inLits_nodup {G : Gr} (h : Wf G) : (inLits G).Nodup := by
  unfold inLits List.Nodup
  rw [List.pairwise_map, List.pairwise_iff_getElem]
  intro i j hi hj hij e
  have := h.rise i j _ _ hij (List.getElem?_eq_getElem hi) (List.getElem?_eq_getElem hj)
  omega
theorem inLits_mem {G : Gr} (h : Wf G) {x : Int} (hx : x ∈ inLits G) : ∃ i : Nat, x = 2 * (i : Int) ∧ 0 < i ∧ i < G.nodes.length ∧ (i : Int) ∈ G.inputs := by
  unfold inLits at hx
  obtain ⟨v, hv, rfl⟩ := List.mem_map.1 hx
  obtain ⟨k, hk, rfl⟩ := List.getElem_of_mem hv
  obtain ⟨i, e, h0, n, hn, -⟩ := h.ins k _ (List.getElem?_eq_getElem hk)
  exact ⟨i, by simp only [e], h0, (List.getElem?_eq_some_iff.1 hn).1, by rw [← e]; exact List.getElem_mem _⟩
/-- What is still to be taken: each an input's literal, none twice. -/
structure Left (G : Gr) (l : List Int) : Prop where
  nodup : l.Nodup
  lit : ∀ x ∈ l, ∃ i : Nat, x = 2 * (i : Int) ∧ 0 < i ∧ i < G.nodes.length
theorem Good.left {N : Nt} {rest : List Int} (h : Good N rest) : Left N.g (takenN N ++ rest) :=
  ⟨h.drv.nodup_iff.2 (inLits_nodup h.wf), fun x hx => by obtain ⟨i, e, h0, h1, -⟩ := inLits_mem h.wf (h.drv.mem_iff.1 hx); exact ⟨i, e, h0, h1⟩⟩
theorem Left.tail {G : Gr} {x : Int} {l : List Int} (h : Left G (x :: l)) : Left G l := ⟨(List.nodup_cons.1 h.nodup).2, fun y hy => h.lit y (by simp [hy])⟩
theorem Left.suffix {G : Gr} {k l : List Int} (h : Left G (k ++ l)) : Left G l := ⟨(List.nodup_append.1 h.nodup).2.1, fun y hy => h.lit y (by simp [hy])⟩

/-- Which nodes are free. -/
def freeB (l : List Int) (k : Nat) : Bool := l.contains (2 * (k : Int))
def freeL (n : Nat) (l : List Int) : List Value := (List.range n).map (fun k => Value.bool (freeB l k))
theorem freeL_len (n : Nat) (l : List Int) : (freeL n l).length = n := by simp [freeL]
theorem freeL_at (n : Nat) (l : List Int) {k : Nat} (h : k < n) : (freeL n l)[k]? = some (.bool (freeB l k)) := by simp [freeL, h]
theorem freeL_take {G : Gr} {k : Nat} {l : List Int} (h : Left G (2 * (k : Int) :: l)) (n : Nat) : (freeL n (2 * (k : Int) :: l)).set k (.bool false) = freeL n l := by
  have hn := (List.nodup_cons.1 h.nodup).1
  apply List.ext_getElem
  · simp [freeL]
  · intro i h1 h2
    simp [freeL, List.getElem_set] at *
    by_cases e : k = i
    · subst e; simp [freeB, hn]
    · have : ¬ ((i : Int) = k) := by omega
      have e2 : ¬ (2 * (i : Int) = 2 * (k : Int)) := by omega
      simp [e, freeB, e2]
theorem freeB_head (k : Nat) (l : List Int) : freeB (2 * (k : Int) :: l) k = true := by simp [freeB]
/-- The nodes of the first j of a row. -/
def marked (I : List Int) (j : Nat) : List Int := (I.take j).map (fun i => 2 * i)
theorem freeL_none (n : Nat) : freeL n [] = List.replicate n (.bool false) := by
  apply List.ext_getElem
  · simp [freeL]
  · intro i h1 h2; simp [freeL, freeB]
theorem freeL_mark (n : Nat) (I : List Int) {j i : Nat} (hj : I[j]? = some (i : Int)) : (freeL n (marked I j)).set i (.bool true) = freeL n (marked I (j + 1)) := by
  apply List.ext_getElem
  · simp [freeL]
  · intro k h1 h2
    have e : marked I (j + 1) = marked I j ++ [2 * (i : Int)] := by
      unfold marked; rw [List.take_add_one, hj]; simp
    simp [freeL, List.getElem_set, e] at *
    by_cases hk : i = k
    · subst hk; simp [freeB]
    · have e2 : ¬ ((k : Int) = i) := by omega
      have e3 : ¬ (2 * (k : Int) = 2 * (i : Int)) := by omega
      simp [hk, freeB, e3]
theorem freeL_perm (n : Nat) {l m : List Int} (h : l.Perm m) : freeL n l = freeL n m := by
  unfold freeL freeB
  apply List.map_congr_left
  intro k _
  have : l.contains (2 * (k : Int)) = m.contains (2 * (k : Int)) := by
    rw [Bool.eq_iff_iff]; simp [h.mem_iff]
  rw [this]
/-- Of moderate size. -/
structure Small (N : Nt) : Prop where
  g : N.g.nodes.length ≤ 180000
  ins : N.ins.length ≤ 9000
  regs : N.regs.length ≤ 9000
  outs : N.outs.length ≤ 9000
end Go.Proofs.YtnhpjacodhdpeaaDoor
end
