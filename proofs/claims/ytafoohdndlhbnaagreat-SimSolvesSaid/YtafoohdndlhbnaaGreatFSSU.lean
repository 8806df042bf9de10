/-
  Lanes turned, and a lane alone: plainly; math/bits.RotateLeft64.
  SimSolves, plainly: what a cycle's words are.
  SimSolves, plainly: what stands in a netlist's buses and registers is there; what a register's three tests come to; what a row of words holds at a place.
-/
import Derived.Test.YtafoohdndlhbnaaGreatFSST
section
namespace Go.Proofs.YtafoohdndlhbnaaGreat
open Go.RowKit Go.Maps Bits Num
set_option maxRecDepth 100000

/-- A word with all lanes turned. -/
def rotV (k : Nat) (x : Int) : Int := bits .or .u64 (IntKind.u64.wrap (x * 2 ^ k)) (x / 2 ^ (64 - k))
theorem rot_nat {k : Nat} (hk : k < 64) {x : Int} (h : Wd x) : rotV k x = (((x.toNat <<< k) % 2 ^ 64 ||| x.toNat >>> (64 - k) : Nat) : Int) := by
  obtain ⟨h0, h1⟩ := h
  obtain ⟨n, rfl⟩ : ∃ n : Nat, x = n := ⟨x.toNat, by omega⟩
  have a1 : IntKind.u64.wrap ((n : Int) * 2 ^ k) = (((n <<< k) % 2 ^ 64 : Nat) : Int) := by
    rw [w64, Nat.shiftLeft_eq, show (2:Int) = ((2:Nat):Int) from rfl, ← Int.natCast_pow, ← Int.natCast_mul]
    generalize n * 2 ^ k = y
    omega
  have a2 : (n : Int) / 2 ^ (64 - k) = ((n >>> (64 - k) : Nat) : Int) := by
    rw [Nat.shiftRight_eq_div_pow, show (2:Int) = ((2:Nat):Int) from rfl, ← Int.natCast_pow, ← Int.natCast_ediv]
  have b1 : (n <<< k) % 2 ^ 64 < 2 ^ 64 := Nat.mod_lt _ (by decide)
  have b2 : n >>> (64 - k) ≤ n := by rw [Nat.shiftRight_eq_div_pow]; exact Nat.div_le_self _ _
  unfold rotV
  generalize hx1 : (n <<< k) % 2 ^ 64 = x1 at *
  generalize hx2 : n >>> (64 - k) = x2 at *
  rw [a1, a2, or64 (by omega) (by omega) (by omega) (by omega)]
  simp only [Int.toNat_natCast]
  rw [hx1, hx2]
theorem rot_wd {k : Nat} (hk : k < 64) {x : Int} (h : Wd x) : Wd (rotV k x) := by
  rw [rot_nat hk h]
  have b1 : (x.toNat <<< k) % 2 ^ 64 < 2 ^ 64 := Nat.mod_lt _ (by decide)
  have b2 : x.toNat >>> (64 - k) < 2 ^ 64 := by
    rw [Nat.shiftRight_eq_div_pow]; exact Nat.lt_of_le_of_lt (Nat.div_le_self _ _) (by have := h.2; omega)
  have := Nat.or_lt_two_pow b1 b2
  unfold Wd; omega
theorem rot_bit {k : Nat} (hk : k < 64) {x : Int} (h : Wd x) {i : Nat} (hi : i < 64) : (rotV k x).toNat.testBit i = x.toNat.testBit (if k ≤ i then i - k else i + (64 - k)) := by
  have hz : x.toNat < 2 ^ 64 := by have := h.2; omega
  rw [rot_nat hk h, Int.toNat_natCast, Nat.testBit_or, Nat.testBit_mod_two_pow, Nat.testBit_shiftLeft, Nat.testBit_shiftRight]
  by_cases e : k ≤ i
  · rw [if_pos e]
    have : x.toNat.testBit (64 - k + i) = false := Nat.testBit_lt_two_pow (Nat.lt_of_lt_of_le hz (Nat.pow_le_pow_right (by decide) (by omega)))
    simp [hi, e, this]
  · rw [if_neg e, Nat.add_comm]
    simp [e]
theorem wd_ext {x y : Int} (hx : Wd x) (hy : Wd y) (h : ∀ i, i < 64 → x.toNat.testBit i = y.toNat.testBit i) : x = y := by
  have : x.toNat = y.toNat := by
    apply Nat.eq_of_testBit_eq
    intro i
    by_cases hi : i < 64
    · exact h i hi
    · have a : ∀ z : Int, Wd z → z.toNat.testBit i = false := fun z hz => Nat.testBit_lt_two_pow (Nat.lt_of_lt_of_le (show z.toNat < 2 ^ 64 by have := hz.2; omega) (Nat.pow_le_pow_right (by decide) (by omega)))
      rw [a x hx, a y hy]
  have := hx.1; have := hy.1; omega
theorem neg_wd {x : Int} (h : Wd x) : Wd (18446744073709551615 - x) := by unfold Wd at *; omega
theorem neg_bit {x : Int} (h : Wd x) {i : Nat} (hi : i < 64) : (18446744073709551615 - x).toNat.testBit i = !x.toNat.testBit i := by
  have h0 := h.1; have h1 := h.2
  have e : (18446744073709551615 - x).toNat = 2 ^ 64 - (x.toNat + 1) := by omega
  rw [e, Nat.testBit_two_pow_sub_succ (by omega)]
  simp [hi]
theorem andw_bd {a b : Int} (ha : Wd a) (hb : Wd b) : Wd (bits .and .u64 a b) := and_bd ha.1 ha.2 hb.1 hb.2
theorem and_bit {x y : Int} (hx : Wd x) (hy : Wd y) (i : Nat) : (bits .and .u64 x y).toNat.testBit i = (x.toNat.testBit i && y.toNat.testBit i) := by
  rw [and64 hx.1 hx.2 hy.1 hy.2, Int.toNat_natCast, Nat.testBit_and]
theorem or_bit {x y : Int} (hx : Wd x) (hy : Wd y) (i : Nat) : (bits .or .u64 x y).toNat.testBit i = (x.toNat.testBit i || y.toNat.testBit i) := by
  rw [or64 hx.1 hx.2 hy.1 hy.2, Int.toNat_natCast, Nat.testBit_or]
theorem or_neg {x y : Int} (hx : Wd x) (hy : Wd y) : bits .or .u64 x y = 18446744073709551615 - bits .and .u64 (18446744073709551615 - x) (18446744073709551615 - y) :=
  wd_ext (or_bd hx hy) (neg_wd (andw_bd (neg_wd hx) (neg_wd hy))) (fun i hi => by
    rw [neg_bit (andw_bd (neg_wd hx) (neg_wd hy)) hi, and_bit (neg_wd hx) (neg_wd hy), neg_bit hx hi, neg_bit hy hi, or_bit hx hy]
    cases x.toNat.testBit i <;> cases y.toNat.testBit i <;> rfl)
theorem wd0 : Wd 0 := by unfold Wd; omega
theorem wdM : Wd 18446744073709551615 := by unfold Wd; omega
theorem rot_zero {k : Nat} (hk : k < 64) : rotV k 0 = 0 := wd_ext (rot_wd hk wd0) wd0 (fun i hi => by rw [rot_bit hk wd0 hi]; simp)
theorem Thru.rot {k : Nat} (hk : k < 64) : Thru (fun x y => rotV k x = y) where
  zero := rot_zero hk
  neg x y hx hy e := by
    subst e
    refine wd_ext (rot_wd hk (neg_wd hx)) (neg_wd (rot_wd hk hx)) (fun i hi => ?_)
    rw [rot_bit hk (neg_wd hx) hi, neg_bit (rot_wd hk hx) hi, rot_bit hk hx hi, neg_bit hx (by split <;> omega)]
  and x y x' y' hx hy hx' hy' e e' := by
    subst e; subst e'
    refine wd_ext (rot_wd hk (andw_bd hx hx')) (andw_bd (rot_wd hk hx) (rot_wd hk hx')) (fun i hi => ?_)
    rw [rot_bit hk (andw_bd hx hx') hi, and_bit hx hx', and_bit (rot_wd hk hx) (rot_wd hk hx'), rot_bit hk hx hi, rot_bit hk hx' hi]
theorem Thru.lane {m : Int} (hm : Wd m) : Thru (fun x y => bits .and .u64 x m = bits .and .u64 y m) where
  zero := rfl
  neg x y hx hy e := by
    refine wd_ext (andw_bd (neg_wd hx) hm) (andw_bd (neg_wd hy) hm) (fun i hi => ?_)
    have := congrArg (fun z : Int => z.toNat.testBit i) e
    simp only [and_bit hx hm, and_bit hy hm] at this
    rw [and_bit (neg_wd hx) hm, and_bit (neg_wd hy) hm, neg_bit hx hi, neg_bit hy hi]
    revert this
    cases x.toNat.testBit i <;> cases y.toNat.testBit i <;> cases m.toNat.testBit i <;> simp
  and x y x' y' hx hy hx' hy' e e' := by
    refine wd_ext (andw_bd (andw_bd hx hx') hm) (andw_bd (andw_bd hy hy') hm) (fun i hi => ?_)
    have h1 := congrArg (fun z : Int => z.toNat.testBit i) e
    have h2 := congrArg (fun z : Int => z.toNat.testBit i) e'
    simp only [and_bit hx hm, and_bit hy hm, and_bit hx' hm, and_bit hy' hm] at h1 h2
    rw [and_bit (andw_bd hx hx') hm, and_bit (andw_bd hy hy') hm, and_bit hx hx', and_bit hy hy']
    revert h1 h2
    cases x.toNat.testBit i <;> cases y.toNat.testBit i <;> cases x'.toNat.testBit i <;> cases y'.toNat.testBit i <;> cases m.toNat.testBit i <;> simp
theorem lane_self {x m : Int} (hx : Wd x) (hm : Wd m) : bits .and .u64 x m = bits .and .u64 (bits .and .u64 x m) m :=
  wd_ext (andw_bd hx hm) (andw_bd (andw_bd hx hm) hm) (fun i hi => by
    rw [and_bit (andw_bd hx hm) hm, and_bit hx hm]
    cases x.toNat.testBit i <;> cases m.toNat.testBit i <;> rfl)

/-! ### behind cycles -/
theorem Thru.or {R : Int → Int → Prop} (hR : Thru R) {x y x' y' : Int} (hx : Wd x) (hy : Wd y) (hx' : Wd x') (hy' : Wd y') (h : R x y) (h' : R x' y') : R (bits .or .u64 x x') (bits .or .u64 y y') := by
  rw [or_neg hx hx', or_neg hy hy']
  exact hR.neg _ _ (andw_bd (neg_wd hx) (neg_wd hx')) (andw_bd (neg_wd hy) (neg_wd hy')) (hR.and _ _ _ _ (neg_wd hx) (neg_wd hy) (neg_wd hx') (neg_wd hy') (hR.neg _ _ hx hy h) (hR.neg _ _ hx' hy' h'))
theorem Thru.ini {R : Int → Int → Prop} (hR : Thru R) (r : Rg) : R (iniW r) (iniW r) := by
  unfold iniW
  split
  · exact hR.neg 0 0 wd0 wd0 hR.zero
  · exact hR.zero
theorem getD_map0 {α : Type} (L : List α) (f : α → Int) (k : Nat) (h : k < L.length) : (L.map f).getD k 0 = f L[k] := by simp [List.getD, h]
theorem app_rel {R : Int → Int → Prop} {a a' b b' : List Int} (hl : a.length = a'.length) (h1 : ∀ k, k < a.length → R (a.getD k 0) (a'.getD k 0)) {n : Nat} (h2 : ∀ k, k < n → R (b.getD k 0) (b'.getD k 0)) (k : Nat) (hk : k < a.length + n) : R ((a ++ b).getD k 0) ((a' ++ b').getD k 0) := by
  by_cases e : k < a.length
  · simp only [List.getD, List.getElem?_append_left e, List.getElem?_append_left (show k < a'.length by omega)]
    have := h1 k e
    simpa [List.getD] using this
  · simp only [List.getD, List.getElem?_append_right (show a.length ≤ k by omega), List.getElem?_append_right (show a'.length ≤ k by omega)]
    rw [← hl]
    have := h2 (k - a.length) (by omega)
    simpa [List.getD] using this
section
variable {R : Int → Int → Prop} (hR : Thru R) {N : Nt} (hg : Good N []) {C C' : Nat → List Int} (hC : ∀ i, Words (C i)) (hC' : ∀ i, Words (C' i)) (h : ∀ i k, R ((C i).getD k 0) ((C' i).getD k 0))
include h in
theorem taken_rel {i : Nat} (hh : ∀ k, k < N.regs.length → R ((hasAt N C i).getD k 0) ((hasAt N C' i).getD k 0)) (k : Nat) (hk : k < (takenN N).length) : R ((padX N (C i) ++ hasAt N C i).getD k 0) ((padX N (C' i) ++ hasAt N C' i).getD k 0) := by
  have e : (padX N (C i)).length = (litsOf N.ins).length := row_length _ _
  have e' : (padX N (C' i)).length = (litsOf N.ins).length := row_length _ _
  refine app_rel (R := R) (by rw [e, e']) (fun k hk => ?_) hh k (by rw [taken_len] at hk; rw [e]; exact hk)
  rw [e] at hk
  unfold padX
  rw [row_getD _ _ _ hk, row_getD _ _ _ hk]
  exact h i k
include hR hg hC hC' h
theorem has_rel (i : Nat) : ∀ k, k < N.regs.length → R ((hasAt N C i).getD k 0) ((hasAt N C' i).getD k 0) := by
  induction i with
  | zero =>
    intro k hk
    show R ((N.regs.map iniW).getD k 0) ((N.regs.map iniW).getD k 0)
    rw [getD_map0 _ _ _ hk]
    exact hR.ini _
  | succ i ih =>
    intro k hk
    have c1 := cycW_cyc hg (words_append (padX_words N (hC i)) (hasAt_words N C hg hC i))
    have c2 := cycW_cyc hg (words_append (padX_words N (hC' i)) (hasAt_words N C' hg hC' i))
    show R ((N.regs.map _).getD k 0) ((N.regs.map _).getD k 0)
    rw [getD_map0 _ _ _ hk, getD_map0 _ _ _ hk]
    have ht := taken_rel h ih
    have hr := hg.regT N.regs[k] (List.getElem_mem hk)
    have hq1 : (litsOf N.ins).length + k < (takenN N).length := by rw [taken_len]; omega
    have hq2 : (takenN N).getD ((litsOf N.ins).length + k) 0 = N.regs[k].q := by
      unfold takenN
      simp [List.getD, hk]
    have q1 := c1.taken hg hq1
    have q2 := c2.taken hg hq1
    have hq := ht _ hq1
    rw [← q1, ← q2, hq2] at hq
    have hd := hR.lit hg c1 c2 ht hr.1
    have he := hR.lit hg c1 c2 ht hr.2
    have w1 := fun l => wordV_bd c1.words l
    have w2 := fun l => wordV_bd c2.words l
    unfold nxW
    rw [andNot64 (w1 _) (w1 _), andNot64 (w2 _) (w2 _)]
    exact hR.or (andw_bd (w1 _) (w1 _)) (andw_bd (w2 _) (w2 _)) (andw_bd (w1 _) (neg_wd (w1 _))) (andw_bd (w2 _) (neg_wd (w2 _))) (hR.and _ _ _ _ (w1 _) (w2 _) (w1 _) (w2 _) hd he) (hR.and _ _ _ _ (w1 _) (w2 _) (neg_wd (w1 _)) (neg_wd (w2 _)) hq (hR.neg _ _ (w1 _) (w2 _) he))
theorem lit_rel (i : Nat) {l : Int} (hl : There N.g l) : R (wordV l (wordsAt N C i)) (wordV l (wordsAt N C' i)) := by
  have c1 := cycW_cyc hg (words_append (padX_words N (hC i)) (hasAt_words N C hg hC i))
  have c2 := cycW_cyc hg (words_append (padX_words N (hC' i)) (hasAt_words N C' hg hC' i))
  exact hR.lit hg c1 c2 (taken_rel h (has_rel hR hg hC hC' h i)) hl
end
end Go.Proofs.YtafoohdndlhbnaaGreat
end

section
namespace Go.Proofs.YtafoohdndlhbnaaGreat
open Go.RowKit Num Bits
set_option maxRecDepth 100000

theorem at_zero (ws : List Int) : wordV 0 ws = 0 ∧ wordV 1 ws = 18446744073709551615 := by
  constructor <;> simp [wordV, turnV, nodeW]
theorem at_node {G : Gr} (h : G.nodes.length ≤ 200000) {k : Nat} (hk : k < G.nodes.length) : There G (2 * (k : Int)) ∧ There G (2 * (k : Int) + 1) := by
  unfold There IsLit; omega
theorem at_neg (ws : List Int) (k : Nat) : wordV (2 * (k : Int) + 1) ws = 18446744073709551615 - wordV (2 * (k : Int)) ws := by
  unfold wordV turnV
  rw [show (2 * (k : Int) + 1) % 2 = 1 by omega, show (2 * (k : Int)) % 2 = 0 by omega, show (2 * (k : Int) + 1) / 2 = k by omega, show (2 * (k : Int)) / 2 = k by omega]
  simp
theorem at_next {d en was : Int} (hd : Wd d) (he : Wd en) (hw : Wd was) : bits .and .u64 (bits .or .u64 (bits .and .u64 d en) (bits .andNot .u64 was en)) en = bits .and .u64 d en ∧ bits .andNot .u64 (bits .or .u64 (bits .and .u64 d en) (bits .andNot .u64 was en)) en = bits .andNot .u64 was en := by
  have a1 := andw_bd hd he
  have hn := neg_wd he
  rw [andNot64 hw he]
  have a2 := andw_bd hw hn
  have a3 := or_bd a1 a2
  rw [andNot64 a3 he]
  constructor
  · refine wd_ext (andw_bd a3 he) a1 (fun i hi => ?_)
    rw [and_bit a3 he, or_bit a1 a2, and_bit hd he, and_bit hw hn, neg_bit he hi]
    cases d.toNat.testBit i <;> cases en.toNat.testBit i <;> cases was.toNat.testBit i <;> rfl
  · refine wd_ext (andw_bd a3 hn) a2 (fun i hi => ?_)
    rw [and_bit a3 hn, or_bit a1 a2, and_bit hd he, and_bit hw hn, neg_bit he hi]
    cases d.toNat.testBit i <;> cases en.toNat.testBit i <;> cases was.toNat.testBit i <;> rfl

section
variable {N : Nt} (hg : Good N []) {C : Nat → List Int} (hC : ∀ i, Words (C i)) (i : Nat)
include hg hC
theorem at_cyc : Cyc N (padX N (C i) ++ hasAt N C i) (wordsAt N C i) := cycW_cyc hg (words_append (padX_words N (hC i)) (hasAt_words N C hg hC i))
theorem at_gate {k : Nat} (hk : k < N.g.nodes.length) (hgt : (N.g.nodes[k]).gate = true) : wordV (2 * (k : Int)) (wordsAt N C i) = bits .and .u64 (wordV N.g.nodes[k].a (wordsAt N C i)) (wordV N.g.nodes[k].b (wordsAt N C i)) := by
  have c := at_cyc hg hC i
  rw [c.node hk]
  exact c.gate k _ (List.getElem?_eq_getElem hk) hgt
theorem at_in {k j : Nat} (hk : k < N.ins.length) (hj : j < N.ins[k].lits.length) : wordV N.ins[k].lits[j] (wordsAt N C i) = (pieceG N (C i) k).getD j 0 := by
  have c := at_cyc hg hC i
  have hle := offB_le N.ins hk hj
  have ht : offB N.ins k + j < (takenN N).length := by rw [taken_len]; omega
  have e1 : (takenN N).getD (offB N.ins k + j) 0 = N.ins[k].lits[j] := by
    have := lits_at N.ins hk hj
    unfold takenN
    rw [List.getD_eq_getElem?_getD, List.getElem?_append_left hle, ← List.getD_eq_getElem?_getD]
    exact this.trans (by simp [List.getD, hj])
  have e2 := c.taken hg ht
  rw [e1] at e2
  rw [e2]
  have hlen : (padX N (C i)).length = (litsOf N.ins).length := row_length _ _
  rw [List.getD_eq_getElem?_getD, List.getElem?_append_left (by omega), ← List.getD_eq_getElem?_getD]
  unfold padX
  rw [row_getD _ _ _ hle]
  unfold pieceG
  rw [row_getD _ _ _ (by simp [List.getD, hk]; exact hj)]
theorem at_reg {k : Nat} (hk : k < N.regs.length) : wordV N.regs[k].q (wordsAt N C i) = (hasAt N C i).getD k 0 ∧ (hasAt N C (i + 1)).getD k 0 = nxW (wordsAt N C i) N.regs[k] := by
  have c := at_cyc hg hC i
  have hq1 : (litsOf N.ins).length + k < (takenN N).length := by rw [taken_len]; omega
  have hq2 : (takenN N).getD ((litsOf N.ins).length + k) 0 = N.regs[k].q := by
    unfold takenN
    simp [List.getD, hk]
  have q1 := c.taken hg hq1
  rw [hq2] at q1
  refine ⟨?_, getD_map0 _ _ _ hk⟩
  rw [q1]
  have hlen : (padX N (C i)).length = (litsOf N.ins).length := row_length _ _
  rw [List.getD_eq_getElem?_getD, List.getElem?_append_right (by omega), hlen, Nat.add_sub_cancel_left, ← List.getD_eq_getElem?_getD]
end
end Go.Proofs.YtafoohdndlhbnaaGreat
end

section
namespace Go.Proofs.YtafoohdndlhbnaaGreat
open Go.RowKit Num Bits
set_option maxRecDepth 100000

theorem in_there {N : Nt} (hg : Good N []) (hm2 : N.g.nodes.length ≤ 200000) {x : Int} (hx : x ∈ takenN N) : There N.g x := by
  obtain ⟨k, hk, rfl⟩ := List.getElem_of_mem hx
  obtain ⟨i, j, e, h0, h1, -⟩ := taken_at hg hk
  have e2 : (takenN N)[k] = 2 * (i : Int) := by rw [← e]; simp [List.getD, hk]
  rw [e2]
  exact (at_node hm2 h1).1
theorem in_lit {N : Nt} (hg : Good N []) (hm2 : N.g.nodes.length ≤ 200000) {k j : Nat} (hk : k < N.ins.length) (hj : j < N.ins[k].lits.length) : There N.g N.ins[k].lits[j] :=
  in_there hg hm2 (List.mem_append.2 (.inl (List.mem_flatMap.2 ⟨N.ins[k], List.getElem_mem hk, List.getElem_mem hj⟩)))
theorem out_lit {N : Nt} (hg : Good N []) {k j : Nat} (hk : k < N.outs.length) (hj : j < N.outs[k].lits.length) : There N.g N.outs[k].lits[j] :=
  hg.outT _ (List.getElem_mem hk) _ (List.getElem_mem hj)
theorem reg_lit {N : Nt} (hg : Good N []) (hm2 : N.g.nodes.length ≤ 200000) {k : Nat} (hk : k < N.regs.length) : There N.g N.regs[k].q ∧ There N.g N.regs[k].d ∧ There N.g N.regs[k].en :=
  ⟨in_there hg hm2 (List.mem_append.2 (.inr (List.mem_map.2 ⟨N.regs[k], List.getElem_mem hk, rfl⟩))), hg.regT _ (List.getElem_mem hk)⟩
theorem WR.cell {w : World} {a : Option Addr} {n c : Nat} {l : List Int} (h : WR w a n c l) {j : Nat} (hj : j < n) : ∃ b off, a = some ⟨b, off, none⟩ ∧ b < w.heap.size ∧ w.cell? ⟨b, off + j, none⟩ = some (.int .u64 (l.getD j 0)) := by
  obtain ⟨b, off, e, hb, hc⟩ := h.row.at (by omega)
  exact ⟨b, off, e, hb, hc j hj⟩
theorem LRow.cell {w : World} {a : Option Addr} {n c : Nat} {l : List Int} (h : LRow w a n c l) {j : Nat} (hj : j < l.length) : ∃ b off, a = some ⟨b, off, none⟩ ∧ b < w.heap.size ∧ w.cell? ⟨b, off + j, none⟩ = some (.int .u32 l[j]) := by
  obtain ⟨b, off, e, hb, hc⟩ := h.row.at (by have := h.len; omega)
  refine ⟨b, off, e, hb, ?_⟩
  rw [hc j (by have := h.len; omega)]
  simp [List.getD, hj]
theorem at_out (N : Nt) (C : Nat → List Int) (i : Nat) {k j : Nat} (hk : k < N.outs.length) (hj : j < N.outs[k].lits.length) : ((outAt N C i).getD k []).length = N.outs[k].lits.length ∧ ((outAt N C i).getD k []).getD j 0 = wordV N.outs[k].lits[j] (wordsAt N C i) := by
  have e : (outAt N C i).getD k [] = outW N.outs[k] (wordsAt N C i) := by
    unfold outAt outR
    simp [List.getD, hk]
  rw [e]
  unfold outW
  constructor
  · simp
  · simp [List.getD, hj]
section
variable {N : Nt} (hg : Good N []) {C : Nat → List Int} (hC : ∀ i, Words (C i)) (i : Nat)
include hg hC
theorem at_test {k : Nat} (hk : k < N.regs.length) (was now wd we : Int) (h1 : (hasAt N C i).getD k 0 = was) (h2 : (hasAt N C (i + 1)).getD k 0 = now) (h3 : wordV N.regs[k].d (wordsAt N C i) = wd) (h4 : wordV N.regs[k].en (wordsAt N C i) = we) :
    wordV N.regs[k].q (wordsAt N C i) = was ∧ bits .and .u64 now we = bits .and .u64 wd we ∧ bits .andNot .u64 now we = bits .andNot .u64 was we := by
  obtain ⟨q1, q2⟩ := at_reg hg hC i hk
  have c := at_cyc hg hC i
  have b1 := wordV_bd c.words N.regs[k].q
  have b2 := wordV_bd c.words N.regs[k].d
  have b3 := wordV_bd c.words N.regs[k].en
  have hn := at_next b2 b3 b1
  rw [h1] at q1
  rw [h2] at q2
  unfold nxW at q2
  rw [h3, h4, q1] at q2
  rw [h3, h4, q1] at hn
  rw [← q2] at hn
  exact ⟨q1, hn⟩
end
end Go.Proofs.YtafoohdndlhbnaaGreat
end
