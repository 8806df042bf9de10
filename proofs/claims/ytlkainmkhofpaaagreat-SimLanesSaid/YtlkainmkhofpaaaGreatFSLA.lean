/-
  Lanes turned, and a lane alone: plainly; math/bits.RotateLeft64.
  SimLanes: what is carried along; the walk.
  What came in: rows of rows of words, none longer than the memory goes.
-/
import Derived.Test.YtlkainmkhofpaaaGreatFSAX
import Derived.SizedLaws
section
namespace Go.Proofs.YtlkainmkhofpaaaGreat
open Go.RowKit Go.Maps Bits Num
set_option maxRecDepth 100000

/-- A word with all lanes turned. -/
def rotV (k : Nat) (x : Int) : Int := bits .or .u64 (IntKind.u64.wrap (x * 2 ^ k)) (x / 2 ^ (64 - k))
theorem rot_any (x : Int) (k : Nat) (hk : k < 64) (w : World) :
    Calls Tryz.prog 30 #[.int .u64 x, .int .i64 k] w fun e w' => e = .returned (.int .u64 (rotV k x)) ∧ w = w' := by
  have e1 : IntKind.u64.wrap (k : Int) = (k : Int) := by rw [w64]; omega
  have e2 : bits .and .u64 (k : Int) 63 = (k : Int) := by
    rw [and64 (by omega) (by omega) (by omega) (by omega)]
    have : (k : Int).toNat &&& (63 : Int).toNat = k % 2 ^ 6 := by
      rw [← Nat.and_two_pow_sub_one_eq_mod]; rfl
    rw [this]; omega
  have e3 : IntKind.u64.wrap (64 - (k : Int)) = 64 - (k : Int) := by rw [w64]; omega
  have h0 : (0:Int) ≤ k := by omega
  have h1 : (0:Int) ≤ 64 - (k : Int) := by omega
  go_enter Tryz.func30, Tryz.ntmps30
  go_wp2
  go_ret
  exact ⟨rfl, rfl⟩
theorem rot_nat {k : Nat} (hk : k < 64) {x : Int} (h : Wd x) : rotV k x = (((x.toNat <<< k) % 2 ^ 64 ||| x.toNat >>> (64 - k) : Nat) : Int) := by
  obtain ⟨h0, h1⟩ := h
  obtain ⟨n, rfl⟩ : ∃ n : Nat, x = n := ⟨x.toNat, by omega⟩
  have a1 : IntKind.u64.wrap ((n : Int) * 2 ^ k) = (((n <<< k) % 2 ^ 64 : Nat) : Int) := by
    rw [w64, Nat.shiftLeft_eq, show (2:Int) = ((2:Nat):Int) from rfl, ← Int.natCast_pow, ← Int.natCast_mul]
    generalize n * 2 ^ k = y
    omega
  have a2 : (n : Int) / 2 ^ (64 - k) = ((n >>> (64 - k) : Nat) : Int) := by
    rw [Nat.shiftRight_eq_div_pow, show (2:Int) = ((2:Nat):Int) from rfl, ← Int.natCast_pow, ← Int.natCast_ediv]
  have b1 : (n <<< k) % 2 ^ 64 < 2 ^ 64 := Nat.mod_lt _ (by decide)
  have b2 : n >>> (64 - k) ≤ n := by rw [Nat.shiftRight_eq_div_pow]; exact Nat.div_le_self _ _
  unfold rotV
  generalize hx1 : (n <<< k) % 2 ^ 64 = x1 at *
  generalize hx2 : n >>> (64 - k) = x2 at *
  rw [a1, a2, or64 (by omega) (by omega) (by omega) (by omega)]
  simp only [Int.toNat_natCast]
  rw [hx1, hx2]
theorem rot_wd {k : Nat} (hk : k < 64) {x : Int} (h : Wd x) : Wd (rotV k x) := by
  rw [rot_nat hk h]
  have b1 : (x.toNat <<< k) % 2 ^ 64 < 2 ^ 64 := Nat.mod_lt _ (by decide)
  have b2 : x.toNat >>> (64 - k) < 2 ^ 64 := by
    rw [Nat.shiftRight_eq_div_pow]; exact Nat.lt_of_le_of_lt (Nat.div_le_self _ _) (by have := h.2; omega)
  have := Nat.or_lt_two_pow b1 b2
  unfold Wd; omega
theorem rot_bit {k : Nat} (hk : k < 64) {x : Int} (h : Wd x) {i : Nat} (hi : i < 64) : (rotV k x).toNat.testBit i = x.toNat.testBit (if k ≤ i then i - k else i + (64 - k)) := by
  have hz : x.toNat < 2 ^ 64 := by have := h.2; omega
  rw [rot_nat hk h, Int.toNat_natCast, Nat.testBit_or, Nat.testBit_mod_two_pow, Nat.testBit_shiftLeft, Nat.testBit_shiftRight]
  by_cases e : k ≤ i
  · rw [if_pos e]
    have : x.toNat.testBit (64 - k + i) = false := Nat.testBit_lt_two_pow (Nat.lt_of_lt_of_le hz (Nat.pow_le_pow_right (by decide) (by omega)))
    simp [hi, e, this]
  · rw [if_neg e, Nat.add_comm]
    simp [e]
theorem wd_ext {x y : Int} (hx : Wd x) (hy : Wd y) (h : ∀ i, i < 64 → x.toNat.testBit i = y.toNat.testBit i) : x = y := by
  have : x.toNat = y.toNat := by
    apply Nat.eq_of_testBit_eq
    intro i
    by_cases hi : i < 64
    · exact h i hi
    · have a : ∀ z : Int, Wd z → z.toNat.testBit i = false := fun z hz => Nat.testBit_lt_two_pow (Nat.lt_of_lt_of_le (show z.toNat < 2 ^ 64 by have := hz.2; omega) (Nat.pow_le_pow_right (by decide) (by omega)))
      rw [a x hx, a y hy]
  have := hx.1; have := hy.1; omega
theorem neg_wd {x : Int} (h : Wd x) : Wd (18446744073709551615 - x) := by unfold Wd at *; omega
theorem neg_bit {x : Int} (h : Wd x) {i : Nat} (hi : i < 64) : (18446744073709551615 - x).toNat.testBit i = !x.toNat.testBit i := by
  have h0 := h.1; have h1 := h.2
  have e : (18446744073709551615 - x).toNat = 2 ^ 64 - (x.toNat + 1) := by omega
  rw [e, Nat.testBit_two_pow_sub_succ (by omega)]
  simp [hi]
theorem andw_bd {a b : Int} (ha : Wd a) (hb : Wd b) : Wd (bits .and .u64 a b) := and_bd ha.1 ha.2 hb.1 hb.2
theorem and_bit {x y : Int} (hx : Wd x) (hy : Wd y) (i : Nat) : (bits .and .u64 x y).toNat.testBit i = (x.toNat.testBit i && y.toNat.testBit i) := by
  rw [and64 hx.1 hx.2 hy.1 hy.2, Int.toNat_natCast, Nat.testBit_and]
theorem or_bit {x y : Int} (hx : Wd x) (hy : Wd y) (i : Nat) : (bits .or .u64 x y).toNat.testBit i = (x.toNat.testBit i || y.toNat.testBit i) := by
  rw [or64 hx.1 hx.2 hy.1 hy.2, Int.toNat_natCast, Nat.testBit_or]
theorem or_neg {x y : Int} (hx : Wd x) (hy : Wd y) : bits .or .u64 x y = 18446744073709551615 - bits .and .u64 (18446744073709551615 - x) (18446744073709551615 - y) :=
  wd_ext (or_bd hx hy) (neg_wd (andw_bd (neg_wd hx) (neg_wd hy))) (fun i hi => by
    rw [neg_bit (andw_bd (neg_wd hx) (neg_wd hy)) hi, and_bit (neg_wd hx) (neg_wd hy), neg_bit hx hi, neg_bit hy hi, or_bit hx hy]
    cases x.toNat.testBit i <;> cases y.toNat.testBit i <;> rfl)
theorem wd0 : Wd 0 := by unfold Wd; omega
theorem wdM : Wd 18446744073709551615 := by unfold Wd; omega
theorem rot_zero {k : Nat} (hk : k < 64) : rotV k 0 = 0 := wd_ext (rot_wd hk wd0) wd0 (fun i hi => by rw [rot_bit hk wd0 hi]; simp)
theorem Thru.rot {k : Nat} (hk : k < 64) : Thru (fun x y => rotV k x = y) where
  zero := rot_zero hk
  neg x y hx hy e := by
    subst e
    refine wd_ext (rot_wd hk (neg_wd hx)) (neg_wd (rot_wd hk hx)) (fun i hi => ?_)
    rw [rot_bit hk (neg_wd hx) hi, neg_bit (rot_wd hk hx) hi, rot_bit hk hx hi, neg_bit hx (by split <;> omega)]
  and x y x' y' hx hy hx' hy' e e' := by
    subst e; subst e'
    refine wd_ext (rot_wd hk (andw_bd hx hx')) (andw_bd (rot_wd hk hx) (rot_wd hk hx')) (fun i hi => ?_)
    rw [rot_bit hk (andw_bd hx hx') hi, and_bit hx hx', and_bit (rot_wd hk hx) (rot_wd hk hx'), rot_bit hk hx hi, rot_bit hk hx' hi]
theorem Thru.lane {m : Int} (hm : Wd m) : Thru (fun x y => bits .and .u64 x m = bits .and .u64 y m) where
  zero := rfl
  neg x y hx hy e := by
    refine wd_ext (andw_bd (neg_wd hx) hm) (andw_bd (neg_wd hy) hm) (fun i hi => ?_)
    have := congrArg (fun z : Int => z.toNat.testBit i) e
    simp only [and_bit hx hm, and_bit hy hm] at this
    rw [and_bit (neg_wd hx) hm, and_bit (neg_wd hy) hm, neg_bit hx hi, neg_bit hy hi]
    revert this
    cases x.toNat.testBit i <;> cases y.toNat.testBit i <;> cases m.toNat.testBit i <;> simp
  and x y x' y' hx hy hx' hy' e e' := by
    refine wd_ext (andw_bd (andw_bd hx hx') hm) (andw_bd (andw_bd hy hy') hm) (fun i hi => ?_)
    have h1 := congrArg (fun z : Int => z.toNat.testBit i) e
    have h2 := congrArg (fun z : Int => z.toNat.testBit i) e'
    simp only [and_bit hx hm, and_bit hy hm, and_bit hx' hm, and_bit hy' hm] at h1 h2
    rw [and_bit (andw_bd hx hx') hm, and_bit (andw_bd hy hy') hm, and_bit hx hx', and_bit hy hy']
    revert h1 h2
    cases x.toNat.testBit i <;> cases y.toNat.testBit i <;> cases x'.toNat.testBit i <;> cases y'.toNat.testBit i <;> cases m.toNat.testBit i <;> simp
theorem lane_self {x m : Int} (hx : Wd x) (hm : Wd m) : bits .and .u64 x m = bits .and .u64 (bits .and .u64 x m) m :=
  wd_ext (andw_bd hx hm) (andw_bd (andw_bd hx hm) hm) (fun i hi => by
    rw [and_bit (andw_bd hx hm) hm, and_bit hx hm]
    cases x.toNat.testBit i <;> cases m.toNat.testBit i <;> rfl)

/-! ### behind cycles -/
theorem Thru.or {R : Int → Int → Prop} (hR : Thru R) {x y x' y' : Int} (hx : Wd x) (hy : Wd y) (hx' : Wd x') (hy' : Wd y') (h : R x y) (h' : R x' y') : R (bits .or .u64 x x') (bits .or .u64 y y') := by
  rw [or_neg hx hx', or_neg hy hy']
  exact hR.neg _ _ (andw_bd (neg_wd hx) (neg_wd hx')) (andw_bd (neg_wd hy) (neg_wd hy')) (hR.and _ _ _ _ (neg_wd hx) (neg_wd hy) (neg_wd hx') (neg_wd hy') (hR.neg _ _ hx hy h) (hR.neg _ _ hx' hy' h'))
theorem Thru.ini {R : Int → Int → Prop} (hR : Thru R) (r : Rg) : R (iniW r) (iniW r) := by
  unfold iniW
  split
  · exact hR.neg 0 0 wd0 wd0 hR.zero
  · exact hR.zero
theorem getD_map0 {α : Type} (L : List α) (f : α → Int) (k : Nat) (h : k < L.length) : (L.map f).getD k 0 = f L[k] := by simp [List.getD, h]
theorem app_rel {R : Int → Int → Prop} {a a' b b' : List Int} (hl : a.length = a'.length) (h1 : ∀ k, k < a.length → R (a.getD k 0) (a'.getD k 0)) {n : Nat} (h2 : ∀ k, k < n → R (b.getD k 0) (b'.getD k 0)) (k : Nat) (hk : k < a.length + n) : R ((a ++ b).getD k 0) ((a' ++ b').getD k 0) := by
  by_cases e : k < a.length
  · simp only [List.getD, List.getElem?_append_left e, List.getElem?_append_left (show k < a'.length by omega)]
    have := h1 k e
    simpa [List.getD] using this
  · simp only [List.getD, List.getElem?_append_right (show a.length ≤ k by omega), List.getElem?_append_right (show a'.length ≤ k by omega)]
    rw [← hl]
    have := h2 (k - a.length) (by omega)
    simpa [List.getD] using this
section
variable {R : Int → Int → Prop} (hR : Thru R) {N : Nt} (hg : Good N []) {C C' : Nat → List Int} (hC : ∀ i, Words (C i)) (hC' : ∀ i, Words (C' i)) (h : ∀ i k, R ((C i).getD k 0) ((C' i).getD k 0))
include h in
theorem taken_rel {i : Nat} (hh : ∀ k, k < N.regs.length → R ((hasAt N C i).getD k 0) ((hasAt N C' i).getD k 0)) (k : Nat) (hk : k < (takenN N).length) : R ((padX N (C i) ++ hasAt N C i).getD k 0) ((padX N (C' i) ++ hasAt N C' i).getD k 0) := by
  have e : (padX N (C i)).length = (litsOf N.ins).length := row_length _ _
  have e' : (padX N (C' i)).length = (litsOf N.ins).length := row_length _ _
  refine app_rel (R := R) (by rw [e, e']) (fun k hk => ?_) hh k (by rw [taken_len] at hk; rw [e]; exact hk)
  rw [e] at hk
  unfold padX
  rw [row_getD _ _ _ hk, row_getD _ _ _ hk]
  exact h i k
include hR hg hC hC' h
theorem has_rel (i : Nat) : ∀ k, k < N.regs.length → R ((hasAt N C i).getD k 0) ((hasAt N C' i).getD k 0) := by
  induction i with
  | zero =>
    intro k hk
    show R ((N.regs.map iniW).getD k 0) ((N.regs.map iniW).getD k 0)
    rw [getD_map0 _ _ _ hk]
    exact hR.ini _
  | succ i ih =>
    intro k hk
    have c1 := cycW_cyc hg (words_append (padX_words N (hC i)) (hasAt_words N C hg hC i))
    have c2 := cycW_cyc hg (words_append (padX_words N (hC' i)) (hasAt_words N C' hg hC' i))
    show R ((N.regs.map _).getD k 0) ((N.regs.map _).getD k 0)
    rw [getD_map0 _ _ _ hk, getD_map0 _ _ _ hk]
    have ht := taken_rel h ih
    have hr := hg.regT N.regs[k] (List.getElem_mem hk)
    have hq1 : (litsOf N.ins).length + k < (takenN N).length := by rw [taken_len]; omega
    have hq2 : (takenN N).getD ((litsOf N.ins).length + k) 0 = N.regs[k].q := by
      unfold takenN
      simp [List.getD, hk]
    have q1 := c1.taken hg hq1
    have q2 := c2.taken hg hq1
    have hq := ht _ hq1
    rw [← q1, ← q2, hq2] at hq
    have hd := hR.lit hg c1 c2 ht hr.1
    have he := hR.lit hg c1 c2 ht hr.2
    have w1 := fun l => wordV_bd c1.words l
    have w2 := fun l => wordV_bd c2.words l
    unfold nxW
    rw [andNot64 (w1 _) (w1 _), andNot64 (w2 _) (w2 _)]
    exact hR.or (andw_bd (w1 _) (w1 _)) (andw_bd (w2 _) (w2 _)) (andw_bd (w1 _) (neg_wd (w1 _))) (andw_bd (w2 _) (neg_wd (w2 _))) (hR.and _ _ _ _ (w1 _) (w2 _) (w1 _) (w2 _) hd he) (hR.and _ _ _ _ (w1 _) (w2 _) (neg_wd (w1 _)) (neg_wd (w2 _)) hq (hR.neg _ _ (w1 _) (w2 _) he))
theorem lit_rel (i : Nat) {l : Int} (hl : There N.g l) : R (wordV l (wordsAt N C i)) (wordV l (wordsAt N C' i)) := by
  have c1 := cycW_cyc hg (words_append (padX_words N (hC i)) (hasAt_words N C hg hC i))
  have c2 := cycW_cyc hg (words_append (padX_words N (hC' i)) (hasAt_words N C' hg hC' i))
  exact hR.lit hg c1 c2 (taken_rel h (has_rel hR hg hC hC' h i)) hl
end
end Go.Proofs.YtlkainmkhofpaaaGreat
end

section
namespace Go.Proofs.YtlkainmkhofpaaaGreat
open Go.RowKit Go.Maps Bits Num
set_option maxRecDepth 100000

/-- A netlist, and three simulations of it. -/
structure Lun (w0 w : World) (B Cg : Nat) (q : NPl) (N : Nt) (S1 S2 S3 : Nat) (q1 q2 q3 : NPl) (C1 C2 C3 : Nat → List Int) (i1 i2 i3 : Nat) : Prop where
  at_ : AtN w0 B Cg w q N
  good : Good N []
  small : Small N
  s1 : ∃ p la, SimIs w S1 q1 p N ⟨hasAt N C1 i1, la, i1⟩
  s2 : ∃ p la, SimIs w S2 q2 p N ⟨hasAt N C2 i2, la, i2⟩
  s3 : ∃ p la, SimIs w S3 q3 p N ⟨hasAt N C3 i3, la, i3⟩
  ne12 : S1 ≠ S2
  ne13 : S1 ≠ S3
  ne23 : S2 ≠ S3
  lo1 : w0.heap.size ≤ S1
  lo2 : w0.heap.size ≤ S2
  lo3 : w0.heap.size ≤ S3
section
variable {w0 w w' : World} {B Cg : Nat} {q : NPl} {N : Nt} {S1 S2 S3 : Nat} {q1 q2 q3 : NPl} {C1 C2 C3 : Nat → List Int} {i1 i2 i3 : Nat}
theorem Lun.step (h : Lun w0 w B Cg q N S1 S2 S3 q1 q2 q3 C1 C2 C3 i1 i2 i3) (hb : Below w.heap.size w w') : Lun w0 w' B Cg q N S1 S2 S3 q1 q2 q3 C1 C2 C3 i1 i2 i3 :=
  ⟨h.at_.step hb, h.good, h.small, let ⟨p, la, e⟩ := h.s1; ⟨p, la, e.below hb⟩, let ⟨p, la, e⟩ := h.s2; ⟨p, la, e.below hb⟩, let ⟨p, la, e⟩ := h.s3; ⟨p, la, e.below hb⟩, h.ne12, h.ne13, h.ne23, h.lo1, h.lo2, h.lo3⟩
theorem Lun.given (h : Lun w0 w B Cg q N S1 S2 S3 q1 q2 q3 C1 C2 C3 i1 i2 i3) {la : Option Addr} {ln lc : Nat} {l : List Int} (hl : Row .u64 w la ln l) (hw : Words l) :
    Calls Tryz.prog 17 #[.pointer (some ⟨B, 0, none⟩), .slice la ln lc, .int .i64 0] w fun e w' => ∃ u, e = .returned u ∧ GR w' w.heap.size u (piecesG N l ++ List.replicate 0 [1]) ∧ Lun w0 w' B Cg q N S1 S2 S3 q1 q2 q3 C1 C2 C3 i1 i2 i3 ∧ Below w.heap.size w w' := by
  have := given_any h.at_.is h.good h.small (lc := lc) hl hw 0 (by omega)
  rw [h.at_.b] at this
  exact this.mono fun _ w' ⟨u, e, hG, hb⟩ => ⟨u, e, hG, h.step hb, hb⟩
theorem Lun.one (hC : ∀ i, Words (C1 i)) (h : Lun w0 w B Cg q N S1 S2 S3 q1 q2 q3 C1 C2 C3 i1 i2 i3) (hi : i1 ≤ 1000) {base : Nat} {u : Value} (hG : GR w base u (piecesG N (C1 i1) ++ List.replicate 0 [1])) :
    Calls Tryz.prog 16 #[.pointer (some ⟨S1, 0, none⟩), u] w fun e w' => ∃ g : Nat, e = .returned (.tuple #[.slice (some ⟨g, 0, none⟩) N.outs.length N.outs.length, .int .i64 0]) ∧ ORow w' 0 g N.outs.length (outAt N C1 i1) N.outs.length ∧ Lun w0 w' B Cg q N S1 S2 S3 q1 q2 q3 C1 C2 C3 (i1 + 1) i2 i3 ∧ Kept (fun k => k = S1) w w' := by
  obtain ⟨p, la, e⟩ := h.s1
  obtain ⟨p2, la2, e2⟩ := h.s2
  obtain ⟨p3, la3, e3⟩ := h.s3
  refine (step_fn hC e hi hG).mono fun _ w' ⟨p', g, he, hO, hS, hk⟩ => ⟨g, he, hO.base (Nat.zero_le _), ?_, hk⟩
  exact ⟨h.at_.sim e h.lo1 hk, h.good, h.small, ⟨p', _, hS⟩, ⟨p2, la2, e2.aside e (fun x => h.ne12 x.symm) hk⟩, ⟨p3, la3, e3.aside e (fun x => h.ne13 x.symm) hk⟩, h.ne12, h.ne13, h.ne23, h.lo1, h.lo2, h.lo3⟩
theorem Lun.turn (h : Lun w0 w B Cg q N S3 S1 S2 q3 q1 q2 C3 C1 C2 i3 i1 i2) : Lun w0 w B Cg q N S1 S2 S3 q1 q2 q3 C1 C2 C3 i1 i2 i3 :=
  ⟨h.at_, h.good, h.small, h.s2, h.s3, h.s1, h.ne23, fun x => h.ne12 x.symm, fun x => h.ne13 x.symm, h.lo2, h.lo3, h.lo1⟩
theorem Lun.swap12 (h : Lun w0 w B Cg q N S1 S2 S3 q1 q2 q3 C1 C2 C3 i1 i2 i3) : Lun w0 w B Cg q N S2 S1 S3 q2 q1 q3 C2 C1 C3 i2 i1 i3 :=
  ⟨h.at_, h.good, h.small, h.s2, h.s1, h.s3, fun x => h.ne12 x.symm, h.ne23, h.ne13, h.lo2, h.lo1, h.lo3⟩
theorem Lun.swap13 (h : Lun w0 w B Cg q N S1 S2 S3 q1 q2 q3 C1 C2 C3 i1 i2 i3) : Lun w0 w B Cg q N S3 S2 S1 q3 q2 q1 C3 C2 C1 i3 i2 i1 :=
  ⟨h.at_, h.good, h.small, h.s3, h.s2, h.s1, fun x => h.ne23 x.symm, fun x => h.ne13 x.symm, fun x => h.ne12 x.symm, h.lo3, h.lo2, h.lo1⟩
/-- What a word's row or a row of rows that others have keeps while a simulation goes on. -/
theorem Lun.orow (h : Lun w0 w B Cg q N S1 S2 S3 q1 q2 q3 C1 C2 C3 i1 i2 i3) {base g no : Nat} {L : List (List Int)} {j : Nat} (hO : ORow w base g no L j) (hk : Kept (fun k => k = S1) w w') : ORow w' base g no L j := by
  obtain ⟨p, la, e⟩ := h.s1
  exact hO.sim e hk
theorem Lun.wrow (h : Lun w0 w B Cg q N S1 S2 S3 q1 q2 q3 C1 C2 C3 i1 i2 i3) {a : Option Addr} {n c : Nat} {l : List Int} (hW : WR w a n c l) (hk : Kept (fun k => k = S1) w w') : WR w' a n c l := by
  obtain ⟨p, la, e⟩ := h.s1
  exact hW.keptF hk e.self.2.1
theorem Lun.outs (h : Lun w0 w B Cg q N S1 S2 S3 q1 q2 q3 C1 C2 C3 i1 i2 i3) : ∃ (oa : Option Addr) (oc : Nat), BusRow w (.slice oa N.outs.length oc) N.outs ∧ w.cell? ⟨B, 4, none⟩ = some (.slice oa N.outs.length oc) ∧ B < w.heap.size := by
  obtain ⟨-, -, -, -, oa, oc, -, -, ev, -, -, -, -, n4, -⟩ := h.at_.is.cells
  rw [h.at_.b] at n4
  have hl := h.at_.is.lt
  rw [h.at_.b] at hl
  refine ⟨oa, oc, ?_, n4, hl⟩
  have := h.at_.is.outs
  rw [ev] at this
  exact this
end
/-- Two rows of words that a call puts together side by side. -/
structure Duo (w0 w : World) (v1 v2 : Value) (k1 k2 : Nat) (x1 x2 : List Value) : Prop where
  o1 : w.ownsRow w0.heap.size 62 1 v1 k1 x1
  o2 : w.ownsRow w0.heap.size 62 1 v2 k2 x2
  ne : ∀ b, v1.ownBlock = some b → v2.ownBlock ≠ some b
  below : Below w0.heap.size w0 w
theorem Duo.swap {w0 w : World} {v1 v2 : Value} {k1 k2 : Nat} {x1 x2 : List Value} (h : Duo w0 w v1 v2 k1 k2 x1 x2) : Duo w0 w v2 v1 k2 k1 x2 x1 := ⟨h.o2, h.o1, fun b e e2 => h.ne b e2 e, h.below⟩
theorem Duo.nil (w0 : World) : Duo w0 w0 (.slice none 0 0) (.slice none 0 0) 0 0 [] [] := ⟨own_nil _ _ _, own_nil _ _ _, fun b e => by simp [Value.ownBlock] at e, Below.refl _ _⟩
theorem Duo.lt2 {w0 w : World} {v1 v2 : Value} {k1 k2 : Nat} {x1 x2 : List Value} (h : Duo w0 w v1 v2 k1 k2 x1 x2) {b : Nat} (e : v2.ownBlock = some b) : b < w.heap.size := by
  obtain ⟨c, hc⟩ := own_type h.o2 e
  exact (Array.getElem?_eq_some_iff.1 hc).1
theorem Duo.grow {w0 w wa w8 : World} {v1 v2 v1' : Value} {k1 k2 k1' g : Nat} {x1 x2 x1' : List Value} (h : Duo w0 w v1 v2 k1 k2 x1 x2) (hb : Below w.heap.size w wa) (hown : w8.ownsRow w0.heap.size 62 1 v1' k1' x1') (hg : wa.grownBy w8 v1.ownBlock) (hv : v1'.ownBlock = some g) (hat : v1.ownBlock = some g ∨ g = wa.heap.size) : Duo w0 w8 v1' v2 k1' k2 x1' x2 := by
  refine ⟨hown, own_keptF (own_below h.o2 hb) (kept_grown hg) (fun k e e2 => h.ne k e2 e), fun b e e2 => ?_, ?_⟩
  · rw [hv] at e
    obtain rfl : g = b := by simpa using e
    rcases hat with e3 | e3
    · exact h.ne _ e3 e2
    · have := h.lt2 e2
      have := hb.size
      omega
  · exact (nextw h.below hb).grown hg (by have := h.below.size; have := hb.size; omega) (fun k e => own_ge h.o1 k e)
theorem take_map_succ {l : List Int} {j : Nat} (h : j < l.length) (f : Int → Value) : (l.take (j + 1)).map f = (l.take j).map f ++ [f (l.getD j 0)] := by
  rw [List.take_add_one, List.map_append, List.getElem?_eq_getElem h]
  simp [List.getD, h]
theorem outs_rel {R : Int → Int → Prop} (hR : Thru R) {N : Nt} (hg : Good N []) {C C' : Nat → List Int} (hC : ∀ i, Words (C i)) (hC' : ∀ i, Words (C' i)) (h : ∀ i k, R ((C i).getD k 0) ((C' i).getD k 0)) (i : Nat) {k : Nat} (hk : k < N.outs.length) :
    ((outAt N C i).getD k []).length = N.outs[k].lits.length ∧ ((outAt N C' i).getD k []).length = N.outs[k].lits.length ∧ ∀ j, j < N.outs[k].lits.length → R (((outAt N C i).getD k []).getD j 0) (((outAt N C' i).getD k []).getD j 0) := by
  have e1 : (outAt N C i).getD k [] = N.outs[k].lits.map (fun x => wordV x (wordsAt N C i)) := outR_at N _ hk
  have e2 : (outAt N C' i).getD k [] = N.outs[k].lits.map (fun x => wordV x (wordsAt N C' i)) := outR_at N _ hk
  rw [e1, e2]
  refine ⟨by simp, by simp, fun j hj => ?_⟩
  rw [getD_map0 _ _ _ hj, getD_map0 _ _ _ hj]
  exact lit_rel hR hg hC hC' h i (hg.outT _ (List.getElem_mem hk) _ (List.getElem_mem hj))
theorem map_words {l : List Int} {f : Int → Int} (hl : Words l) (hf : ∀ x, Wd x → Wd (f x)) (h0 : f 0 = 0) : Words (l.map f) ∧ ∀ k, (l.map f).getD k 0 = f (l.getD k 0) := by
  have e : ∀ k, (l.map f).getD k 0 = f (l.getD k 0) := fun k => by
    by_cases hk : k < l.length
    · simp [List.getD, hk]
    · simp [List.getD, List.getElem?_eq_none (show l.length ≤ k by omega), h0]
  exact ⟨fun k => by rw [e]; exact hf _ (hl k), e⟩
theorem rr_case {a n : Nat} (h : ¬ (a < min n 20)) (h2 : a ≤ min n 20) : a = min n 20 := by omega
theorem one_wd (k : Nat) : Wd (IntKind.u64.wrap (2 ^ k)) := by
  rw [w64]; unfold Wd; omega

set_option maxHeartbeats 8000000 in
theorem SimLanes_any (F H : Bool) {w : World} {a : Option Addr} {n c : Nat} {S : Nat → StV} (hs : StRow w a n S) {a2 : Option Addr} {n2 c2 : Nat} {CC : List (List Int)} (hr : RRk .u64 w a2 n2 CC) (hw : ∀ i, Words (CC.getD i [])) (hm : ∀ i, (CC.getD i []).length ≤ 17592186043904) (by_ lane : Int) (h0 : 0 ≤ by_) (h1 : by_ < 256) (h2 : 0 ≤ lane) (h3 : lane < 256) :
    Calls Tryz.prog 5 #[.agg #[.bool F, .bool H], .slice a n c, .slice a2 n2 c2, .int .u8 by_, .int .u8 lane] w fun e w' => e = .returned (.bool true) ∧ Below w.heap.size w w' := by
  have hb0 : Below w.heap.size w (w.alloc (.cells #[.bool F, .bool H] 23)) := (Below.refl _ _).alloc (Nat.le_refl _) _
  have hbu := Lib.hid (Built_any F H (c := c) (w := w.alloc (.cells #[.bool F, .bool H] 23)) (by exact ⟨hs.le, by
    rcases hs.cells with h0 | ⟨b, off, e, hb, hc⟩
    · exact .inl h0
    · exact .inr ⟨b, off, e, Nat.lt_of_lt_of_le hb hb0.size, fun i hi => by obtain ⟨x0, x1, x2, x3, x4, x5, x6⟩ := hc i hi; exact ⟨stepc hb0 hb x0, stepc hb0 hb x1, stepc hb0 hb x2, stepc hb0 hb x3, stepc hb0 hb x4, stepc hb0 hb x5, stepc hb0 hb x6⟩⟩, fun i hi => (hs.ok i hi).step hb0⟩))
  obtain ⟨kb, hkb, hby⟩ : ∃ k : Nat, k < 64 ∧ by_.tmod 64 = (k : Int) := ⟨(by_.tmod 64).toNat, by rw [Int.tmod_eq_emod_of_nonneg h0]; omega, by rw [Int.tmod_eq_emod_of_nonneg h0]; omega⟩
  obtain ⟨kl, hkl, hla⟩ : ∃ k : Nat, k < 64 ∧ lane.tmod 64 = (k : Int) := ⟨(lane.tmod 64).toNat, by rw [Int.tmod_eq_emod_of_nonneg h2]; omega, by rw [Int.tmod_eq_emod_of_nonneg h2]; omega⟩
  have HR := Lib.hid hr
  have HW := Lib.hid hw
  have hmx := Lib.hid hm
  have hb0 := Lib.hid hb0
  have hle2 := hr.2.1
  clear hs hr hw hm
  go_enter Tryz.func5, Tryz.ntmps5
  go_upto_region 9 with (first
    | (go_at_call 7; (with_reducible refine hbu.out.mono ?_); rintro e w2 ⟨B, Cg, Bd, Bg, q, p, N, rfl, hA, -, hG, hU⟩; have hSm := Lib.hid (hU.small (by omega)); have hnw1 := Lib.hid (SNew_any hA.is hG hSm.out); rw [hA.b] at hnw1; have hA := Lib.hid hA; have hG := Lib.hid hG; clear hU hbu)
    | (go_at_call 8; (with_reducible refine hnw1.out.mono ?_); rintro e w3 ⟨S1, q1, p1, rfl, hS1, hz1, -, hb3⟩; have hA3 := Lib.hid (hA.out.step hb3); have hnw2 := Lib.hid (SNew_any hA3.out.is hG.out hSm.out); rw [hA3.out.b] at hnw2; have hS1 := Lib.hid hS1; have hb3 := Lib.hid hb3; clear hnw1)
    | (go_at_call 8; (with_reducible refine hnw2.out.mono ?_); rintro e w4 ⟨S2, q2, p2, rfl, hS2, hz2, -, hb4⟩; have hA4 := Lib.hid (hA3.out.step hb4); have hnw3 := Lib.hid (SNew_any hA4.out.is hG.out hSm.out); rw [hA4.out.b] at hnw3; have hS2 := Lib.hid hS2; have hb4 := Lib.hid hb4; clear hnw2)
    | (go_at_call 8; (with_reducible refine hnw3.out.mono ?_); rintro e w5 ⟨S3, q3, p3, rfl, hS3, hz3, -, hb5⟩; have hA5 := Lib.hid (hA4.out.step hb5); have hS3 := Lib.hid hS3; have hb5 := Lib.hid hb5; clear hnw3))
  have hbb : w.heap.size ≤ (w.alloc (.cells #[.bool F, .bool H] 23)).heap.size := by simp
  generalize hw1 : w.alloc (.cells #[.bool F, .bool H] 23) = w1 at *
  have hS1l := hS1.out.lt
  have hS2l := hS2.out.lt
  have h12 : w1.heap.size ≤ w2.heap.size := hA.out.below.size
  have h13 : w1.heap.size ≤ w3.heap.size := hA3.out.below.size
  have h14 : w1.heap.size ≤ w4.heap.size := hA4.out.below.size
  have hz34 := hb4.out.size
  obtain ⟨C1, hC1⟩ : ∃ C : Nat → List Int, C = fun i => CC.getD i [] := ⟨_, rfl⟩
  obtain ⟨C2, hC2⟩ : ∃ C : Nat → List Int, C = fun i => (CC.getD i []).map (rotV kb) := ⟨_, rfl⟩
  obtain ⟨C3, hC3⟩ : ∃ C : Nat → List Int, C = fun i => (CC.getD i []).map (fun x => bits .and .u64 x (IntKind.u64.wrap (2 ^ kl))) := ⟨_, rfl⟩
  have hB0 : Hid (Lun w1 w5 B Cg q N S1 S2 S3 q1 q2 q3 C1 C2 C3 0 0 0) := Lib.hid ⟨hA5.out, hG.out, hSm.out, ⟨p1, [], (hS1.out.below hb4.out).below hb5.out⟩, ⟨p2, [], hS2.out.below hb5.out⟩, ⟨p3, [], hS3.out⟩, by omega, by omega, by omega, by omega, by omega, by omega⟩
  have hno9 : N.outs.length ≤ 100000 := by have := hSm.out.outs; omega
  have hRR := Lib.hid (HR.out.step hb0.out)
  obtain ⟨i0, hi, hy0, hy1, hy2⟩ := info_parts info_u64
  clear hS1 hS2 hS3 hA5 hA4 hA3 hA hb3 hb4 hb5 hz1 hz2 hz3 HR h12 h13 h14 hz34 hS1l hS2l hw1
  have hrot := Lib.hid (fun x w => rot_any x kb hkb w)
  have hone := Lib.hid (one_wd kl)
  have hcb : IntKind.i64.wrap (kb : Int) = (kb : Int) := IntWalk.i64_in _ (by omega)
  have hwC1 : Hid (∀ i, Words (C1 i)) := Lib.hid (fun i => by rw [hC1]; exact HW.out i)
  have hwC2 : Hid ((∀ i, Words (C2 i)) ∧ ∀ i k, rotV kb ((C1 i).getD k 0) = (C2 i).getD k 0) := Lib.hid (by
    have := fun i => map_words (f := rotV kb) (HW.out i) (fun x hx => rot_wd hkb hx) (rot_zero hkb)
    subst hC1 hC2
    exact ⟨fun i => (this i).1, fun i k => ((this i).2 k).symm⟩)
  have hwC3 : Hid ((∀ i, Words (C3 i)) ∧ ∀ i k, bits .and .u64 ((C1 i).getD k 0) (IntKind.u64.wrap (2 ^ kl)) = bits .and .u64 ((C3 i).getD k 0) (IntKind.u64.wrap (2 ^ kl))) := Lib.hid (by
    have := fun i => map_words (f := fun x => bits .and .u64 x (IntKind.u64.wrap (2 ^ kl))) (HW.out i) (fun x hx => andw_bd hx hone.out) (by rw [and64 (by omega) (by omega) hone.out.1 hone.out.2]; simp)
    have hW := HW.out
    subst hC1 hC3
    exact ⟨fun i => (this i).1, fun i k => by rw [(this i).2 k]; exact lane_self (hW i k) hone.out⟩)
  have hr12 := Lib.hid (fun i k (hk : k < N.outs.length) => outs_rel (Thru.rot hkb) hG.out hwC1.out hwC2.out.1 hwC2.out.2 i hk)
  have hr13 := Lib.hid (fun i k (hk : k < N.outs.length) => outs_rel (Thru.lane hone.out) hG.out hwC1.out hwC3.out.1 hwC3.out.2 i hk)
  have hC1 := Lib.hid hC1
  have hC2 := Lib.hid hC2
  have hC3 := Lib.hid hC3
  have htl := Lib.hid tells_any8
  go_wp2_with fail
  generalize hon : IntKind.u64.wrap (2 ^ kl) = one at *
  clear hon
  go_loopw [20, 21, 22, 24, 25, 26, 27, 28, 29, 30, 31, 32] (fun s20 _ _ _ _ _ _ _ _ _ _ _ wr => ∃ i : Nat, i ≤ min n2 20 ∧ s20 = .int .i64 i ∧ Hid (Lun w1 wr B Cg q N S1 S2 S3 q1 q2 q3 C1 C2 C3 i i i)) (fun s20 _ _ _ _ _ _ _ _ _ _ _ _ => min n2 20 - (intOf s20).toNat)
  case atStart => exact ⟨0, Nat.zero_le _, rfl, hB0⟩
  case round =>
    clear hB0
    obtain ⟨i, hi5, rfl, hBn⟩ := hrel
    by_cases hlt : i < min n2 20
    · have hin : i < n2 := by omega
      have hi20 : i < 20 := by omega
      obtain ⟨b, off, ha2, hb, hcl⟩ := hRR.out.at (by omega)
      obtain ⟨ai, ci, hc0, -, -, hrow⟩ := hcl i hin
      have hwl := Lib.hid (HW.out i)
      have e1 : Hid (C1 i = CC.getD i []) := Lib.hid (by rw [hC1.out])
      have e2 : Hid (C2 i = (CC.getD i []).map (rotV kb)) := Lib.hid (by rw [hC2.out])
      have e3 : Hid (C3 i = (CC.getD i []).map (fun x => bits .and .u64 x one)) := Lib.hid (by rw [hC3.out])
      generalize hCCi : CC.getD i [] = l at *
      have hCCi := Lib.hid hCCi
      obtain ⟨mi, hmi⟩ : ∃ m, l.length = m := ⟨_, rfl⟩
      rw [hmi] at hc0 hrow
      have hcw := Lib.hid (fun w2 (hb2 : Below w1.heap.size w1 w2) => stepc hb2 hb hc0)
      have hc0 := stepc hBn.out.at_.below hb hc0
      have hrow := Lib.hid hrow
      have hmi := Lib.hid hmi
      have hle4 := hmx.out i
      rw [hCCi.out, hmi.out] at hle4
      subst ha2
      clear hcl
      obtain ⟨wo, rfl⟩ : ∃ wo : World, wo = wr := ⟨_, rfl⟩
      have hd20 : decide ((i : Int) < 20) = true := by simp; omega
      go_wp2_with fail
      go_loopw [21, 22, 24, 84] (fun s21 s22 _ s84 wx => ∃ j : Nat, j ≤ mi ∧ s84 = .int .i64 j ∧ Hid (Duo wo wx s21 s22 j j ((l.take j).map (fun x => Value.int .u64 (rotV kb x))) ((l.take j).map (fun x => Value.int .u64 (bits .and .u64 x one))))) (fun _ _ _ s84 _ => mi - (intOf s84).toNat)
      case atStart => exact ⟨0, Nat.zero_le _, rfl, Lib.hid (by simpa using Duo.nil wo)⟩
      case round =>
        obtain ⟨j, hj, rfl, hD⟩ := hrel
        by_cases hlt3 : j < mi
        · obtain ⟨b5, off5, hla5, hb5, hc5⟩ := hrow.out.at (by omega)
          have t5 := stepc (nextw hBn.out.at_.below hD.out.below) hb5 (hc5 j hlt3)
          have htk := Lib.hid (fun f => take_map_succ (l := l) (j := j) (by rw [hmi.out]; exact hlt3) f)
          subst hla5
          obtain ⟨x, hxx⟩ : ∃ x, l.getD j 0 = x := ⟨_, rfl⟩
          rw [hxx] at t5 htk
          have hxx := Lib.hid hxx
          clear hc5
          obtain ⟨sa, sc, hsv⟩ := own_slice hD.out.o1
          obtain ⟨ta, tc, htv⟩ := own_slice hD.out.o2
          subst hsv htv
          have hsz := hD.out.below.size
          have hn1 := Lib.hid (fun o => (Below.refl wr.heap.size wr).alloc (Nat.le_refl _) o)
          go_wp2_with (first
            | (go_at_call 30; (with_reducible refine (hrot.out _ _).mono ?_); rintro e w6 ⟨rfl, rfl⟩)
            | (at_builtin; refine wpList_append_lies _ rfl _ _ 44 rfl wo.heap.size 62 i0 (.int .u64 0) 1 8 Tryz.underlying44 hi hy0 hy1 hy2 rfl (by decide) (.slice sa j sc) j _ rfl (hD.out.o1.alloc _) ⟨wr.heap.size, 0, none⟩ 1 1 [.int .u64 (rotV kb x)] rfl rfl (news1 _ _ _) (by simp [Value.oneCell']) (by decide) (by unfold maxLen; omega) (by omega) (by simp; omega) _ rfl ?_; intro g8 cap8 w8 hown8 hgrow8 hat8 hlt8; have hD8 := Lib.hid (hD.out.grow (hn1.out (.cells #[.int .u64 (rotV kb x)] 62)) hown8 hgrow8 rfl hat8); have hsz8 := hD8.out.below.size; have hn8 := Lib.hid (fun o => (Below.refl w8.heap.size w8).alloc (Nat.le_refl _) o); clear hown8 hgrow8 hat8)
            | (at_builtin; refine wpList_append_lies _ rfl _ _ 44 rfl wo.heap.size 62 i0 (.int .u64 0) 1 8 Tryz.underlying44 hi hy0 hy1 hy2 rfl (by decide) (.slice ta j tc) j _ rfl (hD8.out.o2.alloc _) ⟨w8.heap.size, 0, none⟩ 1 1 [.int .u64 (bits .and .u64 x one)] rfl rfl (news1 _ _ _) (by simp [Value.oneCell']) (by decide) (by unfold maxLen; omega) (by omega) (by simp; omega) _ rfl ?_; intro g9 cap9 w9 hown9 hgrow9 hat9 hlt9; have hD9 := Lib.hid (hD8.out.swap.grow (hn8.out (.cells #[.int .u64 (bits .and .u64 x one)] 62)) hown9 hgrow9 rfl hat9); clear hown9 hgrow9 hat9))
          exact ⟨⟨j + 1, by omega, by go_num, Lib.hid (by rw [htk.out, htk.out]; exact hD9.out.swap)⟩, by simp [intOf]; omega⟩
        · obtain rfl : j = mi := by omega
          obtain ⟨wi, rfl⟩ : ∃ wi : World, wi = wr := ⟨_, rfl⟩
          obtain ⟨sa, sc, hsv⟩ := own_slice hD.out.o1
          obtain ⟨ta, tc, htv⟩ := own_slice hD.out.o2
          subst hsv htv
          have htk : l.take j = l := by rw [← hmi.out]; exact List.take_length
          have W2 : Hid (WR wi sa j sc (C2 i)) := Lib.hid (by
            have := hD.out.o1
            rw [htk] at this
            refine ⟨by rw [e2.out, List.length_map, hmi.out], ?_, hwC2.out.1 i⟩
            rw [e2.out, List.map_map]
            exact own_base this (Nat.zero_le _))
          have W3 : Hid (WR wi ta j tc (C3 i)) := Lib.hid (by
            have := hD.out.o2
            rw [htk] at this
            refine ⟨by rw [e3.out, List.length_map, hmi.out], ?_, hwC3.out.1 i⟩
            rw [e3.out, List.map_map]
            exact own_base this (Nat.zero_le _))
          have hbw := nextw hBn.out.at_.below hD.out.below
          have hL0 := hBn.out.step hD.out.below
          have hc0 := hcw.out _ hbw
          have hgv1 := Lib.hid (hL0.given (lc := ci) (l := C1 i) (by rw [e1.out]; exact hrow.out.step hbw) (hwC1.out i))
          have hx10 := Lib.hid (hr12.out i)
          have hx13 := Lib.hid (hr13.out i)
          have hO1N : N.outs.length ≤ 100000 := hno9
          clear hD hBn hL0 htk hbw hr12 hr13
          go_upto_region 22 with (first
            | (go_at_call 17; (with_reducible refine hgv1.out.mono ?_); rintro e w6 ⟨u6, rfl, hG6, hL6, hb6⟩; have hon := Lib.hid (hL6.one hwC1.out (by omega) hG6); have hL6 := Lib.hid hL6; have W26 := Lib.hid (W2.out.below hb6); have W36 := Lib.hid (W3.out.below hb6); clear hG6 hgv1 W2 W3)
            | (go_at_call 16; (with_reducible refine hon.out.mono ?_); rintro e w7 ⟨g7, rfl, hO7, hL7, hk7⟩; have W27 := hL6.out.wrow W26.out hk7; have W37 := Lib.hid (hL6.out.wrow W36.out hk7); have hgv2 := Lib.hid (hL7.swap12.given (lc := sc) W27.row W27.words); have hO7 := Lib.hid hO7; clear hon hL6 W26 W36 hk7 W27 hL7)
            | (go_at_call 17; (with_reducible refine hgv2.out.mono ?_); rintro e w8 ⟨u8, rfl, hG8, hL8, hb8⟩; have hon2 := Lib.hid (hL8.one hwC2.out.1 (by omega) hG8); have hL8 := Lib.hid hL8; have W38 := Lib.hid (W37.out.below hb8); have hO8 := Lib.hid (hO7.out.step hb8); clear hG8 hgv2 W37 hO7)
            | (go_at_call 16; (with_reducible refine hon2.out.mono ?_); rintro e w9 ⟨g9, rfl, hO9, hL9, hk9⟩; have W39 := hL8.out.wrow W38.out hk9; have hO9a := Lib.hid (hL8.out.orow hO8.out hk9); have hgv3 := Lib.hid (hL9.swap13.given (lc := tc) W39.row W39.words); have hO9 := Lib.hid hO9; clear hon2 hL8 W38 hk9 W39 hL9 hO8)
            | (go_at_call 17; (with_reducible refine hgv3.out.mono ?_); rintro e w10 ⟨u10, rfl, hG10, hL10, hb10⟩; have hon3 := Lib.hid (hL10.one hwC3.out.1 (by omega) hG10); have hL10 := Lib.hid hL10; have hO10a := Lib.hid (hO9a.out.step hb10); have hO10b := Lib.hid (hO9.out.step hb10); clear hG10 hgv3 hO9a hO9)
            | (go_at_call 16; (with_reducible refine hon3.out.mono ?_); rintro e w11 ⟨g11, rfl, hO11c, hL11, hk11⟩; have hO11a := Lib.hid (hL10.out.orow hO10a.out hk11); have hO11b := Lib.hid (hL10.out.orow hO10b.out hk11); have hO11c := Lib.hid hO11c; have hLf := Lib.hid hL11.turn; clear hon3 hL10 hk11 hL11 hO10a hO10b))
          obtain ⟨oa, oc, HB, c4, hBl⟩ := hLf.out.outs
          have HB := Lib.hid HB
          have gne := bnef (a := (N.outs.length : Int)) (b := N.outs.length) rfl
          go_wp2_with fail
          go_loopw [31, 32, 166] (fun _ _ s166 wx => ∃ k : Nat, k ≤ N.outs.length ∧ s166 = .int .i64 k ∧ Hid (Below w11.heap.size w11 wx)) (fun _ _ s166 _ => N.outs.length - (intOf s166).toNat)
          case atStart => exact ⟨0, Nat.zero_le _, rfl, Lib.hid (Below.refl _ _)⟩
          case round =>
            obtain ⟨k, hk, rfl, hB⟩ := hrel
            obtain ⟨wk, rfl⟩ : ∃ wk : World, wk = wr := ⟨_, rfl⟩
            by_cases hltk : k < N.outs.length
            · obtain ⟨ra1, rc1, p1c, R1, z1⟩ := hO11a.out.at hltk
              obtain ⟨ra2, rc2, p2c, R2, z2⟩ := hO11b.out.at hltk
              obtain ⟨ra3, rc3, p3c, R3, z3⟩ := hO11c.out.at hltk
              obtain ⟨gb, la, lc, hoa, hgb, b0, b1, -⟩ := HB.out.at hltk
              subst hoa
              have f12 := Lib.hid (hx10.out k hltk).2.2
              have f13 := Lib.hid (hx13.out k hltk).2.2
              have m1 := (hx10.out k hltk).1
              have m2 := (hx10.out k hltk).2.1
              have m3 := (hx13.out k hltk).2.1
              have p1c := stepc hB.out z1 p1c
              have p2c := stepc hB.out z2 p2c
              have p3c := stepc hB.out z3 p3c
              have b1 := stepc hB.out hgb b1
              have c4 := stepc hB.out hBl c4
              have R1 := R1.row.step hB.out
              have R2 := R2.row.step hB.out
              have R3 := R3.row.step hB.out
              have zk := hB.out.size
              have z1 := Nat.lt_of_lt_of_le z1 zk
              have z2 := Nat.lt_of_lt_of_le z2 zk
              have z3 := Nat.lt_of_lt_of_le z3 zk
              rw [m1] at p1c R1
              rw [m2] at p2c R2
              rw [m3] at p3c R3
              clear m1 m2 m3 b0
              generalize (outAt N C1 i).getD k [] = L1 at *
              generalize (outAt N C2 i).getD k [] = L2 at *
              generalize (outAt N C3 i).getD k [] = L3 at *
              have hm64 := (hG.out.outs.wide _ (List.getElem_mem hltk)).2
              generalize N.outs[k].lits.length = m at *
              have R1 := Lib.hid R1
              have R2 := Lib.hid R2
              have R3 := Lib.hid R3
              have gnm := bnef (a := (m : Int)) (b := m) rfl
              go_wp2_with fail
              have n1 := fun z => stepc (below_draws wk z) z1 p1c
              have n2 := fun z => stepc (below_draws wk z) z2 p2c
              have n3 := fun z => stepc (below_draws wk z) z3 p3c
              have n4 := fun z => stepc (below_draws wk z) (Nat.lt_of_lt_of_le hgb zk) b1
              have n5 := fun z => stepc (below_draws wk z) (Nat.lt_of_lt_of_le hBl zk) c4
              go_quiet (fail)
              obtain ⟨wd, hwd⟩ : ∃ wd, wk.drewN nq = wd := ⟨_, rfl⟩
              have p1d := n1 nq
              have p2d := n2 nq
              have p3d := n3 nq
              have hbd := below_draws wk nq
              rw [hwd] at p1d p2d p3d hbd ⊢
              clear n1 n2 n3 n4 n5 hwd p1c p2c p3c b1 c4
              have zd := hbd.size
              have z1 := Nat.lt_of_lt_of_le z1 zd
              have z2 := Nat.lt_of_lt_of_le z2 zd
              have z3 := Nat.lt_of_lt_of_le z3 zd
              have hbd := Lib.hid hbd
              go_wp2_with fail
              go_loopw [32, 215] (fun _ s215 wx => ∃ j : Nat, j ≤ m ∧ s215 = .int .i64 j ∧ Hid (Below wd.heap.size wd wx)) (fun _ s215 _ => m - (intOf s215).toNat)
              case atStart => exact ⟨0, Nat.zero_le _, rfl, Lib.hid (Below.refl _ _)⟩
              case round =>
                obtain ⟨j, hj, rfl, hBd⟩ := hrel
                by_cases hlj : j < m
                · obtain ⟨b5, o5, h5, hb5, hc5⟩ := R1.out.at (by omega)
                  obtain ⟨b6, o6, h6, hb6, hc6⟩ := R2.out.at (by omega)
                  obtain ⟨b7, o7, h7, hb7, hc7⟩ := R3.out.at (by omega)
                  subst h5 h6 h7
                  have gq1 := bnef (f12.out j hlj)
                  have gq2 := bnef (f13.out j hlj)
                  have t1 := stepc (nextw hbd.out hBd.out) hb5 (hc5 j hlj)
                  have t2 := stepc (nextw hbd.out hBd.out) hb6 (hc6 j hlj)
                  have t3 := stepc (nextw hbd.out hBd.out) hb7 (hc7 j hlj)
                  have p1e := stepc hBd.out z1 p1d
                  have p2e := stepc hBd.out z2 p2d
                  have p3e := stepc hBd.out z3 p3d
                  have ze := hBd.out.size
                  generalize L1.getD j 0 = x1 at *
                  generalize L2.getD j 0 = x2 at *
                  generalize L3.getD j 0 = x3 at *
                  clear hc5 hc6 hc7
                  go_wp2_with fail
                  have n1 := fun z => stepc (below_draws wr z) (Nat.lt_of_lt_of_le z1 ze) p1e
                  have n2 := fun z => stepc (below_draws wr z) (Nat.lt_of_lt_of_le z2 ze) p2e
                  have n3 := fun z => stepc (below_draws wr z) (Nat.lt_of_lt_of_le z3 ze) p3e
                  have n4 := fun z => stepc (below_draws wr z) (by omega) t1
                  have n5 := fun z => stepc (below_draws wr z) (by omega) t2
                  have n6 := fun z => stepc (below_draws wr z) (by omega) t3
                  have hbe := Lib.hid (below_draws wr)
                  go_quiet (first | (go_at_call 30; with_reducible exact Calls.quiet_of_same ((hrot.out _ _).mono (fun _ _ h => ⟨h.1, h.2.symm⟩))))
                  go_wp2_with fail
                  exact ⟨⟨j + 1, by omega, by go_num, Lib.hid (nextw hBd.out (hbe.out _))⟩, by simp [intOf]; omega⟩
                · obtain rfl : j = m := by omega
                  go_wp2_with fail
                  exact ⟨⟨k + 1, by omega, by go_num, Lib.hid (nextw hB.out (nextw hbd.out hBd.out))⟩, by simp [intOf]; omega⟩
            · obtain rfl : k = N.outs.length := by omega
              have hLg := Lib.hid (hLf.out.step hB.out)
              go_wp2_with fail
              exact ⟨⟨i + 1, by omega, by go_num, hLg⟩, by simp [intOf]; omega⟩
    · obtain rfl : i = min n2 20 := by omega
      have hbl := Lib.hid (nextw hb0.out hBn.out.at_.below)
      by_cases h6 : n2 ≤ 20
      · have hmn : min n2 20 = n2 := by omega
        rw [hmn]
        go_wp2_with (go_at_call 23; (with_reducible refine (htl.out _).mono ?_); rintro e w30 ⟨rfl, hb30⟩)
        go_ret
        exact ⟨rfl, nextw hbl.out hb30⟩
      · have hmn : min n2 20 = 20 := by omega
        have hn4 : 20 < n2 := by omega
        rw [hmn]
        go_wp2_with (go_at_call 23; (with_reducible refine (htl.out _).mono ?_); rintro e w30 ⟨rfl, hb30⟩)
        go_ret
        exact ⟨rfl, nextw hbl.out hb30⟩
end Go.Proofs.YtlkainmkhofpaaaGreat
end

section
namespace Go.Proofs.YtlkainmkhofpaaaGreat
open Go.RowKit Go.Maps Go.ChangeShapes Go.WideShapes Go.ChangeAt Go.Joins
set_option maxRecDepth 100000

theorem all_mem {H : Type} {P : Program} {e : TypeId} {L : List (DataW H)} {d : DataW H} (h : d ∈ L) : ∀ x ∈ d.weights P e, x ∈ DataW.weightsAll P e L := by
  induction L with
  | nil => simp at h
  | cons a L ih =>
    intro x hx
    simp only [DataW.weightsAll, List.mem_append]
    rcases List.mem_cons.1 h with h1 | h1
    · subst h1; exact .inl hx
    · exact .inr (ih h1 x hx)
section
variable {H : Type} {enc : TypeId × Value → H} {w : World} {base : Nat} {held : Bool}
/-- A slice of integers that came in. -/
theorem slice2_sz {fuel : Nat} {v : Value} {y : DataW H × List MemPlace} {t e : Nat} {k : IntKind} (hs : Tryz.prog.underlying t = some (.slice e)) (he : Tryz.prog.underlying e = some (.int k)) (hc : Tryz.prog.cellsOf e = 1) (h : DataW.trod enc Tryz.prog w base (fun _ => true) held fuel t [v] = some y) (hwt : ∀ x ∈ y.1.weights Tryz.prog t, x ≤ reachBytes) :
    ∃ a n c l, v = .slice a n c ∧ n ≤ c ∧ c ≤ 9223372036854775807 ∧ Row k w a n l ∧ (∀ z ∈ l, (Lit.int k z).wf = true) ∧ l.length * Tryz.prog.bytesOf e ≤ reachBytes := by
  rcases open_ints hs he hc h with ⟨e1, _⟩ | ⟨x, l, c, zs, e1, _, hl, hm, hz, hy, hcell, hwz⟩
  · exact ⟨none, 0, 0, [], by simpa using e1, by omega, by omega, Row.nil _ _ _, fun z hz => by simp at hz, by simp⟩
  · unfold maxLen at hm
    have hz' : zs.length = c := by simpa using hz
    refine ⟨some x, l, c, zs.take l, by simpa using e1, hl, by omega, ⟨by rw [List.length_take]; omega, by omega, ?_⟩, fun z hz => hwz z (List.mem_of_mem_take hz), ?_⟩
    rotate_left
    · have h1 := hwt (zs.length * Tryz.prog.bytesOf e) (by
        rw [hy]
        simp only [DataW.weights, hs, List.mem_cons]
        left
        simp only [lits, List.length_map]
        rw [← List.length_append, List.take_append_drop])
      exact Nat.le_trans (Nat.mul_le_mul_right _ (by rw [List.length_take]; omega)) h1
    by_cases h0 : l = 0
    · exact .inl h0
    · right
      obtain ⟨b, off, rfl, hcc⟩ := ints_at hcell (by omega)
      refine ⟨b, off, rfl, World.block_lt_of_cell? w ⟨b, off + 0, none⟩ (hcc 0 (by omega)), fun i hi => ?_⟩
      rw [hcc i (by omega)]
      have : (zs.take l).getD i 0 = zs.getD i 0 := by simp [List.getD, hi]
      rw [this]
/-- A slice of such slices. -/
theorem rows_sz {a : Option Addr} {n c : Nat} {d : DataW H} {p : List MemPlace} {t s e : Nat} {k : IntKind} (ht : Tryz.prog.underlying t = some (.slice s)) (hs : Tryz.prog.underlying s = some (.slice e)) (he : Tryz.prog.underlying e = some (.int k)) (hc : Tryz.prog.cellsOf e = 1) (hcs : Tryz.prog.cellsOf s = 1) (h : DataW.Trod enc Tryz.prog w base (fun _ => true) held t (.slice a n c) d p) (hwt : ∀ x ∈ d.weights Tryz.prog t, x ≤ reachBytes) :
    n ≤ c ∧ c ≤ 9223372036854775807 ∧ ∃ N, RRk k w a n N ∧ (∀ i, i < n → ∀ z ∈ N.getD i [], (Lit.int k z).wf = true) ∧ ∀ i, (N.getD i []).length * Tryz.prog.bytesOf e ≤ reachBytes := by
  obtain ⟨fuel, hf⟩ := h
  rcases Go.Deep.open_slice1 ht hcs hf with ⟨e1, _⟩ | ⟨x, len, cap, m, nn, V, D, Pl, e1, -, hl, hm, hmm, hy, hx⟩
  · simp [Value.cells] at e1
    obtain ⟨rfl, rfl, rfl⟩ := e1
    exact ⟨by omega, by omega, [], ⟨rfl, by omega, .inl rfl⟩, fun i hi => (by omega), fun i => by simp⟩
  · simp [Value.cells] at e1
    obtain ⟨rfl, rfl, rfl⟩ := e1
    simp at hmm
    subst hmm
    unfold maxLen at hm
    have hD : ∀ i, i < n → ∀ x ∈ (D i).weights Tryz.prog s, x ≤ reachBytes := fun i hi x hx => hwt x (by
      have e : d = .slice ((List.range n).map D) _ := congrArg Prod.fst hy
      rw [e]
      simp only [DataW.weights, ht, List.mem_cons, List.mem_append]
      exact .inr (.inl (all_mem (List.mem_map.2 ⟨i, List.mem_range.2 hi, rfl⟩) x hx)))
    refine ⟨hl, by omega, ?_⟩
    obtain ⟨N, hN, hP⟩ := choose_list (α := List Int) [] (n := n) (p := fun i l => ∃ ai ci, w.cell? (x.add i) = some (.slice ai l.length ci) ∧ l.length ≤ ci ∧ ci ≤ 9223372036854775807 ∧ Row k w ai l.length l ∧ (∀ z ∈ l, (Lit.int k z).wf = true) ∧ l.length * Tryz.prog.bytesOf e ≤ reachBytes) (fun i hi => by
      obtain ⟨h1, h2⟩ := hx i (by omega)
      obtain ⟨ai, ni, ci, l, e, q1, q2, q3, q4, q5⟩ := slice2_sz hs he hc h2 (hD i (by omega))
      have hln := q3.len
      subst hln
      exact ⟨l, ai, ci, by rw [h1, e], q1, q2, q3, q4, q5⟩)
    refine ⟨N, ⟨hN, by omega, ?_⟩, fun i hi z hz => (by obtain ⟨ai, ci, -, -, -, -, h5, -⟩ := hP i hi; exact h5 z hz), fun i => by
      by_cases hi : i < n
      · obtain ⟨ai, ci, -, -, -, -, -, h6⟩ := hP i hi; exact h6
      · simp [List.getD, List.getElem?_eq_none (show N.length ≤ i by omega)]⟩
    by_cases h0 : n = 0
    · exact .inl h0
    · right
      obtain ⟨b, off, spot⟩ := x
      obtain ⟨a0, c0, g0, -⟩ := hP 0 (by omega)
      have hspot : spot = none := by simpa [Addr.add] using World.cell?_spot g0
      subst hspot
      refine ⟨b, off, rfl, ?_, fun i hi => ?_⟩
      · have := World.block_lt_of_cell? w _ g0
        simpa [Addr.add] using this
      · obtain ⟨ai, ci, g1, g2, g3, g4, -⟩ := hP i hi
        rw [Go.WideShapes.add_plain] at g1
        exact ⟨ai, ci, g1, g2, g3, g4⟩
end
end Go.Proofs.YtlkainmkhofpaaaGreat
end
