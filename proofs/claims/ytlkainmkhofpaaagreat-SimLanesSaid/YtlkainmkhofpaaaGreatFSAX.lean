/-
  Simulations told by functions: a cycle's words, what registers have and what goes out behind so many cycles.
  SimAgain: what is carried along; the walk.
  What came in: rows of steps; options.
  What came in: rows of rows of words; bytes.
-/
import Derived.Test.YtlkainmkhofpaaaGreatFSAW
import Derived.Test.YtlkainmkhofpaaaGreatFSAO
import Derived.Deep.SlicePairs
section
namespace Go.Proofs.YtlkainmkhofpaaaGreat
open Go.RowKit Go.Maps Bits Num
set_option maxRecDepth 100000

def cycW (N : Nt) (V : List Int) : List Int := ev N.g (in1 N.g (insW N V) N.g.inputs.length) N.g.nodes.length
theorem cycW_cyc {N : Nt} (hg : Good N []) {V : List Int} (hV : Words V) : Cyc N V (cycW N V) := by
  refine cyc_of hg ?_ (ev_val hg.wf (insW_words hV))
  unfold cycW
  rw [ev_len, in1_len]
theorem cycW_eq {N : Nt} (hg : Good N []) {V ws : List Int} (hV : Words V) (c : Cyc N V ws) : ws = cycW N V := c.unique hg (cycW_cyc hg hV)
/-- What registers have behind i cycles. -/
def hasAt (N : Nt) (C : Nat → List Int) : Nat → List Int
  | 0 => iniR N.regs
  | i + 1 => nxR N (cycW N (padX N (C i) ++ hasAt N C i))
def wordsAt (N : Nt) (C : Nat → List Int) (i : Nat) : List Int := cycW N (padX N (C i) ++ hasAt N C i)
def outAt (N : Nt) (C : Nat → List Int) (i : Nat) : List (List Int) := outR N (wordsAt N C i)
theorem hasAt_words (N : Nt) (C : Nat → List Int) (hg : Good N []) (hC : ∀ i, Words (C i)) (i : Nat) : Words (hasAt N C i) := by
  induction i with
  | zero => exact words_map _ _ iniW_bd
  | succ i ih =>
    have := (cycW_cyc hg (words_append (padX_words N (hC i)) ih)).words
    exact words_map _ _ (fun r => nxW_bd this r)
/-- A cycle. -/
theorem step_fn {w : World} {S : Nat} {q : NPl} {p : SPl} {N : Nt} {C : Nat → List Int} (hC : ∀ i, Words (C i)) {i : Nat} {last : List Int} (h : SimIs w S q p N ⟨hasAt N C i, last, i⟩) (hi : i ≤ 1000) {base : Nat} {v : Value} (hG : GR w base v (piecesG N (C i) ++ List.replicate 0 [1])) :
    Calls Tryz.prog 16 #[.pointer (some ⟨S, 0, none⟩), v] w fun e w' => ∃ (p' : SPl) (g : Nat), e = .returned (.tuple #[.slice (some ⟨g, 0, none⟩) N.outs.length N.outs.length, .int .i64 0]) ∧ ORow w' w.heap.size g N.outs.length (outAt N C i) N.outs.length ∧ SimIs w' S q p' N ⟨hasAt N C (i + 1), wordsAt N C i, i + 1⟩ ∧ Kept (fun k => k = S) w w' := by
  simp only [List.replicate_zero, List.append_nil] at hG
  obtain ⟨a, c, rfl⟩ := hG.slice
  obtain ⟨hn, hI⟩ := hG.inRows (hC i) h.small
  refine (SStep_ok h (by show i < 1000000; omega) (c := c) hI).mono ?_
  rintro e w' ⟨ws, p', g, hc, rfl, hO, hS, hk⟩
  have e1 := cycW_eq h.good (words_append (padX_words N (hC i)) (hasAt_words N C h.good hC i)) hc
  subst e1
  exact ⟨p', g, rfl, hO, hS, hk⟩
theorem step_more {w : World} {S : Nat} {q : NPl} {p : SPl} {N : Nt} {s : St} (h : SimIs w S q p N s) {base : Nat} {v : Value} {l : List Int} (hG : GR w base v (piecesG N l ++ List.replicate 1 [1])) :
    Calls Tryz.prog 16 #[.pointer (some ⟨S, 0, none⟩), v] w fun e w' => e = .returned (.tuple #[.slice none 0 0, .int .i64 1]) ∧ Below w.heap.size w w' := by
  obtain ⟨a, c, rfl⟩ := hG.slice
  refine SStep_no h ?_
  rw [List.length_append, piecesG_len]
  simp

/-! ### rows of rows compared -/
theorem ORow.keptF {F : Nat → Prop} {w w' : World} {base g no j : Nat} {L : List (List Int)} (h : ORow w base g no L j) (hk : Kept F w w') (h1 : ∀ k cur fz, F k → w.heap[k]? ≠ some (.cells cur 44 fz)) (h2 : NoWd w F) : ORow w' base g no L j := by
  obtain ⟨kv, e1, e2⟩ := h
  refine ⟨kv, own_keptF e1 hk (fun k e hf => ?_), fun i hi => ?_⟩
  · obtain ⟨c, hc⟩ := own_type e1 e
    exact h1 k c _ hf hc
  · obtain ⟨ra, rc, e3, e4⟩ := e2 i hi
    exact ⟨ra, rc, e3, e4.keptF hk h2⟩
set_option maxHeartbeats 1000000 in
theorem like_any {w : World} {b1 b2 g1 g2 no : Nat} {L : List (List Int)} (h1 : ORow w b1 g1 no L no) (h2 : ORow w b2 g2 no L no) (hm : no ≤ 100000) :
    Calls Tryz.prog 31 #[.slice (some ⟨g1, 0, none⟩) no no, .slice (some ⟨g2, 0, none⟩) no no] w fun e w' => e = .returned (.bool true) ∧ Below w.heap.size w w' := by
  have H1 := Lib.hid h1
  have H2 := Lib.hid h2
  have gne := bnef (a := (no : Int)) (b := no) rfl
  clear h1 h2
  go_enter Tryz.func31, Tryz.ntmps31
  go_wp2
  go_loopw [13] (fun s wr => ∃ j : Nat, j ≤ no ∧ s = .int .i64 j ∧ Hid (Below w.heap.size w wr)) (fun s _ => no - (intOf s).toNat)
  case atStart => exact ⟨0, Nat.zero_le _, rfl, Lib.hid (Below.refl _ _)⟩
  case round =>
    obtain ⟨j, hj, rfl, hB⟩ := hrel
    by_cases hlt : j < no
    · obtain ⟨ra, rc, c1, d1, z1⟩ := H1.out.at hlt
      obtain ⟨ra2, rc2, c2, d2, z2⟩ := H2.out.at hlt
      have c1 := stepc hB.out z1 c1
      have c2 := stepc hB.out z2 c2
      have hsm := Lib.hid (fun w2 (hb : Below w.heap.size w w2) => same_any (c := rc) (c2 := rc2) (d1.row.step hb) (d2.row.step hb))
      generalize (L.getD j []).length = m at *
      have hdr := Lib.hid (nextw hB.out ((Below.refl wr.heap.size wr).drew))
      have hdr2 := Lib.hid ((Below.refl wr.heap.size wr).drew)
      have z3 := Nat.lt_of_lt_of_le z1 hB.out.size
      have z4 := Nat.lt_of_lt_of_le z2 hB.out.size
      clear d1 d2
      go_upto_region 6 with fail
      go_region_held3 (fun w' => w'.cell? ⟨g1, j, none⟩ = some (.slice ra m rc) ∧ w'.cell? ⟨g2, j, none⟩ = some (.slice ra2 m rc2)) (go_keep) (first
        | (go_at_call 19; (with_reducible refine (hsm.out _ hdr.out).mono ?_); rintro e w5 ⟨rfl, hb5⟩; have hb6 := nextw hdr2.out hb5; have e1 := stepc hb6 z3 c1; have e2 := stepc hb6 z4 c2; have hb6 := Lib.hid hb6))
      have hB7 := Lib.hid (nextw hB.out hb6.out)
      clear e1 e2 hb5
      go_wp2_with fail
      exact ⟨⟨j + 1, by omega, by go_num, hB7⟩, by simp [intOf]; omega⟩
    · obtain rfl : j = no := by omega
      go_wp2
      go_ret
      exact ⟨rfl, hB.out⟩
/-- Rows of rows of words that a call puts together. -/
def FR (w : World) (base : Nat) (v : Value) (no : Nat) (L : Nat → List (List Int)) (m : Nat) : Prop :=
  ∃ kv : List Value, w.ownsRow base 50 1 v m kv ∧ ∀ j, j < m → ∃ g : Nat, kv[j]? = some (.slice (some ⟨g, 0, none⟩) no no) ∧ ORow w 0 g no (L j) no
theorem FR.nil (w : World) (base no : Nat) (L : Nat → List (List Int)) : FR w base (.slice none 0 0) no L 0 := ⟨[], own_nil _ _ _, fun j hj => by omega⟩
theorem FR.step {w w' : World} {base no m : Nat} {v : Value} {L : Nat → List (List Int)} (h : FR w base v no L m) (hb : Below w.heap.size w w') : FR w' base v no L m := by
  obtain ⟨kv, h1, h2⟩ := h
  exact ⟨kv, own_below h1 hb, fun j hj => by obtain ⟨g, e1, e2⟩ := h2 j hj; exact ⟨g, e1, e2.step hb⟩⟩
theorem FR.sim {w w' : World} {base no m : Nat} {v : Value} {L : Nat → List (List Int)} (h : FR w base v no L m) {S2 : Nat} {q2 : NPl} {p2 : SPl} {N2 : Nt} {s2 : St} (h2 : SimIs w S2 q2 p2 N2 s2) (hk : Kept (fun k => k = S2) w w') : FR w' base v no L m := by
  obtain ⟨kv, e1, e2⟩ := h
  refine ⟨kv, own_keptF e1 hk (fun k e hf => ?_), fun j hj => ?_⟩
  · subst hf
    obtain ⟨c, hc⟩ := own_type e1 e
    rw [h2.box] at hc; simp [simBox] at hc
  · obtain ⟨g, e3, e4⟩ := e2 j hj
    exact ⟨g, e3, e4.sim h2 hk⟩
theorem FR.at {w : World} {base no m c : Nat} {a : Option Addr} {L : Nat → List (List Int)} (h : FR w base (.slice a m c) no L m) {j : Nat} (hj : j < m) : ∃ b g : Nat, a = some ⟨b, 0, none⟩ ∧ b < w.heap.size ∧ w.cell? ⟨b, j, none⟩ = some (.slice (some ⟨g, 0, none⟩) no no) ∧ ORow w 0 g no (L j) no := by
  obtain ⟨kv, e1, e2⟩ := h
  obtain ⟨b, cap, e⟩ := own_form e1 (by omega)
  obtain ⟨g, e3, e4⟩ := e2 j hj
  simp only [Value.slice.injEq] at e
  obtain ⟨e5, e6, e7⟩ := e
  subst e5 e7
  exact ⟨b, g, rfl, own_lt e1, by rw [e1.cellAt j (by omega)]; exact e3, e4⟩
theorem FR.push {w wa w1 : World} {base no m gx cap g : Nat} {a : Option Addr} {c : Nat} {L : Nat → List (List Int)} {kv : List Value} (ho : w.ownsRow base 50 1 (.slice a m c) m kv) (hb : Below w.heap.size w wa)
    (hW : ∀ j, j < m → ∃ g : Nat, kv[j]? = some (.slice (some ⟨g, 0, none⟩) no no) ∧ ORow w 0 g no (L j) no) (hl : ORow wa 0 g no (L m) no)
    (hown : w1.ownsRow base 50 1 (.slice (some ⟨gx, 0, none⟩) (m + 1) cap) (m + 1) (kv ++ [.slice (some ⟨g, 0, none⟩) no no])) (hg : wa.grownBy w1 (Value.slice a m c).ownBlock) : FR w1 base (.slice (some ⟨gx, 0, none⟩) (m + 1) cap) no L (m + 1) := by
  have hk := kept_grown hg
  have hty : ∀ k, (Value.slice a m c).ownBlock = some k → ∃ d, wa.heap[k]? = some (.cells d 50 (0, 0)) := fun k e => own_type (own_below ho hb) e
  have h1 : ∀ k cur fz, (Value.slice a m c).ownBlock = some k → wa.heap[k]? ≠ some (.cells cur 44 fz) := by
    intro k cur fz e hh
    obtain ⟨d, hd⟩ := hty k e
    rw [hd] at hh; simp at hh
  have h2 : NoWd wa (fun k => (Value.slice a m c).ownBlock = some k) := by
    intro k cur fz e hh
    obtain ⟨d, hd⟩ := hty k e
    rw [hd] at hh; simp at hh
  have hkl : kv.length = m := by have := ho.1; omega
  refine ⟨kv ++ [.slice (some ⟨g, 0, none⟩) no no], hown, fun j hj => ?_⟩
  by_cases e : j < m
  · obtain ⟨g', e1, e2⟩ := hW j e
    exact ⟨g', by rw [List.getElem?_append_left (by omega)]; exact e1, (e2.step hb).keptF hk h1 h2⟩
  · obtain rfl : j = m := by omega
    exact ⟨g, by rw [← hkl]; simp, hl.keptF hk h1 h2⟩
theorem info_rows64 : (Tryz.prog.info? 50).map (fun i => (i.zero, i.size, i.bytes)) = some (some (.slice none 0 0), 1, 24) := by kernel_rfl
end Go.Proofs.YtlkainmkhofpaaaGreat
end

section
namespace Go.Proofs.YtlkainmkhofpaaaGreat
open Go.RowKit Go.Maps Bits Num
set_option maxRecDepth 100000

/-- A netlist, two simulations of it, what was told so far, and a copy. -/
structure Bun (w0 w : World) (B Cg : Nat) (q : NPl) (N : Nt) (S1 S2 : Nat) (q1 q2 : NPl) (C : Nat → List Int) (i1 i2 : Nat) (v : Value) (m k0 : Nat) (tw : Option Nat) : Prop where
  at_ : AtN w0 B Cg w q N
  good : Good N []
  small : Small N
  s1 : ∃ p la, SimIs w S1 q1 p N ⟨hasAt N C i1, la, i1⟩
  s2 : ∃ p la, SimIs w S2 q2 p N ⟨hasAt N C i2, la, i2⟩
  fr : FR w w0.heap.size v N.outs.length (outAt N C) m
  tw : ∀ S3, tw = some S3 → ∃ p la, SimIs w S3 q1 p N ⟨hasAt N C k0, la, k0⟩ ∧ S3 ≠ S1 ∧ S3 ≠ S2 ∧ w0.heap.size ≤ S3
  ne : S1 ≠ S2
  lo1 : w0.heap.size ≤ S1
  lo2 : w0.heap.size ≤ S2
section
variable {w0 w w' : World} {B Cg : Nat} {q : NPl} {N : Nt} {S1 S2 : Nat} {q1 q2 : NPl} {C : Nat → List Int} {i1 i2 : Nat} {v : Value} {m k0 : Nat} {tw : Option Nat}
theorem Bun.step (h : Bun w0 w B Cg q N S1 S2 q1 q2 C i1 i2 v m k0 tw) (hb : Below w.heap.size w w') : Bun w0 w' B Cg q N S1 S2 q1 q2 C i1 i2 v m k0 tw :=
  ⟨h.at_.step hb, h.good, h.small, let ⟨p, la, e⟩ := h.s1; ⟨p, la, e.below hb⟩, let ⟨p, la, e⟩ := h.s2; ⟨p, la, e.below hb⟩, h.fr.step hb, fun S3 e => let ⟨p, la, e1, e2⟩ := h.tw S3 e; ⟨p, la, e1.below hb, e2⟩, h.ne, h.lo1, h.lo2⟩
theorem AtN.sim {S : Nat} {q2 : NPl} {p2 : SPl} {N2 : Nt} {s2 : St} (h : AtN w0 B Cg w q N) (h2 : SimIs w S q2 p2 N2 s2) (hlo : w0.heap.size ≤ S) (hk : Kept (fun k => k = S) w w') : AtN w0 B Cg w' q N :=
  ⟨h.is.sim h2 hk, h.b, h.gb, h.out, h.below.trans (hk.below (fun k e => by subst e; exact hlo) h.below.size)⟩
theorem Bun.given (h : Bun w0 w B Cg q N S1 S2 q1 q2 C i1 i2 v m k0 tw) {la : Option Addr} {ln lc : Nat} {l : List Int} (hl : Row .u64 w0 la ln l) (hw : Words l) (mo : Nat) (hmo : mo ≤ 1) (z : Int) (hz : (mo : Int) = z) :
    Calls Tryz.prog 17 #[.pointer (some ⟨B, 0, none⟩), .slice la ln lc, .int .i64 z] w fun e w' => ∃ u, e = .returned u ∧ GR w' w.heap.size u (piecesG N l ++ List.replicate mo [1]) ∧ Bun w0 w' B Cg q N S1 S2 q1 q2 C i1 i2 v m k0 tw ∧ Below w.heap.size w w' := by
  have := given_any h.at_.is h.good h.small (lc := lc) (hl.step h.at_.below) hw mo hmo
  rw [h.at_.b, hz] at this
  exact this.mono fun _ w' ⟨u, e, hG, hb⟩ => ⟨u, e, hG, h.step hb, hb⟩
theorem Bun.more (h : Bun w0 w B Cg q N S1 S2 q1 q2 C i1 i2 v m k0 tw) {base : Nat} {u : Value} {l : List Int} (hG : GR w base u (piecesG N l ++ List.replicate 1 [1])) :
    Calls Tryz.prog 16 #[.pointer (some ⟨S1, 0, none⟩), u] w fun e w' => e = .returned (.tuple #[.slice none 0 0, .int .i64 1]) ∧ Bun w0 w' B Cg q N S1 S2 q1 q2 C i1 i2 v m k0 tw := by
  obtain ⟨p, la, e⟩ := h.s1
  exact (step_more e hG).mono fun _ w' ⟨e, hb⟩ => ⟨e, h.step hb⟩
theorem Bun.cycles (h : Bun w0 w B Cg q N S1 S2 q1 q2 C i1 i2 v m k0 tw) :
    Calls Tryz.prog 21 #[.pointer (some ⟨S1, 0, none⟩)] w fun e w' => e = .returned (.int .i64 i1) ∧ w = w' := by
  obtain ⟨p, la, e⟩ := h.s1
  exact Cycles_any e
theorem Bun.copy (h : Bun w0 w B Cg q N S1 S2 q1 q2 C i1 i2 v m k0 none) (hi : i1 = k0) :
    Calls Tryz.prog 15 #[.pointer (some ⟨S1, 0, none⟩)] w fun e w' => ∃ S3 : Nat, e = .returned (.pointer (some ⟨S3, 0, none⟩)) ∧ Bun w0 w' B Cg q N S1 S2 q1 q2 C i1 i2 v m k0 (some S3) := by
  obtain ⟨p, la, e⟩ := h.s1
  obtain ⟨p2, la2, e2⟩ := h.s2
  refine (SCopy_any e).mono fun _ w' ⟨S3, he, hS, hz, hb⟩ => ⟨S3, he, ?_⟩
  have h' := h.step hb
  have l1 := e.lt
  have l2 := e2.lt
  have l3 := h.at_.below.size
  subst hi
  exact ⟨h'.at_, h'.good, h'.small, h'.s1, h'.s2, h'.fr, fun S4 e4 => by cases e4; exact ⟨p, la, hS, by omega, by omega, by omega⟩, h'.ne, h'.lo1, h'.lo2⟩
/-- A cycle of the first. -/
theorem Bun.one (hC : ∀ i, Words (C i)) (h : Bun w0 w B Cg q N S1 S2 q1 q2 C i1 i2 v m k0 tw) (hi : i1 ≤ 1000) {base : Nat} {u : Value} (hG : GR w base u (piecesG N (C i1) ++ List.replicate 0 [1])) :
    Calls Tryz.prog 16 #[.pointer (some ⟨S1, 0, none⟩), u] w fun e w' => ∃ g : Nat, e = .returned (.tuple #[.slice (some ⟨g, 0, none⟩) N.outs.length N.outs.length, .int .i64 0]) ∧ ORow w' 0 g N.outs.length (outAt N C i1) N.outs.length ∧ Bun w0 w' B Cg q N S1 S2 q1 q2 C (i1 + 1) i2 v m k0 tw := by
  obtain ⟨p, la, e⟩ := h.s1
  obtain ⟨p2, la2, e2⟩ := h.s2
  refine (step_fn hC e hi hG).mono fun _ w' ⟨p', g, he, hO, hS, hk⟩ => ⟨g, he, hO.base (Nat.zero_le _), ?_⟩
  exact ⟨h.at_.sim e h.lo1 hk, h.good, h.small, ⟨p', _, hS⟩, ⟨p2, la2, e2.aside e (fun x => h.ne x.symm) hk⟩, h.fr.sim e hk, fun S3 e3 => (by
    obtain ⟨p3, la3, f1, f2, f3, f4⟩ := h.tw S3 e3
    exact ⟨p3, la3, f1.aside e f2 hk, f2, f3, f4⟩), h.ne, h.lo1, h.lo2⟩
/-- A cycle of the second, beside what the first told. -/
theorem Bun.two (hC : ∀ i, Words (C i)) (h : Bun w0 w B Cg q N S1 S2 q1 q2 C i1 i2 v m k0 tw) (hi : i2 ≤ 1000) {base : Nat} {u : Value} (hG : GR w base u (piecesG N (C i2) ++ List.replicate 0 [1])) {gx : Nat} {L : List (List Int)} (hx : ORow w 0 gx N.outs.length L N.outs.length) :
    Calls Tryz.prog 16 #[.pointer (some ⟨S2, 0, none⟩), u] w fun e w' => ∃ g : Nat, e = .returned (.tuple #[.slice (some ⟨g, 0, none⟩) N.outs.length N.outs.length, .int .i64 0]) ∧ ORow w' 0 g N.outs.length (outAt N C i2) N.outs.length ∧ ORow w' 0 gx N.outs.length L N.outs.length ∧ Bun w0 w' B Cg q N S1 S2 q1 q2 C i1 (i2 + 1) v m k0 tw := by
  obtain ⟨p, la, e⟩ := h.s1
  obtain ⟨p2, la2, e2⟩ := h.s2
  refine (step_fn hC e2 hi hG).mono fun _ w' ⟨p', g, he, hO, hS, hk⟩ => ⟨g, he, hO.base (Nat.zero_le _), hx.sim e2 hk, ?_⟩
  exact ⟨h.at_.sim e2 h.lo2 hk, h.good, h.small, ⟨p, la, e.aside e2 h.ne hk⟩, ⟨p', _, hS⟩, h.fr.sim e2 hk, fun S3 e3 => (by
    obtain ⟨p3, la3, f1, f2, f3, f4⟩ := h.tw S3 e3
    exact ⟨p3, la3, f1.aside e2 f3 hk, f2, f3, f4⟩), h.ne, h.lo1, h.lo2⟩
theorem Bun.reset (h : Bun w0 w B Cg q N S1 S2 q1 q2 C i1 i2 v m k0 tw) :
    Calls Tryz.prog 14 #[.pointer (some ⟨S1, 0, none⟩)] w fun e w' => e = .returned (.int .i64 0) ∧ Bun w0 w' B Cg q N S1 S2 q1 q2 C 0 i2 v m k0 tw := by
  obtain ⟨p, la, e⟩ := h.s1
  obtain ⟨p2, la2, e2⟩ := h.s2
  refine (Reset_any e).mono fun _ w' ⟨he, p', hS, hk⟩ => ⟨he, ?_⟩
  exact ⟨h.at_.sim e h.lo1 hk, h.good, h.small, ⟨p', _, hS⟩, ⟨p2, la2, e2.aside e (fun x => h.ne x.symm) hk⟩, h.fr.sim e hk, fun S3 e3 => (by
    obtain ⟨p3, la3, f1, f2, f3, f4⟩ := h.tw S3 e3
    exact ⟨p3, la3, f1.aside e f2 hk, f2, f3, f4⟩), h.ne, h.lo1, h.lo2⟩
/-- The copy takes the first one's place, the first one the second's. -/
theorem Bun.twin {S3 : Nat} (h : Bun w0 w B Cg q N S1 S2 q1 q2 C i1 i2 v m k0 (some S3)) : Bun w0 w B Cg q N S3 S1 q1 q1 C k0 i1 v m k0 none := by
  obtain ⟨p3, la3, f1, f2, f3, f4⟩ := h.tw S3 rfl
  exact ⟨h.at_, h.good, h.small, ⟨p3, la3, f1⟩, h.s1, h.fr, fun _ e => (by cases e), f2, f4, h.lo1⟩
theorem Bun.flip (h : Bun w0 w B Cg q N S1 S2 q1 q2 C i1 i2 v m k0 none) : Bun w0 w B Cg q N S2 S1 q2 q1 C i2 i1 v m k0 none :=
  ⟨h.at_, h.good, h.small, h.s2, h.s1, h.fr, fun _ e => (by cases e), fun x => h.ne x.symm, h.lo2, h.lo1⟩
theorem Bun.push (h : Bun w0 w B Cg q N S1 S2 q1 q2 C i1 i2 v m k0 tw) {w1 : World} {v' : Value} {m' : Nat} (hb : Below w.heap.size w w') (hF : FR w1 w0.heap.size v' N.outs.length (outAt N C) m') (hk : Kept (fun k => v.ownBlock = some k) w' w1) (hlo : ∀ k, v.ownBlock = some k → w0.heap.size ≤ k) (hty : ∀ k, v.ownBlock = some k → ∃ d, w'.heap[k]? = some (.cells d 50 (0, 0))) : Bun w0 w1 B Cg q N S1 S2 q1 q2 C i1 i2 v' m' k0 tw := by
  have h' := h.step hb
  have n1 : NoLits w' (fun k => v.ownBlock = some k) := by
    intro k cur fz e hh
    obtain ⟨d, hd⟩ := hty k e
    rw [hd] at hh; simp at hh
  have n2 : NoWd w' (fun k => v.ownBlock = some k) := by
    intro k cur fz e hh
    obtain ⟨d, hd⟩ := hty k e
    rw [hd] at hh; simp at hh
  have n3 : ∀ {q2 : NPl} {N2 : Nt}, NetIs w' q2 N2 → ∀ k, v.ownBlock = some k → ¬ q2.has k := fun hI k e => by
    obtain ⟨d, hd⟩ := hty k e
    exact hI.other hd (by decide) (by decide) (by decide) (by decide) (by decide) (by decide)
  have n4 : ∀ {S : Nat} {qq : NPl} {p : SPl} {M : Nt} {s : St}, SimIs w' S qq p M s → SimIs w1 S qq p M s := fun hS => hS.keptF hk (fun e => by
    obtain ⟨d, hd⟩ := hty _ e
    have := hS.box
    rw [hd] at this; simp [simBox] at this) (n3 hS.net) n1 n2
  obtain ⟨p, la, e⟩ := h'.s1
  obtain ⟨p2, la2, e2⟩ := h'.s2
  exact ⟨⟨h'.at_.is.beside hk (n3 h'.at_.is) n1, h'.at_.b, h'.at_.gb, h'.at_.out, h'.at_.below.trans (hk.below hlo h'.at_.below.size)⟩, h.good, h.small, ⟨p, la, n4 e⟩, ⟨p2, la2, n4 e2⟩, hF, fun S3 e3 => (by
    obtain ⟨p3, la3, f1, f2⟩ := h'.tw S3 e3
    exact ⟨p3, la3, n4 f1, f2⟩), h.ne, h.lo1, h.lo2⟩
def ptrOf (tw : Option Nat) : Value := .pointer (tw.map (fun S => ⟨S, 0, none⟩))
end

set_option maxHeartbeats 8000000 in
theorem SimAgain_any (F H : Bool) {w : World} {a : Option Addr} {n c : Nat} {S : Nat → StV} (hs : StRow w a n S) {a2 : Option Addr} {n2 c2 : Nat} {CC : List (List Int)} (hr : RRk .u64 w a2 n2 CC) (hw : ∀ i, Words (CC.getD i [])) (at_ : Int) (h0 : 0 ≤ at_) (h1 : at_ < 256) :
    Calls Tryz.prog 6 #[.agg #[.bool F, .bool H], .slice a n c, .slice a2 n2 c2, .int .u8 at_] w fun e w' => e = .returned (.bool true) ∧ Below w.heap.size w w' := by
  have hb0 : Below w.heap.size w (w.alloc (.cells #[.bool F, .bool H] 23)) := (Below.refl _ _).alloc (Nat.le_refl _) _
  have hbu := Lib.hid (Built_any F H (c := c) (w := w.alloc (.cells #[.bool F, .bool H] 23)) (by exact ⟨hs.le, by
    rcases hs.cells with h0 | ⟨b, off, e, hb, hc⟩
    · exact .inl h0
    · exact .inr ⟨b, off, e, Nat.lt_of_lt_of_le hb hb0.size, fun i hi => by obtain ⟨x0, x1, x2, x3, x4, x5, x6⟩ := hc i hi; exact ⟨stepc hb0 hb x0, stepc hb0 hb x1, stepc hb0 hb x2, stepc hb0 hb x3, stepc hb0 hb x4, stepc hb0 hb x5, stepc hb0 hb x6⟩⟩, fun i hi => (hs.ok i hi).step hb0⟩))
  obtain ⟨k0, hk0, hat⟩ : ∃ k0 : Nat, k0 < 20 ∧ at_.tmod 20 = (k0 : Int) := ⟨(at_.tmod 20).toNat, by rw [Int.tmod_eq_emod_of_nonneg h0]; omega, by rw [Int.tmod_eq_emod_of_nonneg h0]; omega⟩
  have HR := Lib.hid hr
  have HW := Lib.hid hw
  have hb0 := Lib.hid hb0
  have hle2 := hr.2.1
  clear hs hr hw
  go_enter Tryz.func6, Tryz.ntmps6
  go_upto_block 0 with (first
    | (go_at_call 7; (with_reducible refine hbu.out.mono ?_); rintro e w2 ⟨B, Cg, Bd, Bg, q, p, N, rfl, hA, -, hG, hU⟩; have hSm := Lib.hid (hU.small (by omega)); have hbel2 := Lib.hid (nextw hb0.out hA.below); have hnw1 := Lib.hid (SNew_any hA.is hG hSm.out); rw [hA.b] at hnw1; have hA := Lib.hid hA; have hG := Lib.hid hG; clear hU hbu)
    | (go_at_call 8; (with_reducible refine hnw1.out.mono ?_); rintro e w3 ⟨S1, q1, p1, rfl, hS1, hz1, -, hb3⟩; have hA3 := Lib.hid (hA.out.step hb3); have hcp := Lib.hid (hA3.out.copy hG.out hSm.out); have hS1 := Lib.hid hS1; have hb3 := Lib.hid hb3; clear hnw1)
    | (go_at_call 10; (with_reducible refine hcp.out.mono ?_); rintro e w4 ⟨q4, rfl, hI4, hb4, -⟩; have hnw2 := Lib.hid (SNew_any hI4 hG.out hSm.out); have hb4 := Lib.hid hb4; clear hcp hI4)
    | (go_at_call 8; (with_reducible refine hnw2.out.mono ?_); rintro e w5 ⟨S2, q2, p2, rfl, hS2, hz2, -, hb5⟩; have hb35 := Lib.hid (nextw hb4.out hb5); have hS2 := Lib.hid hS2; have hb5 := Lib.hid hb5; clear hnw2))
  have hbb : w.heap.size ≤ (w.alloc (.cells #[.bool F, .bool H] 23)).heap.size := by simp
  generalize hw1 : w.alloc (.cells #[.bool F, .bool H] 23) = w1 at *
  have hS1l := hS1.out.lt
  have hz4 := hb4.out.size
  have h13 : w1.heap.size ≤ w3.heap.size := hA3.out.below.size
  have h12 : w1.heap.size ≤ w2.heap.size := hA.out.below.size
  have hCC : Hid (∀ i, Words ((fun i => CC.getD i []) i)) := Lib.hid HW.out
  have hB0 : Hid (Bun w1 w5 B Cg q N S1 S2 q1 q2 (fun i => CC.getD i []) 0 0 (.slice none 0 0) 0 k0 none) := Lib.hid ⟨hA3.out.step hb35.out, hG.out, hSm.out, ⟨p1, [], hS1.out.below hb35.out⟩, ⟨p2, [], hS2.out⟩, FR.nil _ _ _ _, fun _ e => (by cases e), by omega, by omega, by omega⟩
  have hno9 : N.outs.length ≤ 100000 := by have := hSm.out.outs; omega
  have hRR := Lib.hid (HR.out.step hb0.out)
  obtain ⟨i1, hi1, hx0, hx1, hx2⟩ := info_parts info_rows64
  clear hS1 hS2 hA3 hA hb3 hb4 hb5 hb35 hz1 hz2 hbel2 HR h12 h13 hz4 hS1l hw1
  go_cut [15, 16] (fun s15 s16 wx => ∃ (tw : Option Nat) (av : Option Addr) (cv : Nat), s15 = .slice av (min n2 20) cv ∧ s16 = ptrOf tw ∧ (k0 < min n2 20 → tw.isSome = true) ∧ Hid (Bun w1 wx B Cg q N S1 S2 q1 q2 (fun i => CC.getD i []) (min n2 20) (min n2 20) s15 (min n2 20) k0 tw))
  case first =>
    go_wp2_with fail
    go_loopw [15, 16, 18, 19, 20, 21, 22, 23, 24] (fun s15 s16 s18 _ _ _ _ _ _ wr => ∃ (i : Nat) (tw : Option Nat) (av : Option Addr) (cv : Nat), i ≤ min n2 20 ∧ s18 = .int .i64 i ∧ s15 = .slice av i cv ∧ s16 = ptrOf tw ∧ (tw.isSome = true ↔ k0 < i) ∧ Hid (Bun w1 wr B Cg q N S1 S2 q1 q2 (fun i => CC.getD i []) i i s15 i k0 tw)) (fun _ _ s18 _ _ _ _ _ _ _ => min n2 20 - (intOf s18).toNat)
    case atStart => exact ⟨0, none, none, 0, Nat.zero_le _, rfl, rfl, rfl, by simp, hB0⟩
    case round =>
      clear hB0
      obtain ⟨i, tw, av, cv, hi, rfl, rfl, rfl, htw, hBn⟩ := hrel
      by_cases hlt : i < min n2 20
      · have hin : i < n2 := by omega
        have hi20 : i < 20 := by omega
        obtain ⟨b, off, ha2, hb, hcl⟩ := hRR.out.at (by omega)
        obtain ⟨ai, ci, hc0, -, -, hrow⟩ := hcl i hin
        obtain ⟨mi, hmi⟩ : ∃ m, (CC.getD i []).length = m := ⟨_, rfl⟩
        rw [hmi] at hc0 hrow
        clear hmi
        have hcw := Lib.hid (fun w2 (hb2 : Below w1.heap.size w1 w2) => stepc hb2 hb hc0)
        have hc0 := stepc hBn.out.at_.below hb hc0
        have hrow := Lib.hid hrow
        have hwl := Lib.hid (HW.out i)
        subst ha2
        clear hcl
        by_cases hik : i = k0
        · subst hik
          have htn : tw = none := by
            cases tw with
            | none => rfl
            | some x => exact absurd (htw.1 rfl) (by omega)
          subst htn
          have heq : ((i : Int) == (i : Int)) = true := by simp
          have hcp := Lib.hid (hBn.out.copy rfl)
          clear htw hBn
          go_wp2_with fail
          refine hcp.out.mono ?_
          rintro e w5b ⟨S3, rfl, hB5⟩
          have x5 := hcw.out _ hB5.at_.below
          have hgv1 := Lib.hid (hB5.given (lc := ci) hrow.out hwl.out 1 (by omega) 1 rfl)
          clear hB5 hcp
          go_wp2_with (first
            | (go_at_call 17; (with_reducible refine hgv1.out.mono ?_); rintro e w6 ⟨u6, rfl, hG6, hB6, -⟩; have hmo := Lib.hid (hB6.more hG6); have hB6 := Lib.hid hB6; clear hG6 hgv1)
            | (go_at_call 16; (with_reducible refine hmo.out.mono ?_); rintro e w7 ⟨rfl, hB7⟩; have x7 := hcw.out _ hB7.at_.below; have hcy := Lib.hid hB7.cycles; have hgv2 := Lib.hid (hB7.given (lc := ci) hrow.out hwl.out 0 (by omega) 0 rfl); have hB7 := Lib.hid hB7; clear hmo)
            | (go_at_call 21; (with_reducible refine hcy.out.mono ?_); rintro e w8 ⟨rfl, rfl⟩; clear hcy)
            | (go_at_call 17; (with_reducible refine hgv2.out.mono ?_); rintro e w9 ⟨u9, rfl, hG9, hB9, -⟩; have hon := Lib.hid (hB9.one hCC.out (by omega) hG9); clear hG9 hgv2)
            | (go_at_call 16; (with_reducible refine hon.out.mono ?_); rintro e w10 ⟨g10, rfl, hO10, hB10⟩; have x10 := hcw.out _ hB10.at_.below; have hgv3 := Lib.hid (hB10.given (lc := ci) hrow.out hwl.out 0 (by omega) 0 rfl); have hO10 := Lib.hid hO10; clear hon)
            | (go_at_call 17; (with_reducible refine hgv3.out.mono ?_); rintro e w11 ⟨u11, rfl, hG11, hB11, hb11⟩; have hon2 := Lib.hid (hB11.two hCC.out (by omega) hG11 (hO10.out.step hb11)); clear hG11 hgv3 hO10)
            | (go_at_call 16; (with_reducible refine hon2.out.mono ?_); rintro e w12 ⟨g12, rfl, hO12, hO12x, hB12⟩; have hlk := Lib.hid (like_any hO12x hO12 hno9); have hO12x := Lib.hid hO12x; have hB12 := Lib.hid hB12; clear hon2 hO12)
            | (go_at_call 31; (with_reducible refine hlk.out.mono ?_); rintro e w13 ⟨rfl, hb13⟩; have hB13 := Lib.hid (hB12.out.step hb13); have hO13 := Lib.hid (hO12x.out.step hb13); obtain ⟨kv, hko, hkw⟩ := hB13.out.fr; have hko := Lib.hid hko; have hkw := Lib.hid hkw; have hwz := hB13.out.at_.below.size; have hn13 := Lib.hid (fun o => (Below.refl w13.heap.size w13).alloc (Nat.le_refl _) o); clear hlk hb13 hB12 hO12x)
            | (at_builtin; refine wpList_append_lies _ rfl _ _ 85 rfl w1.heap.size 50 i1 (.slice none 0 0) 1 24 Tryz.underlying85 hi1 hx0 hx1 hx2 rfl (by decide) (.slice av i cv) i kv rfl (hko.out.alloc _) ⟨w13.heap.size, 0, none⟩ 1 1 [.slice (some ⟨g10, 0, none⟩) N.outs.length N.outs.length] rfl rfl (news1 _ _ _) (by simp [Value.oneCell']) (by decide) (by unfold maxLen; omega) (by omega) (by simp; omega) _ rfl ?_; intro g14 cap14 w14 hown14 hgrow14 hat14 hlt14))
          have hF14 := FR.push hko.out (hn13.out (.cells #[.slice (some ⟨g10, 0, none⟩) N.outs.length N.outs.length] 50)) hkw.out (hO13.out.step (hn13.out _)) hown14 hgrow14
          have hB14 := hB13.out.push (hn13.out (.cells #[.slice (some ⟨g10, 0, none⟩) N.outs.length N.outs.length] 50)) hF14 (kept_grown hgrow14) (fun k e => own_ge hko.out k e) (fun k e => own_type (hko.out.alloc _) e)
          exact ⟨⟨i + 1, some S3, _, _, by omega, by go_num, rfl, rfl, by simp, Lib.hid hB14⟩, by simp [intOf]; omega⟩
        · have heq : ((i : Int) == (k0 : Int)) = false := by simp; omega
          have hgv1 := Lib.hid (hBn.out.given (lc := ci) hrow.out hwl.out 1 (by omega) 1 rfl)
          have htw2 : Hid (tw.isSome = true ↔ k0 < i + 1) := Lib.hid ⟨fun h => by have := htw.1 h; omega, fun h => htw.2 (by omega)⟩
          generalize htv : ptrOf tw = tv at *
          have htv := Lib.hid htv
          clear htw hBn
          go_wp2_with (first
            | (go_at_call 17; (with_reducible refine hgv1.out.mono ?_); rintro e w6 ⟨u6, rfl, hG6, hB6, -⟩; have hmo := Lib.hid (hB6.more hG6); have hB6 := Lib.hid hB6; clear hG6 hgv1)
            | (go_at_call 16; (with_reducible refine hmo.out.mono ?_); rintro e w7 ⟨rfl, hB7⟩; have x7 := hcw.out _ hB7.at_.below; have hcy := Lib.hid hB7.cycles; have hgv2 := Lib.hid (hB7.given (lc := ci) hrow.out hwl.out 0 (by omega) 0 rfl); have hB7 := Lib.hid hB7; clear hmo)
            | (go_at_call 21; (with_reducible refine hcy.out.mono ?_); rintro e w8 ⟨rfl, rfl⟩; clear hcy)
            | (go_at_call 17; (with_reducible refine hgv2.out.mono ?_); rintro e w9 ⟨u9, rfl, hG9, hB9, -⟩; have hon := Lib.hid (hB9.one hCC.out (by omega) hG9); clear hG9 hgv2)
            | (go_at_call 16; (with_reducible refine hon.out.mono ?_); rintro e w10 ⟨g10, rfl, hO10, hB10⟩; have x10 := hcw.out _ hB10.at_.below; have hgv3 := Lib.hid (hB10.given (lc := ci) hrow.out hwl.out 0 (by omega) 0 rfl); have hO10 := Lib.hid hO10; clear hon)
            | (go_at_call 17; (with_reducible refine hgv3.out.mono ?_); rintro e w11 ⟨u11, rfl, hG11, hB11, hb11⟩; have hon2 := Lib.hid (hB11.two hCC.out (by omega) hG11 (hO10.out.step hb11)); clear hG11 hgv3 hO10)
            | (go_at_call 16; (with_reducible refine hon2.out.mono ?_); rintro e w12 ⟨g12, rfl, hO12, hO12x, hB12⟩; have hlk := Lib.hid (like_any hO12x hO12 hno9); have hO12x := Lib.hid hO12x; have hB12 := Lib.hid hB12; clear hon2 hO12)
            | (go_at_call 31; (with_reducible refine hlk.out.mono ?_); rintro e w13 ⟨rfl, hb13⟩; have hB13 := Lib.hid (hB12.out.step hb13); have hO13 := Lib.hid (hO12x.out.step hb13); obtain ⟨kv, hko, hkw⟩ := hB13.out.fr; have hko := Lib.hid hko; have hkw := Lib.hid hkw; have hwz := hB13.out.at_.below.size; have hn13 := Lib.hid (fun o => (Below.refl w13.heap.size w13).alloc (Nat.le_refl _) o); clear hlk hb13 hB12 hO12x)
            | (at_builtin; refine wpList_append_lies _ rfl _ _ 85 rfl w1.heap.size 50 i1 (.slice none 0 0) 1 24 Tryz.underlying85 hi1 hx0 hx1 hx2 rfl (by decide) (.slice av i cv) i kv rfl (hko.out.alloc _) ⟨w13.heap.size, 0, none⟩ 1 1 [.slice (some ⟨g10, 0, none⟩) N.outs.length N.outs.length] rfl rfl (news1 _ _ _) (by simp [Value.oneCell']) (by decide) (by unfold maxLen; omega) (by omega) (by simp; omega) _ rfl ?_; intro g14 cap14 w14 hown14 hgrow14 hat14 hlt14))
          have hF14 := FR.push hko.out (hn13.out (.cells #[.slice (some ⟨g10, 0, none⟩) N.outs.length N.outs.length] 50)) hkw.out (hO13.out.step (hn13.out _)) hown14 hgrow14
          have hB14 := hB13.out.push (hn13.out (.cells #[.slice (some ⟨g10, 0, none⟩) N.outs.length N.outs.length] 50)) hF14 (kept_grown hgrow14) (fun k e => own_ge hko.out k e) (fun k e => own_type (hko.out.alloc _) e)
          exact ⟨⟨i + 1, tw, _, _, by omega, by go_num, rfl, htv.out.symm, htw2.out, Lib.hid hB14⟩, by simp [intOf]; omega⟩
      · obtain rfl : i = min n2 20 := by omega
        have htw2 : Hid (k0 < min n2 20 → tw.isSome = true) := Lib.hid (fun h => htw.2 h)
        generalize htv : ptrOf tw = tv at *
        have htv := Lib.hid htv
        clear htw
        by_cases h6 : n2 ≤ 20
        · have hmn : min n2 20 = n2 := by omega
          rw [hmn] at hBn htw2 ⊢
          go_wp2_with fail
          go_meet
          exact ⟨tw, av, cv, by rw [hmn], htv.out.symm, by rw [hmn]; exact htw2.out, by rw [hmn]; exact hBn⟩
        · have hmn : min n2 20 = 20 := by omega
          have hn4 : 20 < n2 := by omega
          rw [hmn] at hBn htw2 ⊢
          go_wp2_with fail
          go_meet
          exact ⟨tw, av, cv, by rw [hmn], htv.out.symm, by rw [hmn]; exact htw2.out, by rw [hmn]; exact hBn⟩
  case rest =>
    clear hB0
    obtain ⟨tw, av, cv, rfl, rfl, htw, hBn⟩ := hcut
    have hM : min n2 20 ≤ n2 ∧ min n2 20 ≤ 20 := by omega
    generalize min n2 20 = M at *
    obtain ⟨hM1, hM2⟩ := hM
    have htl := Lib.hid tells_any8
    have hwr2 : IntKind.i64.wrap ((k0 : Int)) = (k0 : Int) := IntWalk.i64_in _ (by omega)
    go_upto_block 2 with fail
    go_cut [] (fun wx => ∃ (Sx : Nat) (qx : NPl) (ix : Nat), Hid (Bun w1 wx B Cg q N S1 Sx q1 qx (fun i => CC.getD i []) M ix (.slice av M cv) M k0 none))
    case first =>
      by_cases hk : k0 < M
      · obtain ⟨S3, htw3⟩ := Option.isSome_iff_exists.1 (htw hk)
        subst htw3
        have hBt := Lib.hid hBn.out.twin
        have htv : ptrOf (some S3) = .pointer (some ⟨S3, 0, none⟩) := rfl
        rw [htv]
        clear hBn htw
        go_wp2_with fail
        go_loopw [25, 26, 27] (fun s25 _ _ wr => ∃ i : Nat, k0 ≤ i ∧ i ≤ M ∧ s25 = .int .i64 i ∧ Hid (Bun w1 wr B Cg q N S3 S1 q1 q1 (fun i => CC.getD i []) i M (.slice av M cv) M k0 none)) (fun s25 _ _ _ => M - (intOf s25).toNat)
        case atStart => exact ⟨k0, Nat.le_refl _, by omega, rfl, hBt⟩
        case round =>
          clear hBt
          obtain ⟨i, hki, hi, rfl, hBn⟩ := hrel
          by_cases hlt : i < M
          · have hin : i < n2 := by omega
            have hi20 : i < 20 := by omega
            obtain ⟨b, off, ha2, hb, hcl⟩ := hRR.out.at (by omega)
            obtain ⟨ai, ci, hc0, -, -, hrow⟩ := hcl i hin
            obtain ⟨mi, hmi⟩ : ∃ m, (CC.getD i []).length = m := ⟨_, rfl⟩
            rw [hmi] at hc0 hrow
            clear hmi
            have hc0 := stepc hBn.out.at_.below hb hc0
            have hrow := Lib.hid hrow
            have hwl := Lib.hid (HW.out i)
            subst ha2
            clear hcl
            have hgv2 := Lib.hid (hBn.out.given (lc := ci) hrow.out hwl.out 0 (by omega) 0 rfl)
            obtain ⟨fb, fg, hav, hfl, hfc, hfo⟩ := hBn.out.fr.at (show i < M by omega)
            subst hav
            have hfo := Lib.hid hfo
            have hFF := Lib.hid (fun w2 S2 (hB : Bun w1 w2 B Cg q N S3 S2 q1 q1 (fun i => CC.getD i []) (i + 1) M (.slice (some ⟨fb, 0, none⟩) M cv) M k0 none) => hB.fr.at (show i < M by omega))
            clear hBn
            go_wp2_with (first
              | (go_at_call 17; (with_reducible refine hgv2.out.mono ?_); rintro e w9 ⟨u9, rfl, hG9, hB9, hb9⟩; have hon := Lib.hid (hB9.one hCC.out (by omega) hG9); clear hG9 hgv2)
              | (go_at_call 16; (with_reducible refine hon.out.mono ?_); rintro e w10 ⟨g10, rfl, hO10, hB10⟩; obtain ⟨fb2, fg2, hav2, hfl2, hfc2, hfo2⟩ := hFF.out _ _ hB10; cases hav2; have hlk := Lib.hid (like_any hO10 hfo2 hno9); have hcy := Lib.hid hB10.cycles; have hB10 := Lib.hid hB10; clear hon hO10 hfo2 hFF)
              | (go_at_call 31; (with_reducible refine hlk.out.mono ?_); rintro e w13 ⟨rfl, hb13⟩; have hB13 := Lib.hid (hB10.out.step hb13); have hcy := Lib.hid hB13.out.cycles; clear hlk hb13 hB10)
              | (go_at_call 21; (with_reducible refine hcy.out.mono ?_); rintro e w8 ⟨rfl, rfl⟩; clear hcy))
            exact ⟨⟨i + 1, by omega, by omega, by go_num, hB13⟩, by simp [intOf]; omega⟩
          · obtain rfl : i = M := by omega
            go_wp2_with fail
            go_meet
            exact ⟨S3, q1, i, Lib.hid hBn.out.flip⟩
      · have hkM2 : decide ((k0 : Int) < (M : Int)) = false := by simp; omega
        have hBz : Hid (Bun w1 wc B Cg q N S1 S2 q1 q2 (fun i => CC.getD i []) M M (.slice av M cv) M k0 none) := Lib.hid (by
          obtain ⟨x1, x2, x3, x4, x5, x6, x7, x8, x9, x10⟩ := hBn.out
          exact ⟨x1, x2, x3, x4, x5, x6, fun _ e => (by cases e), x8, x9, x10⟩)
        generalize htv : ptrOf tw = tv at *
        clear hBn htw htv
        go_wp2_with fail
        go_loopw [25, 26, 27] (fun s25 _ _ wr => s25 = .int .i64 k0 ∧ wr = wc) (fun _ _ _ _ => 0)
        case atStart => exact ⟨rfl, rfl⟩
        case round =>
          obtain ⟨rfl, rfl⟩ := hrel
          go_wp2_with fail
          go_meet
          exact ⟨S2, q2, M, hBz⟩
    case rest =>
      obtain ⟨Sx, qx, ix, hBn⟩ := hcut
      obtain ⟨wy, rfl⟩ : ∃ wy : World, wy = wc := ⟨_, rfl⟩
      have hrs := Lib.hid hBn.out.reset
      generalize htv : ptrOf tw = tv at *
      clear hBn htw htv
      go_wp2_with (first
        | (go_at_call 14; (with_reducible refine hrs.out.mono ?_); rintro e w20 ⟨rfl, hB20⟩; have hcy := Lib.hid hB20.cycles; have hB20 := Lib.hid hB20; clear hrs)
        | (go_at_call 21; (with_reducible refine hcy.out.mono ?_); rintro e w8 ⟨rfl, rfl⟩; clear hcy))
      go_loopw [28, 29, 30] (fun s28 _ _ wr => ∃ i : Nat, i ≤ M ∧ s28 = .int .i64 i ∧ Hid (Bun w1 wr B Cg q N S1 Sx q1 qx (fun i => CC.getD i []) i ix (.slice av M cv) M k0 none)) (fun s28 _ _ _ => M - (intOf s28).toNat)
      case atStart => exact ⟨0, Nat.zero_le _, rfl, hB20⟩
      case round =>
        clear hB20
        obtain ⟨i, hi, rfl, hBn⟩ := hrel
        by_cases hlt : i < M
        · have hin : i < n2 := by omega
          have hi20 : i < 20 := by omega
          obtain ⟨b, off, ha2, hb, hcl⟩ := hRR.out.at (by omega)
          obtain ⟨ai, ci, hc0, -, -, hrow⟩ := hcl i hin
          obtain ⟨mi, hmi⟩ : ∃ m, (CC.getD i []).length = m := ⟨_, rfl⟩
          rw [hmi] at hc0 hrow
          clear hmi
          have hc0 := stepc hBn.out.at_.below hb hc0
          have hrow := Lib.hid hrow
          have hwl := Lib.hid (HW.out i)
          subst ha2
          clear hcl
          have hgv2 := Lib.hid (hBn.out.given (lc := ci) hrow.out hwl.out 0 (by omega) 0 rfl)
          obtain ⟨fb, fg, hav, hfl, hfc, hfo⟩ := hBn.out.fr.at (show i < M by omega)
          subst hav
          have hfo := Lib.hid hfo
          have hFF := Lib.hid (fun w2 S2 (hB : Bun w1 w2 B Cg q N S1 S2 q1 qx (fun i => CC.getD i []) (i + 1) ix (.slice (some ⟨fb, 0, none⟩) M cv) M k0 none) => hB.fr.at (show i < M by omega))
          clear hBn
          go_wp2_with (first
            | (go_at_call 17; (with_reducible refine hgv2.out.mono ?_); rintro e w9 ⟨u9, rfl, hG9, hB9, hb9⟩; have hon := Lib.hid (hB9.one hCC.out (by omega) hG9); clear hG9 hgv2)
            | (go_at_call 16; (with_reducible refine hon.out.mono ?_); rintro e w10 ⟨g10, rfl, hO10, hB10⟩; obtain ⟨fb2, fg2, hav2, hfl2, hfc2, hfo2⟩ := hFF.out _ _ hB10; cases hav2; have hlk := Lib.hid (like_any hO10 hfo2 hno9); have hcy := Lib.hid hB10.cycles; have hB10 := Lib.hid hB10; clear hon hO10 hfo2 hFF)
            | (go_at_call 31; (with_reducible refine hlk.out.mono ?_); rintro e w13 ⟨rfl, hb13⟩; have hB13 := Lib.hid (hB10.out.step hb13); have hcy := Lib.hid hB13.out.cycles; clear hlk hb13 hB10)
            | (go_at_call 21; (with_reducible refine hcy.out.mono ?_); rintro e w8 ⟨rfl, rfl⟩; clear hcy))
          exact ⟨⟨i + 1, by omega, by go_num, hB13⟩, by simp [intOf]; omega⟩
        · obtain rfl : i = M := by omega
          have hbl := Lib.hid (nextw hb0.out hBn.out.at_.below)
          go_wp2_with (go_at_call 23; (with_reducible refine (htl.out _).mono ?_); rintro e w30 ⟨rfl, hb30⟩)
          go_ret
          exact ⟨rfl, nextw hbl.out hb30⟩
end Go.Proofs.YtlkainmkhofpaaaGreat
end

section
namespace Go.Proofs.YtlkainmkhofpaaaGreat
open Go.RowKit Go.ChangeShapes Go.WideShapes Go.ChangeAt Go.Joins
set_option maxRecDepth 100000

section
variable {H : Type} {enc : TypeId × Value → H} {w : World} {base : Nat} {held : Bool}

theorem slice_in {fuel : Nat} {v : Value} {y : DataW H × List MemPlace} {t e : Nat} {k : IntKind} (hs : Tryz.prog.underlying t = some (.slice e)) (he : Tryz.prog.underlying e = some (.int k)) (hc : Tryz.prog.cellsOf e = 1) (h : DataW.trod enc Tryz.prog w base (fun _ => true) held fuel t [v] = some y) :
    ∃ a n c zs, v = .slice a n c ∧ IsRow k w a n c zs := by
  rcases open_ints hs he hc h with ⟨e1, _⟩ | ⟨x, l, c, zs, e1, _, hl, hm, hz, _, hcell, hwz⟩
  · exact ⟨none, 0, 0, [], by simpa using e1, .inl ⟨rfl, rfl, rfl, rfl⟩⟩
  · exact ⟨some x, l, c, zs, by simpa using e1, .inr ⟨x, rfl, hl, hm, by simpa using hz, hcell, hwz⟩⟩
theorem lits_mem {w : World} {a : Option Addr} {len cap : Nat} {zs : List Int} (h : IsRow .u32 w a len cap zs) (m : Nat) : ∀ x ∈ zs.take m, IsLit x := fun x hx => by
  obtain ⟨i, hi, rfl⟩ := List.getElem_of_mem hx
  have := lits_in h m i
  rw [List.getD_eq_getElem?_getD, List.getElem?_eq_getElem hi] at this
  exact this
def st0 : StV := ⟨9, ByteArray.empty, 0, 0, 0, 0, none, 0, 0, []⟩
instance : Inhabited StV := ⟨st0⟩
theorem steps_at {fuel : Nat} {v : Value} {y : DataW H × List MemPlace} (hf : DataW.trod enc Tryz.prog w base (fun _ => true) held fuel 24 [v] = some y) : ∃ a n c S, v = .slice a n c ∧ StRow w a n S := by
  have ce : Tryz.prog.cellsOf 93 = 7 := by kernel_rfl
  have ci : Tryz.prog.cellsOf 3 = 1 := by kernel_rfl
  have cu : Tryz.prog.cellsOf 39 = 1 := by kernel_rfl
  have cs' : Tryz.prog.cellsOf 9 = 1 := by kernel_rfl
  have cl : Tryz.prog.cellsOf 45 = 1 := by kernel_rfl
  rcases Go.Deep.open_slice Tryz.underlying24 hf with ⟨e1, _⟩ | ⟨x, len, cap, m, k, D, P, e1, -, hl, hm, hmm, -, hx⟩
  · simp at e1
    exact ⟨none, 0, 0, fun _ => st0, e1, by omega, .inl rfl, fun i hi => by omega⟩
  · simp at e1
    simp at hmm
    subst hmm
    have each : ∀ i, i < m → ∃ s : StV, w.cell? (x.add (i * 7)) = some (.int .i64 s.what) ∧ w.cell? (x.add (i * 7 + 1)) = some (.string s.name) ∧ w.cell? (x.add (i * 7 + 2)) = some (.int .i64 s.n) ∧ w.cell? (x.add (i * 7 + 3)) = some (.int .u32 s.a) ∧ w.cell? (x.add (i * 7 + 4)) = some (.int .u32 s.b) ∧ w.cell? (x.add (i * 7 + 5)) = some (.int .u32 s.c) ∧ w.cell? (x.add (i * 7 + 6)) = some (.slice s.la s.ln s.lc) ∧ StOk w s := by
      intro i hi
      obtain ⟨cs, h1, h2⟩ := hx i hi
      rw [ce] at h1
      obtain ⟨-, hlen, hcell⟩ := World.cells?_some h1
      obtain ⟨xs, q, -, -, -, hxl, hfl⟩ := DataW.trod_struct Tryz.underlying93 h2
      match xs, hxl, cs, hlen with
      | [y0, y1, y2, y3, y4, y5, y6], _, [v0, v1, v2, v3, v4, v5, v6], _ =>
        have g0 := hfl 0 _ rfl
        have g1 := hfl 1 _ rfl
        have g2 := hfl 2 _ rfl
        have g3 := hfl 3 _ rfl
        have g4 := hfl 4 _ rfl
        have g5 := hfl 5 _ rfl
        have g6 := hfl 6 _ rfl
        simp [ci, cu, cs', cl] at g0 g1 g2 g3 g4 g5 g6
        obtain ⟨z0, e0, -, -⟩ := DataW.trod_int Tryz.underlying3 g0
        obtain ⟨z1, e1', -⟩ := DataW.trod_string Tryz.underlying9 g1
        obtain ⟨z2, e2, -, -⟩ := DataW.trod_int Tryz.underlying3 g2
        obtain ⟨z3, e3, -, w3⟩ := DataW.trod_int Tryz.underlying39 g3
        obtain ⟨z4, e4, -, w4⟩ := DataW.trod_int Tryz.underlying39 g4
        obtain ⟨z5, e5, -, w5⟩ := DataW.trod_int Tryz.underlying39 g5
        obtain ⟨a6, n6, c6, zs, e6, hr⟩ := slice_in Tryz.underlying45 Tryz.underlying39 (by kernel_rfl) g6
        simp at e0 e1' e2 e3 e4 e5
        subst e0 e1' e2 e3 e4 e5 e6
        have q0 := hcell 0 (by omega)
        have q1 := hcell 1 (by omega)
        have q2 := hcell 2 (by omega)
        have q3 := hcell 3 (by omega)
        have q4 := hcell 4 (by omega)
        have q5 := hcell 5 (by omega)
        have q6 := hcell 6 (by omega)
        rw [Go.Deep.add_add] at q0 q1 q2 q3 q4 q5 q6
        obtain ⟨hcp, -, hrow⟩ := row_of_in hr
        exact ⟨⟨z0, z1, z2, z3, z4, z5, a6, n6, c6, zs.take n6⟩, by simpa using q0, by simpa using q1, by simpa using q2, by simpa using q3, by simpa using q4, by simpa using q5, by simpa using q6, ⟨hrow, isLit_of w3, isLit_of w4, isLit_of w5, lits_mem hr n6, hcp⟩⟩
    obtain ⟨q, hq⟩ := Go.Deep.choose_lt each
    unfold maxLen at hm
    refine ⟨some x, len, m, fun i => if i < m then q i else st0, by simpa using e1, by omega, ?_, fun i hi => ?_⟩
    · by_cases h0 : len = 0
      · exact .inl h0
      · right
        obtain ⟨b, off, spot⟩ := x
        have hspot : spot = none := by simpa [Addr.add] using World.cell?_spot (hq 0 (by omega)).1
        subst hspot
        refine ⟨b, off, rfl, ?_, fun i hi => ?_⟩
        · have := (hq 0 (by omega)).1
          rw [Go.WideShapes.add_plain] at this
          exact World.block_lt_of_cell? w _ this
        · obtain ⟨c0, c1, c2, c3, c4, c5, c6, -⟩ := hq i (by omega)
          rw [Go.WideShapes.add_plain] at c0 c1 c2 c3 c4 c5 c6
          simp only [if_pos (show i < m by omega)]
          exact ⟨c0, by rw [show off + i * 7 + 1 = off + (i * 7 + 1) by omega]; exact c1, by rw [show off + i * 7 + 2 = off + (i * 7 + 2) by omega]; exact c2, by rw [show off + i * 7 + 3 = off + (i * 7 + 3) by omega]; exact c3, by rw [show off + i * 7 + 4 = off + (i * 7 + 4) by omega]; exact c4, by rw [show off + i * 7 + 5 = off + (i * 7 + 5) by omega]; exact c5, by rw [show off + i * 7 + 6 = off + (i * 7 + 6) by omega]; exact c6⟩
    · simp only [if_pos (show i < m by omega)]
      exact (hq i (by omega)).2.2.2.2.2.2.2
theorem steps_in {a : Option Addr} {n c : Nat} {d : DataW H} {p : List MemPlace} (h : DataW.Trod enc Tryz.prog w base (fun _ => true) held 24 (.slice a n c) d p) : ∃ S, StRow w a n S := by
  obtain ⟨fuel, hf⟩ := h
  obtain ⟨a2, n2, c2, S, e, hS⟩ := steps_at (v := .slice a n c) hf
  cases e
  exact ⟨S, hS⟩
theorem options_in {r : Reach} {b0 : Nat} {v : Value} {d : DataW H} {p : List MemPlace} (hv : Value.okWide Tryz.prog w r b0 23 v) (h : DataW.Trod enc Tryz.prog w base (fun _ => true) held 23 v d p) :
    ∃ F G : Bool, v = .agg #[.bool F, .bool G] := by
  obtain ⟨c0, c1, y0, y1, n, rfl, -, -, h0, h1⟩ := open_agg2 Tryz.underlying23 (by kernel_rfl) (by kernel_rfl) hv h
  obtain ⟨F, e0, -⟩ := DataW.trod_bool Tryz.underlying4 h0
  obtain ⟨G, e1, -⟩ := DataW.trod_bool Tryz.underlying4 h1
  simp at e0 e1
  exact ⟨F, G, by rw [e0, e1]⟩
end
end Go.Proofs.YtlkainmkhofpaaaGreat
end

section
namespace Go.Proofs.YtlkainmkhofpaaaGreat
open Go.RowKit Go.ChangeShapes Go.WideShapes Go.ChangeAt Go.Joins
theorem rows_words {w : World} {a : Option Addr} {n : Nat} {N : List (List Int)} (h : RRk .u64 w a n N) (hx : ∀ i, i < n → ∀ z ∈ N.getD i [], (Lit.int .u64 z).wf = true) : ∀ i, Words (N.getD i []) := by
  intro i
  by_cases hi : i < n
  · exact words_of (hx i hi)
  · have e : N.getD i [] = [] := by
      have := h.1
      simp [List.getD, List.getElem?_eq_none (show N.length ≤ i by omega)]
    rw [e]
    intro k; simp
theorem u8_of {x : Int} (h : (Lit.int .u8 x).wf = true) : 0 ≤ x ∧ x < 256 := by
  have := bounds_u8 h
  omega
end Go.Proofs.YtlkainmkhofpaaaGreat
end
