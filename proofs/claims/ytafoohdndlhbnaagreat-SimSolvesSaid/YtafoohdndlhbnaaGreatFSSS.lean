/-
  The law package's own: a netlist of steps, and the document's.
  The law package's own: rows of words compared; words for a netlist's buses.
  The law package's own: words for a netlist's buses: the walk.
  The chapter's rows.
  What came in, as the walks name it: slices of integers.
-/
import Derived.Test.YtafoohdndlhbnaaGreatFSSP
import Derived.Test.YtafoohdndlhbnaaGreatFSSR
import Derived.Test.YtafoohdndlhbnaaGreatFSSA
import Derived.Test.YtafoohdndlhbnaaGreatFSSB
section
namespace Go.Proofs.YtafoohdndlhbnaaGreat
open Go.RowKit Go.Maps Bits Num
set_option maxRecDepth 100000

theorem AtN.asideD {w0 w w' : World} {B C : Nat} {q : NPl} {N : Nt} (h : AtN w0 B C w q N) (hk : Kept (DK w) w w') (hb : Below w0.heap.size w0 w') : AtN w0 B C w' q N := ⟨h.is.asideD hk, h.b, h.gb, h.out, hb⟩
theorem AtN.wants {w0 w : World} {B C : Nat} {q : NPl} {N : Nt} (h : AtN w0 B C w q N) {Bd Bg : Nat} {p : RPl} {M : Nt} (hR : RN w0 w Bd Bg p M) {rest : List Int} (hg : Good M rest) (hS : Small M) {s : StV} (hs : StOk w s) (h8 : s.what ≠ 8) {N' : Nt} {ls : List Int} {r : Int} (hd : doesN M s = (N', ls, r)) :
    Calls Tryz.prog 31 #[.pointer (some ⟨Bd, 0, none⟩), .agg #[.int .i64 s.what, .string s.name, .int .i64 s.n, .int .u32 s.a, .int .u32 s.b, .int .u32 s.c, .slice s.la s.ln s.lc]] w fun e w' => (∃ v, e = .returned v) ∧ AtN w0 B C w' q N ∧ ∃ p', RN w0 w' Bd Bg p' N' := by
  have := Wants_any w0 w Bd Bg p M rest s hR hg hS hs h8
  rw [hd] at this
  exact this.mono fun _ w' ⟨hv, ⟨p', hp⟩, hk⟩ => ⟨hv, h.asideD hk hp.below, p', hp⟩
theorem AtN.does2 {w0 w : World} {B C : Nat} {q : NPl} {N : Nt} (h : AtN w0 B C w q N) {Bd Bg : Nat} {p : RPl} {M : Nt} (hR : RN w0 w Bd Bg p M) {rest : List Int} (hg : Good N rest) (hS : Small N) {s : StV} (hs : StOk w s) {N' : Nt} {ls : List Int} {r : Int} (hd : doesN N s = (N', ls, r)) :
    Calls Tryz.prog 30 #[.pointer (some ⟨B, 0, none⟩), .agg #[.int .i64 s.what, .string s.name, .int .i64 s.n, .int .u32 s.a, .int .u32 s.b, .int .u32 s.c, .slice s.la s.ln s.lc]] w fun e w' => (∃ v1 v2, e = .returned (.tuple #[v1, v2])) ∧ (∃ q', AtN w0 B C w' q' N') ∧ RN w0 w' Bd Bg p M ∧ Below w0.heap.size w0 w' :=
  (h.does hg hS hs hd).mono fun _ w' ⟨a, c, q', he, hl, hA, hk, hn⟩ => ⟨⟨_, _, he⟩, ⟨q', hA⟩, hR.kept hk h.out h.is.noDoc, hA.below⟩

set_option maxHeartbeats 4000000 in
theorem Built_any (F H : Bool) {w : World} {a : Option Addr} {n c : Nat} {S : Nat → StV} (hs : StRow w a n S) :
    Calls Tryz.prog 5 #[.agg #[.bool F, .bool H], .slice a n c] w fun e w' => ∃ (B C Bd Bg : Nat) (q : NPl) (p : RPl) (N : Nt), e = .returned (.tuple #[.pointer (some ⟨B, 0, none⟩), .pointer (some ⟨Bd, 0, none⟩)]) ∧ AtN w B C w' q N ∧ RN w w' Bd Bg p N ∧ Good N [] ∧ Upto N 60 := by
  have hb0 : Below w.heap.size w (w.alloc (.cells #[.bool F, .bool H] 23)) := (Below.refl _ _).alloc (Nat.le_refl _) _
  have hnew2 := Lib.hid (fun w2 (hb : Below w.heap.size w w2) => rNew_any w hb F H top_may)
  have k0 : (w.alloc (.cells #[.bool F, .bool H] 23)).cell? ⟨w.heap.size, 0, none⟩ = some (.bool F) := by simp [go_sem]
  have k1 : (w.alloc (.cells #[.bool F, .bool H] 23)).cell? ⟨w.heap.size, 1, none⟩ = some (.bool H) := by simp [go_sem]
  have HS := Lib.hid hs
  have hle := hs.le
  have hg0 : Hid (Good ⟨newG F H, sTop, [], [], []⟩ []) := Lib.hid (Good.new F H top_may)
  have hu0 := Lib.hid (upto0 F H)
  have hN2 := Lib.hid (New_ok F H top_may (w.alloc (.cells #[.bool F, .bool H] 23)))
  have hz0 : w.heap.size < (w.alloc (.cells #[.bool F, .bool H] 23)).heap.size := by simp
  have hb0 := Lib.hid hb0
  generalize hw1 : w.alloc (.cells #[.bool F, .bool H] 23) = w1 at *
  have hbz : w.heap.size ≤ w1.heap.size := hb0.out.size
  clear hs
  go_enter Tryz.func5, Tryz.ntmps5
  go_upto_block 0 with (first
    | (go_at_call 28; (with_reducible refine hN2.out.mono ?_); rintro e w2 ⟨q, rfl, hI, hb2, hqo⟩; have m0 := stepc hb2 hz0 k0; have m1 := stepc hb2 hz0 k1; have hnw := Lib.hid (hnew2.out _ (nextw hb0.out hb2)); have hA : AtN w q.b q.g.b w2 q ⟨newG F H, sTop, [], [], []⟩ := ⟨hI, rfl, rfl, fun k hk => Nat.le_trans hbz (hqo k hk), nextw hb0.out hb2⟩; have hA := Lib.hid hA; obtain ⟨b0, b1⟩ := hA.out.cells; clear hI hqo)
    | (go_at_call 29; (with_reducible refine hnw.out.mono ?_); rintro e w3 ⟨Bd, Bg, p, rfl, hRN, hb3⟩; have d0 := stepc hb3 b1 b0; have hA3 := Lib.hid (hA.out.step hb3); have hR3 := Lib.hid hRN; clear hRN hb3))
  generalize q.b = B at *
  generalize q.g.b = C at *
  clear hnew2 hN2 m0 m1 k0 k1 hnw hA d0 b0 b1 hb2
  go_wp2_with fail
  go_loopw [10] (fun i wr => ∃ (j : Nat) (q : NPl) (p : RPl) (N : Nt), j ≤ min n 60 ∧ i = .int .i64 j ∧ Hid (AtN w B C wr q N) ∧ Hid (RN w wr Bd Bg p N) ∧ Hid (Good N []) ∧ Hid (Upto N j)) (fun i _ => min n 60 - (intOf i).toNat)
  case atStart => exact ⟨0, _, _, _, Nat.zero_le _, rfl, hA3, hR3, hg0, hu0⟩
  case round =>
    clear hA3 hR3 hg0 hu0
    obtain ⟨j, q, p, N, hj, rfl, hA, hR, hG, hU⟩ := hrel
    have hSm := Lib.hid (hU.out.small (by omega))
    by_cases hlt : j < min n 60
    · have hjn : j < n := by omega
      have hj60 : j < 60 := by omega
      obtain ⟨b, off, rfl, hb, k0, k1, k2, k3, k4, k5, k6⟩ := HS.out.at hjn
      have hcl := Lib.hid (fun w2 (hb2 : Below w.heap.size w w2) => And.intro (stepc hb2 hb k0) (And.intro (stepc hb2 hb k1) (And.intro (stepc hb2 hb k2) (And.intro (stepc hb2 hb k3) (And.intro (stepc hb2 hb k4) (And.intro (stepc hb2 hb k5) (stepc hb2 hb k6)))))))
      have k0 := stepc hA.out.below hb k0
      have k1 := stepc hA.out.below hb k1
      have k2 := stepc hA.out.below hb k2
      have k3 := stepc hA.out.below hb k3
      have k4 := stepc hA.out.below hb k4
      have k5 := stepc hA.out.below hb k5
      have k6 := stepc hA.out.below hb k6
      have hst := Lib.hid (HS.out.ok j hjn)
      have hbw := hb
      generalize S j = s at *
      by_cases h8 : s.what = 8
      · rw [h8] at k0
        have hU2 := Lib.hid (hU.out.mono (Nat.le_succ j))
        clear hSm
        go_wp2_with fail
        exact ⟨⟨j + 1, q, p, N, by omega, by go_num, hA, hR, hG, hU2⟩, by simp [intOf]; omega⟩
      · have g8 := beqf h8
        obtain ⟨⟨N', ls, r⟩, hd⟩ : ∃ x, doesN N s = x := ⟨_, rfl⟩
        have hgd := Lib.hid (by have := doesN_good hG.out hSm.out hst.out h8; rw [hd] at this; exact this)
        have hup := Lib.hid (by have := hU.out.does (by omega) hG.out hst.out; rw [hd] at this; exact this)
        have hdo := Lib.hid (hA.out.does2 hR.out hG.out hSm.out (hst.out.step hA.out.below) hd)
        have hwa := Lib.hid (fun w2 q2 (hA2 : AtN w B C w2 q2 N') (hR2 : RN w w2 Bd Bg p N) => hA2.wants hR2 hG.out hSm.out (hst.out.step hA2.below) h8 hd)
        clear hd hst hSm hG hU
        simp only [] at hgd hup
        generalize s.what = K at *
        generalize s.name = nm at *
        generalize s.n = sn at *
        generalize s.a = sa at *
        generalize s.b = sb at *
        generalize s.c = sc at *
        generalize s.la = la at *
        generalize s.ln = ln at *
        generalize s.lc = lc at *
        go_wp2_with (first
          | (go_at_call 30; (with_reducible refine hdo.out.mono ?_); rintro e w6 ⟨⟨v1, v2, rfl⟩, ⟨q6, hA6⟩, hR6, hb6⟩; obtain ⟨x0, x1, x2, x3, x4, x5, x6⟩ := hcl.out _ hb6; have hwa2 := Lib.hid (hwa.out _ _ hA6 hR6); clear hA6 hR6 hb6 hdo)
          | (go_at_call 31; (with_reducible refine hwa2.out.mono ?_); rintro e w7 ⟨⟨v3, rfl⟩, hA7, p7, hR7⟩; have hA7 := Lib.hid hA7; have hR7 := Lib.hid hR7))
        exact ⟨⟨j + 1, _, _, _, by omega, by go_num, hA7, hR7, hgd, hup⟩, by simp [intOf]; omega⟩
    · obtain rfl : j = min n 60 := by omega
      have hU6 := Lib.hid (hU.out.mono (show min n 60 ≤ 60 by omega))
      by_cases h6 : n ≤ 60
      · have hmn : min n 60 = n := by omega
        rw [hmn]
        go_wp2_with fail
        go_ret2
        exact ⟨_, _, _, _, _, _, _, rfl, hA.out, hR.out, hG.out, hU6.out⟩
      · have hmn : min n 60 = 60 := by omega
        have hn4 : 60 < n := by omega
        rw [hmn]
        go_wp2_with fail
        go_ret2
        exact ⟨_, _, _, _, _, _, _, rfl, hA.out, hR.out, hG.out, hU6.out⟩
end Go.Proofs.YtafoohdndlhbnaaGreat
end

section
namespace Go.Proofs.YtafoohdndlhbnaaGreat
open Go.RowKit Go.Maps Bits Num
set_option maxRecDepth 100000

set_option maxHeartbeats 1000000 in
theorem same_any {w : World} {a a2 : Option Addr} {n c c2 : Nat} {l : List Int} (h1 : Row .u64 w a n l) (h2 : Row .u64 w a2 n l) :
    Calls Tryz.prog 17 #[.slice a n c, .slice a2 n c2] w fun e w' => e = .returned (.bool true) ∧ Below w.heap.size w w' := by
  have H1 := Lib.hid h1
  have H2 := Lib.hid h2
  have hle := h1.le
  have hne := bnef (a := (n : Int)) (b := n) rfl
  clear h1 h2
  go_enter Tryz.func17, Tryz.ntmps17
  go_wp2
  go_loopw [5] (fun s wr => ∃ j : Nat, j ≤ n ∧ s = .int .i64 j ∧ Hid (Below w.heap.size w wr)) (fun s _ => n - (intOf s).toNat)
  case atStart => exact ⟨0, Nat.zero_le _, rfl, Lib.hid (Below.refl _ _)⟩
  case round =>
    obtain ⟨j, hj, rfl, hB⟩ := hrel
    by_cases hlt : j < n
    · obtain ⟨b, off, rfl, hb, hcell⟩ := H1.out.at (by omega)
      obtain ⟨b2, off2, rfl, hb2, hcell2⟩ := H2.out.at (by omega)
      have c1 := stepc hB.out hb (hcell j hlt)
      have c2 := stepc hB.out hb2 (hcell2 j hlt)
      have hjn : (j : Int) < n := by omega
      generalize l.getD j 0 = x at *
      have hxx := bnef (a := x) (b := x) rfl
      have hBr := Lib.hid (nextw hB.out (below_draws wr 0))
      have hBn := Lib.hid (fun q => nextw hB.out (below_draws wr q))
      clear hcell hcell2
      go_wp2
      go_quiet (fail)
      go_wp2
      exact ⟨⟨j + 1, by omega, by go_num, Lib.hid (hBn.out _)⟩, by simp [intOf]; omega⟩
    · obtain rfl : j = n := by omega
      go_wp2
      go_ret
      exact ⟨rfl, hB.out⟩

/-- Rows of words that a call has made. -/
def GR (w : World) (base : Nat) (v : Value) (L : List (List Int)) : Prop :=
  ∃ kv : List Value, w.ownsRow base 44 1 v L.length kv ∧ ∀ i, i < L.length → ∃ (ra : Option Addr) (rc : Nat), kv[i]? = some (.slice ra (L.getD i []).length rc) ∧ WR w ra (L.getD i []).length rc (L.getD i [])
theorem GR.step {w w' : World} {base : Nat} {v : Value} {L : List (List Int)} (h : GR w base v L) (hb : Below w.heap.size w w') : GR w' base v L := by
  obtain ⟨kv, h1, h2⟩ := h
  exact ⟨kv, own_below h1 hb, fun i hi => by obtain ⟨ra, rc, e1, e2⟩ := h2 i hi; exact ⟨ra, rc, e1, e2.below hb⟩⟩
theorem GR.nil (w : World) (base : Nat) : GR w base (.slice none 0 0) [] := ⟨[], own_nil _ _ _, fun i hi => by simp at hi⟩
theorem GR.sim {w w' : World} {base : Nat} {v : Value} {L : List (List Int)} (h : GR w base v L) {S2 : Nat} {q2 : NPl} {p2 : SPl} {N2 : Nt} {s2 : St} (h2 : SimIs w S2 q2 p2 N2 s2) (hk : Kept (fun k => k = S2) w w') : GR w' base v L := by
  obtain ⟨kv, e1, e2⟩ := h
  refine ⟨kv, own_keptF e1 hk (fun k e hf => ?_), fun i hi => ?_⟩
  · subst hf
    obtain ⟨c, hc⟩ := own_type e1 e
    rw [h2.box] at hc; simp [simBox] at hc
  · obtain ⟨ra, rc, e3, e4⟩ := e2 i hi
    exact ⟨ra, rc, e3, e4.keptF hk h2.self.2.1⟩
theorem GR.push {w wa w1 : World} {base m g cap : Nat} {a : Option Addr} {c : Nat} {L : List (List Int)} {kv : List Value} (ho : w.ownsRow base 44 1 (.slice a m c) m kv) (hL : m = L.length) (hb : Below w.heap.size w wa)
    (hW : ∀ i, i < m → ∃ (ra : Option Addr) (rc : Nat), kv[i]? = some (.slice ra (L.getD i []).length rc) ∧ WR w ra (L.getD i []).length rc (L.getD i [])) {ra : Option Addr} {rc : Nat} {l : List Int} (hl : WR wa ra l.length rc l)
    (hown : w1.ownsRow base 44 1 (.slice (some ⟨g, 0, none⟩) (m + 1) cap) (m + 1) (kv ++ [.slice ra l.length rc])) (hg : wa.grownBy w1 (Value.slice a m c).ownBlock) : GR w1 base (.slice (some ⟨g, 0, none⟩) (m + 1) cap) (L ++ [l]) := by
  subst hL
  have hk := kept_grown hg
  have hN : NoWd wa (fun k => (Value.slice a L.length c).ownBlock = some k) := by
    intro k cur fz e hh
    obtain ⟨d, hd⟩ := own_type (own_below ho hb) e
    rw [hd] at hh; simp at hh
  have hkl : kv.length = L.length := by have := ho.1; omega
  refine ⟨kv ++ [.slice ra l.length rc], by rw [List.length_append, List.length_singleton]; exact hown, fun i hi => ?_⟩
  rw [List.length_append, List.length_singleton] at hi
  by_cases e : i < L.length
  · obtain ⟨ra', rc', e1, e2⟩ := hW i e
    have eL : (L ++ [l]).getD i [] = L.getD i [] := by
      rw [List.getD_eq_getElem?_getD, List.getElem?_append_left e, ← List.getD_eq_getElem?_getD]
    rw [eL]
    exact ⟨ra', rc', by rw [List.getElem?_append_left (by omega)]; exact e1, (e2.below hb).keptF hk hN⟩
  · have ei : i = L.length := by omega
    subst ei
    have eL : (L ++ [l]).getD L.length [] = l := by simp [List.getD]
    rw [eL]
    exact ⟨ra, rc, by rw [← hkl]; simp, hl.keptF hk hN⟩
theorem GR.at {w : World} {base : Nat} {a : Option Addr} {n c : Nat} {L : List (List Int)} (h : GR w base (.slice a n c) L) {i : Nat} (hi : i < L.length) : ∃ g : Nat, a = some ⟨g, 0, none⟩ ∧ g < w.heap.size ∧ ∃ (ra : Option Addr) (rc : Nat), w.cell? ⟨g, i, none⟩ = some (.slice ra (L.getD i []).length rc) ∧ WR w ra (L.getD i []).length rc (L.getD i []) := by
  obtain ⟨kv, e1, e2⟩ := h
  obtain ⟨g, cap, e⟩ := own_form e1 (by omega)
  obtain ⟨ra, rc, e3, e4⟩ := e2 i hi
  simp only [Value.slice.injEq] at e
  obtain ⟨e5, e6, e7⟩ := e
  subst e5 e6 e7
  exact ⟨g, rfl, own_lt e1, ra, rc, by rw [e1.cellAt i (by omega)]; exact e3, e4⟩
theorem GR.slice {w : World} {base : Nat} {v : Value} {L : List (List Int)} (h : GR w base v L) : ∃ a c, v = .slice a L.length c := by
  obtain ⟨kv, e1, -⟩ := h
  exact own_slice e1

/-- The words for the buses that come in. -/
def padX (N : Nt) (l : List Int) : List Int := row (litsOf N.ins).length (fun k => l.getD k 0)
def pieceG (N : Nt) (l : List Int) (i : Nat) : List Int := row (N.ins.getD i ⟨ByteArray.empty, []⟩).lits.length (fun k => l.getD (offB N.ins i + k) 0)
def piecesG (N : Nt) (l : List Int) : List (List Int) := (List.range N.ins.length).map (pieceG N l)
theorem padX_words (N : Nt) {l : List Int} (h : Words l) : Words (padX N l) := by
  unfold padX row
  exact words_map _ _ (fun k => h k)
theorem piecesG_len (N : Nt) (l : List Int) : (piecesG N l).length = N.ins.length := by simp [piecesG]
theorem piecesG_at (N : Nt) (l : List Int) {i : Nat} (h : i < N.ins.length) : (piecesG N l).getD i [] = pieceG N l i := by simp [piecesG, List.getD, h]
theorem piecesG_take (N : Nt) (l : List Int) {i : Nat} (h : i < N.ins.length) : (piecesG N l).take (i + 1) = (piecesG N l).take i ++ [pieceG N l i] := by
  rw [List.take_add_one]
  congr 1
  simp [piecesG, h]
theorem pieceG_len (N : Nt) (l : List Int) {i : Nat} (h : i < N.ins.length) : (pieceG N l i).length = N.ins[i].lits.length := by
  simp [pieceG, row, List.getD, h]
theorem pieceG_eq (N : Nt) (l : List Int) {i : Nat} (h : i < N.ins.length) : piece N.ins (padX N l) i = pieceG N l i := by
  have hlen : (padX N l).length = (litsOf N.ins).length := by simp [padX, row]
  have hd : N.ins.getD i ⟨ByteArray.empty, []⟩ = N.ins[i] := by simp [List.getD, h]
  apply List.ext_getElem
  · unfold piece pieceG
    rw [hd, List.length_take, List.length_drop, hlen]
    by_cases h0 : N.ins[i].lits.length = 0
    · simp [row, h0]
    · have := offB_le N.ins h (k := N.ins[i].lits.length - 1) (by omega)
      simp [row]; omega
  · intro k h1 h2
    have hk : k < N.ins[i].lits.length := by rw [pieceG_len N l h] at h2; exact h2
    have e1 := piece_at (X := padX N l) h hk
    have e2 : (pieceG N l i).getD k 0 = l.getD (offB N.ins i + k) 0 := by
      unfold pieceG; rw [hd]; exact row_getD _ _ _ hk
    have e3 : (padX N l).getD (offB N.ins i + k) 0 = l.getD (offB N.ins i + k) 0 := row_getD _ _ _ (offB_le N.ins h hk)
    rw [e3, ← e2] at e1
    simpa [List.getD, h1, h2] using e1
/-- They fit. -/
theorem GR.inRows {w : World} {base : Nat} {a : Option Addr} {n c : Nat} {N : Nt} {l : List Int} (h : GR w base (.slice a n c) (piecesG N l)) (hw : Words l) (hS : Small N) : n = N.ins.length ∧ InRows w a n N.ins (padX N l) := by
  obtain ⟨a2, c2, e⟩ := h.slice
  simp only [Value.slice.injEq] at e
  have hn : n = N.ins.length := by rw [e.2.1, piecesG_len]
  have hsi := hS.ins
  refine ⟨hn, hn, by simp [padX, row], padX_words N hw, by omega, ?_⟩
  by_cases h0 : n = 0
  · exact .inl h0
  · right
    obtain ⟨g, rfl, hg, -⟩ := h.at (i := 0) (by rw [piecesG_len]; omega)
    refine ⟨g, 0, rfl, hg, fun i hi => ?_⟩
    obtain ⟨g', e', -, ra, rc, e1, e2⟩ := h.at (i := i) (by rw [piecesG_len]; exact hi)
    simp at e'; subst e'
    rw [piecesG_at N l hi] at e1 e2
    rw [pieceG_len N l hi] at e1 e2
    exact ⟨ra, rc, by rw [Nat.zero_add]; exact e1, by rw [pieceG_eq N l hi]; exact e2.row⟩
theorem lits_le {N : Nt} {rest : List Int} (hg : Good N rest) (hS : Small N) : (litsOf N.ins).length ≤ 180000 := by
  have h1 := hg.drv.length_eq
  have h2 := hg.wf.cnt
  have h3 := hS.g
  simp [inLits] at h1
  have := taken_len N
  omega
end Go.Proofs.YtafoohdndlhbnaaGreat
end

section
namespace Go.Proofs.YtafoohdndlhbnaaGreat
open Go.RowKit Go.Maps Bits Num
set_option maxRecDepth 100000

theorem row_succ (k : Nat) (f : Nat → Int) : row (k + 1) f = row k f ++ [f k] := by simp [row, List.range_succ]
set_option maxHeartbeats 8000000 in
theorem given_any {w : World} {q : NPl} {N : Nt} (h : NetIs w q N) (hg : Good N []) (hS : Small N) {la : Option Addr} {ln lc : Nat} {l : List Int} (hl : Row .u64 w la ln l) (hw : Words l) (mo : Nat) (hmo : mo ≤ 1) :
    Calls Tryz.prog 15 #[.pointer (some ⟨q.b, 0, none⟩), .slice la ln lc, .int .i64 mo] w fun e w' => ∃ v, e = .returned v ∧ GR w' w.heap.size v (piecesG N l ++ List.replicate mo [1]) ∧ Below w.heap.size w w' := by
  obtain ⟨ia, ic, ra, rc, oa, oc, ev, -, -, -, -, c2, -, -, -⟩ := h.cells
  have hlt := h.lt
  have HB := Lib.hid (show BusRow w (.slice ia N.ins.length ic) N.ins by have := h.ins; rw [ev] at this; exact this)
  have hmx := lits_le hg hS
  have hsi := hS.ins
  have hle2 := Lib.hid (fun i k (hi : i < N.ins.length) (hk : k < N.ins[i].lits.length) => offB_le N.ins hi hk)
  have hsu := Lib.hid (fun i (hi : i < N.ins.length) => offB_succ N.ins hi)
  have hpc := Lib.hid (fun i (hi : i < N.ins.length) => piecesG_take N l hi)
  have hpl := Lib.hid (fun i (hi : i < N.ins.length) => pieceG_len N l hi)
  have hpr := Lib.hid (fun i (hi : i < N.ins.length) => (show pieceG N l i = row N.ins[i].lits.length (fun k => l.getD (offB N.ins i + k) 0) by simp [pieceG, List.getD, hi]))
  have hpa : Hid ((piecesG N l).take N.ins.length = piecesG N l) := Lib.hid (by rw [← piecesG_len N l]; exact List.take_length)
  have hpt := Lib.hid (fun i (hi : i ≤ N.ins.length) => (show ((piecesG N l).take i).length = i by rw [List.length_take, piecesG_len]; omega))
  have hpL := Lib.hid (piecesG_len N l)
  have hwd := Lib.hid (fun i => (show Words (pieceG N l i) by unfold pieceG row; exact words_map _ _ (fun k => hw _)))
  have HLr := Lib.hid hl
  have hll := hl.len
  have hz0 := Lib.hid (offB_zero N.ins)
  have hall := Lib.hid (offB_all N.ins)
  have hmono := Lib.hid (fun i (hi : i ≤ N.ins.length) => (show offB N.ins i ≤ (litsOf N.ins).length by
    have e : litsOf N.ins = litsOf (N.ins.take i) ++ litsOf (N.ins.drop i) := by
      unfold litsOf
      rw [← List.flatMap_append, List.take_append_drop]
    unfold offB
    rw [e, List.length_append]; omega))
  have hln9 := hl.le
  obtain ⟨i0, hi, hy0, hy1, hy2⟩ := info_parts info_u64
  obtain ⟨i1, hi1, hx0, hx1, hx2⟩ := info_parts info_row64
  obtain ⟨nb, hnb⟩ : ∃ m, N.ins.length = m := ⟨_, rfl⟩
  rw [hnb] at c2 HB hsi hpa
  have hNB := Lib.hid hnb
  clear h hg hS hl hnb ev
  generalize hPP : piecesG N l = PG at *
  clear hPP
  have hg0 : Hid (GR w w.heap.size (.slice none 0 0) (PG.take 0)) := Lib.hid (GR.nil _ _)
  go_enter Tryz.func15, Tryz.ntmps15
  go_wp2_with fail
  go_loopw [7, 8, 10, 11, 12, 19, 26] (fun s7 s8 _ _ _ s19 _ wr => ∃ i : Nat, i ≤ nb ∧ s19 = .int .i64 i ∧ s8 = .int .i64 (offB N.ins i) ∧ Hid (GR wr w.heap.size s7 (PG.take i)) ∧ Hid (Below w.heap.size w wr)) (fun _ _ _ _ _ s19 _ _ => nb - (intOf s19).toNat)
  case atStart => exact ⟨0, Nat.zero_le _, rfl, by rw [hz0.out]; rfl, hg0, Lib.hid (Below.refl _ _)⟩
  case round =>
    clear hg0
    obtain ⟨i, hi2, rfl, rfl, hGR, hB⟩ := hrel
    by_cases hlt2 : i < nb
    · have hiL : i < N.ins.length := by rw [hNB.out]; exact hlt2
      obtain ⟨g2, la2, lc2, rfl, hg2, b0, b1, -⟩ := HB.out.at hiL
      have b0 := stepc hB.out hg2 b0
      have b1 := stepc hB.out hg2 b1
      have hle3 := Lib.hid (fun k hk => hle2.out i k hiL hk)
      have hsu3 := Lib.hid (hsu.out i hiL)
      have hpc3 := Lib.hid (hpc.out i hiL)
      have hpl3 := Lib.hid (hpl.out i hiL)
      have hpr3 := Lib.hid (hpr.out i hiL)
      have hwd3 := Lib.hid (hwd.out i)
      have hpt3 := Lib.hid (hpt.out i (by omega))
      have hof := hmono.out i (by omega)
      generalize hmm : N.ins[i].lits.length = m at *
      generalize N.ins[i].name = nm at *
      generalize hO : offB N.ins i = o at *
      clear hmm
      have hHO := Lib.hid hO
      have hba : Below wr.heap.size wr (wr.alloc (.cells #[.string nm, .slice la2 m lc2] 81)) := (Below.refl _ _).alloc (Nat.le_refl _) _
      have hba' := Lib.hid hba
      have hGR2 := hGR.out.step hba
      have hav := hGR2.slice
      rw [hpt3.out] at hav
      obtain ⟨av, cv, hav⟩ := hav
      subst hav
      have hGR2 := Lib.hid hGR2
      clear hGR hba
      go_wp2_with fail
      generalize hwa : wr.alloc (.cells #[.string nm, .slice la2 m lc2] 81) = wa at *
      have hBa := Lib.hid (nextw hB.out hba'.out)
      have hr0 : Hid (wa.ownsRow wa.heap.size 62 1 (.slice none 0 0) 0 ((row 0 (fun k => l.getD (o + k) 0)).map (Value.int .u64))) := Lib.hid (own_nil _ _ _)
      have hrf := Lib.hid (Below.refl wa.heap.size wa)
      clear hba' hwa hB
      go_loopw [8, 11, 12, 26] (fun s8 s11 _ s26 wr => ∃ k : Nat, k ≤ m ∧ s26 = .int .i64 k ∧ s8 = .int .i64 ((o : Int) + (k : Int)) ∧ Hid (wr.ownsRow wa.heap.size 62 1 s11 k ((row k (fun k => l.getD (o + k) 0)).map (Value.int .u64))) ∧ Hid (Below wa.heap.size wa wr)) (fun _ _ _ s26 _ => m - (intOf s26).toNat)
      case atStart => exact ⟨0, Nat.zero_le _, rfl, by simp, hr0, hrf⟩
      case round =>
        clear hr0 hrf
        obtain ⟨k, hk, rfl, rfl, hown, hB⟩ := hrel
        by_cases hlt3 : k < m
        · have hok := hle3.out k hlt3
          have hBw := nextw hBa.out hB.out
          obtain ⟨sa, sc, hsv⟩ := own_slice hown.out
          subst hsv
          have hsz := hB.out.size
          have hal := Lib.hid (fun o => hown.out.alloc o)
          have hn1 := Lib.hid (fun x => (Below.refl wr.heap.size wr).alloc (Nat.le_refl _) (.cells #[.int .u64 x] 62))
          by_cases hin : o + k < ln
          · obtain ⟨b5, off5, hla, hb5, hc5⟩ := HLr.out.at (by omega)
            have t5 := stepc hBw hb5 (hc5 (o + k) hin)
            subst hla
            have hx : Hid (l.getD (o + k) 0 = (fun k => l.getD (o + k) 0) k) := Lib.hid rfl
            obtain ⟨x, hxx⟩ : ∃ x, l.getD (o + k) 0 = x := ⟨_, rfl⟩
            rw [hxx] at t5
            have hxx := Lib.hid hxx
            clear hc5 hBw
            have h1 : decide ((o : Int) + (k : Int) < (ln : Int)) = true := by simp; omega
            go_wp2_with (at_builtin; refine wpList_append_lies _ rfl _ _ 44 rfl wa.heap.size 62 i0 (.int .u64 0) 1 8 Tryz.underlying44 hi hy0 hy1 hy2 rfl (by decide) (.slice sa k sc) k _ rfl (hal.out _) ⟨wr.heap.size, 0, none⟩ 1 1 [.int .u64 x] rfl rfl (news1 _ _ _) (by simp [Value.oneCell']) (by decide) (by unfold maxLen; omega) (by omega) (by simp; omega) _ rfl ?_; intro g8 cap8 w8 hown8 hgrow8 hat8 hlt8)
            refine ⟨⟨k + 1, by omega, by go_num, (by first | rfl | (congr 1; push_cast; omega) | (congr 1; omega)), Lib.hid ?_, Lib.hid ?_⟩, by simp [intOf]; omega⟩
            · show w8.ownsRow wa.heap.size 62 1 _ (k + 1) ((row (k + 1) (fun k => l.getD (o + k) 0)).map (Value.int .u64))
              rw [row_succ, List.map_append, List.map_singleton, hxx.out]; exact hown8
            · exact (nextw hB.out (hn1.out _)).grown hgrow8 (by simp; omega) (fun k hk => own_ge hown.out k hk)
          · have h1 : decide ((o : Int) + (k : Int) < (ln : Int)) = false := by simp; omega
            have hx0 : Hid (l.getD (o + k) 0 = 0) := Lib.hid (by simp [List.getD, List.getElem?_eq_none (show l.length ≤ o + k by omega)])
            go_wp2_with (at_builtin; refine wpList_append_lies _ rfl _ _ 44 rfl wa.heap.size 62 i0 (.int .u64 0) 1 8 Tryz.underlying44 hi hy0 hy1 hy2 rfl (by decide) (.slice sa k sc) k _ rfl (hal.out _) ⟨wr.heap.size, 0, none⟩ 1 1 [.int .u64 0] rfl rfl (news1 _ _ _) (by simp [Value.oneCell']) (by decide) (by unfold maxLen; omega) (by omega) (by simp; omega) _ rfl ?_; intro g8 cap8 w8 hown8 hgrow8 hat8 hlt8)
            refine ⟨⟨k + 1, by omega, by go_num, (by first | rfl | (congr 1; push_cast; omega) | (congr 1; omega)), Lib.hid ?_, Lib.hid ?_⟩, by simp [intOf]; omega⟩
            · show w8.ownsRow wa.heap.size 62 1 _ (k + 1) ((row (k + 1) (fun k => l.getD (o + k) 0)).map (Value.int .u64))
              rw [row_succ, List.map_append, List.map_singleton, hx0.out]; exact hown8
            · exact (nextw hB.out (hn1.out _)).grown hgrow8 (by simp; omega) (fun k hk => own_ge hown.out k hk)
        · obtain rfl : k = m := by omega
          have hBw := Lib.hid (nextw hBa.out hB.out)
          have hVr := hown.out
          obtain ⟨sa, sc, hsv⟩ := own_slice hVr
          subst hsv
          rw [← hpr3.out] at hVr
          have hWR : Hid (WR wr sa (pieceG N l i).length sc (pieceG N l i)) := Lib.hid ⟨rfl, by rw [hpl3.out]; exact own_base hVr (Nat.zero_le _), hwd3.out⟩
          obtain ⟨kv, hko, hkw⟩ := hGR2.out
          rw [hpt3.out] at hko
          have hko := own_below hko hB.out
          have hkw := Lib.hid (fun j (hj : j < i) => (show ∃ (ra : Option Addr) (rc : Nat), kv[j]? = some (.slice ra ((PG.take i).getD j []).length rc) ∧ WR wr ra ((PG.take i).getD j []).length rc ((PG.take i).getD j []) from by obtain ⟨ra, rc, e1, e2⟩ := hkw j (by rw [hpt3.out]; exact hj); exact ⟨ra, rc, e1, e2.below hB.out⟩))
          have hko := Lib.hid hko
          have hal := Lib.hid (fun o => hko.out.alloc o)
          have hn1 := Lib.hid (fun o => (Below.refl wr.heap.size wr).alloc (Nat.le_refl _) o)
          have hbz := hBw.out.size
          have hpl4 := hpl3.out
          clear hBa hB hGR2 hown hVr hle3
          go_wp2_with (at_builtin; refine wpList_append_lies _ rfl _ _ 50 rfl w.heap.size 44 i1 (.slice none 0 0) 1 24 Tryz.underlying50 hi1 hx0 hx1 hx2 rfl (by decide) (.slice av i cv) i kv rfl (hal.out _) ⟨wr.heap.size, 0, none⟩ 1 1 [.slice sa k sc] rfl rfl (news1 _ _ _) (by simp [Value.oneCell']) (by decide) (by unfold maxLen; omega) (by omega) (by simp; omega) _ rfl ?_; intro g8 cap8 w8 hown8 hgrow8 hat8 hlt8)
          have hpush := GR.push hko.out hpt3.out.symm (hn1.out (.cells #[.slice sa k sc] 44)) hkw.out (l := pieceG N l i) (hWR.out.below (hn1.out _)) (by rw [hpl4]; exact hown8) hgrow8
          rw [← hpc3.out] at hpush
          have hB8 := (nextw hBw.out (hn1.out (.cells #[.slice sa k sc] 44))).grown hgrow8 (by simp; omega) (fun k hk => own_ge hko.out k hk)
          have hsu9 := hsu3.out
          exact ⟨⟨i + 1, by omega, by go_num, by rw [hsu9]; push_cast; rfl, Lib.hid hpush, Lib.hid hB8⟩, by simp [intOf]; omega⟩
    · obtain rfl : i = nb := by omega
      have hGR2 := hGR.out
      rw [hpa.out] at hGR2
      have hGR2 := Lib.hid hGR2
      have hav := hGR2.out.slice
      rw [hpL.out, hNB.out] at hav
      obtain ⟨av, cv, hav⟩ := hav
      subst hav
      have hGR3 : Hid (GR wr w.heap.size (.slice av i cv) (PG ++ List.replicate 0 [1])) := Lib.hid (by simpa using hGR2.out)
      have hpLi : Hid (PG.length = i) := Lib.hid (by rw [hpL.out, hNB.out])
      clear hGR hGR2
      go_wp2_with fail
      go_loopw [7, 13] (fun s7 s13 wr => ∃ j : Nat, j ≤ mo ∧ s13 = .int .i64 j ∧ (∃ av cv, s7 = .slice av (i + j) cv) ∧ Hid (GR wr w.heap.size s7 (PG ++ List.replicate j [1])) ∧ Hid (Below w.heap.size w wr)) (fun _ s13 _ => mo - (intOf s13).toNat)
      case atStart => exact ⟨0, Nat.zero_le _, rfl, ⟨av, cv, rfl⟩, hGR3, hB⟩
      case round =>
        clear hGR3 hB
        obtain ⟨j, hj, rfl, ⟨av, cv, rfl⟩, hGR, hB⟩ := hrel
        by_cases hlt3 : j < mo
        · obtain rfl : j = 0 := by omega
          obtain ⟨kv, hko, hkw⟩ := hGR.out
          simp only [List.replicate_zero, List.append_nil] at hko hkw
          rw [hpLi.out] at hko hkw
          have hn1 := Lib.hid (((Below.refl wr.heap.size wr).alloc (Nat.le_refl _) (.cells #[.int .u64 1] 62)).alloc (by simp) (.cells #[.slice (some ⟨wr.heap.size, 0, none⟩) 1 1] 44))
          have hWR1 : Hid (WR ((wr.alloc (.cells #[.int .u64 1] 62)).alloc (.cells #[.slice (some ⟨wr.heap.size, 0, none⟩) 1 1] 44)) (some ⟨wr.heap.size, 0, none⟩) 1 1 [1]) := Lib.hid ⟨rfl, ⟨rfl, .inr ⟨wr.heap.size, 1, #[.int .u64 1], rfl, Nat.zero_le _, alloc_old _ _ (alloc_get _ _ rfl) (by simp), Nat.le_refl _, by decide, rfl, rfl⟩⟩, fun i => by match i with
            | 0 => simp
            | i + 1 => simp⟩
          have hko := Lib.hid hko
          have hkw := Lib.hid hkw
          have hbz := hB.out.size
          have hnw1 : Hid (∀ (j : Nat) (u : Value), [Value.slice (some ⟨wr.heap.size, 0, none⟩) 1 1][j]? = some u → ((wr.alloc (.cells #[.int .u64 1] 62)).alloc (.cells #[.slice (some ⟨wr.heap.size, 0, none⟩) 1 1] 44)).cell? ((⟨wr.heap.size + 1, 0, none⟩ : Addr).add j) = some u) := Lib.hid (fun j u h => by
            have h1 := news1 (wr.alloc (.cells #[.int .u64 1] 62)) (.slice (some ⟨wr.heap.size, 0, none⟩) 1 1) 44 j u h
            rw [show (wr.alloc (.cells #[.int .u64 1] 62)).heap.size = wr.heap.size + 1 by simp] at h1
            exact h1)
          have hal := Lib.hid ((hko.out.alloc (.cells #[.int .u64 1] 62)).alloc (.cells #[.slice (some ⟨wr.heap.size, 0, none⟩) 1 1] 44))
          go_wp2_with (at_builtin; refine wpList_append_lies _ rfl _ _ 50 rfl w.heap.size 44 i1 (.slice none 0 0) 1 24 Tryz.underlying50 hi1 hx0 hx1 hx2 rfl (by decide) (.slice av i cv) i kv rfl hal.out ⟨wr.heap.size + 1, 0, none⟩ 1 1 [.slice (some ⟨wr.heap.size, 0, none⟩) 1 1] rfl rfl hnw1.out (by simp [Value.oneCell']) (by decide) (by unfold maxLen; omega) (by omega) (by simp; omega) _ rfl ?_; intro g8 cap8 w8 hown8 hgrow8 hat8 hlt8)
          have hpush := GR.push hko.out hpLi.out.symm hn1.out hkw.out (l := [1]) hWR1.out hown8 hgrow8
          have hB8 := (nextw hB.out hn1.out).grown hgrow8 (by simp; omega) (fun k hk => own_ge hko.out k hk)
          exact ⟨⟨1, by omega, by go_num, ⟨_, _, rfl⟩, Lib.hid hpush, Lib.hid hB8⟩, by simp [intOf]; omega⟩
        · obtain rfl : j = mo := by omega
          go_wp2_with fail
          go_ret
          exact ⟨_, rfl, hGR.out, hB.out⟩
end Go.Proofs.YtafoohdndlhbnaaGreat
end

section
namespace Go.Proofs.YtafoohdndlhbnaaGreat
open Go.RowKit Go.Maps Bits Num
set_option maxRecDepth 100000

abbrev sTg : ByteArray := { data := #[116, 111, 103, 103, 108, 101] }
abbrev sUp : ByteArray := { data := #[117, 112] }
abbrev sOut : ByteArray := { data := #[111, 117, 116] }
theorem tg_may : mayName sTg = true := by decide
def tg0 : Nt := ⟨newG false false, sTg, [], [], []⟩
def tg1 : Nt := ⟨inputsN (newG false false) 1, sTg, [⟨sUp, [2]⟩], [], []⟩
def tg2 : Nt := ⟨inputsN (newG false false) 2, sTg, [⟨sUp, [2]⟩], [⟨4, 0, 0, false⟩], []⟩
def tg3 : Nt := { tg2 with regs := [⟨4, 5, 2, false⟩] }
def tg4 : Nt := { tg3 with outs := [⟨sOut, [4]⟩] }
theorem tg0_good : Good tg0 [] := Good.new false false tg_may
theorem g1 : addIn tg0 sUp 1 = (tg1, [2], 0) := by rfl
theorem g2 : addReg tg1 false = (tg2, 4) := by rfl
theorem g3 : setReg tg2 4 5 2 = (tg3, 0) := by rfl
theorem g4 : addOut tg3 sOut [4] = (tg4, 0) := by rfl
theorem lit4 : IsLit 4 := by unfold IsLit; omega
theorem lit5 : IsLit 5 := by unfold IsLit; omega
theorem tg1_good : Good tg1 [] := by have := tg0_good.addIn sUp 1; rw [g1] at this; exact this
theorem tg2_good : Good tg2 [] := by have := tg1_good.addReg false; rw [g2] at this; exact this
theorem tg3_good : Good tg3 [] := by have := tg2_good.setReg 4 5 2 lit5 lit2; rw [g3] at this; exact this
theorem tg4_good : Good tg4 [] := by have := tg3_good.addOut sOut [4] (by intro x hx; simp at hx; subst hx; exact lit4); rw [g4] at this; exact this
theorem tg4_small : Small tg4 := small_t (by decide)
set_option maxHeartbeats 2000000 in
theorem toggle_any (w : World) : Calls Tryz.prog 56 #[] w fun e w' => ∃ q : NPl, e = .returned (.pointer (some ⟨q.b, 0, none⟩)) ∧ NetIs w' q tg4 ∧ Below w.heap.size w w' := by
  have hnew := Lib.hid (AtN.new w (Below.refl w.heap.size w) false false tg_may)
  have hno := Lib.hid (fun w => not_any 4 lit4 w)
  rw [show notV 4 = 5 by decide] at hno
  go_enter Tryz.func56, Tryz.ntmps56
  go_wp2_with (first
    | (go_at_call 28; refine hnew.out.mono ?_; rintro e w2 ⟨q0, B, C, rfl, hA0⟩; obtain ⟨c0, c1⟩ := hA0.cells; have hk1 := Lib.hid (hA0.addIn tg0_good.wf (by decide) (by decide) g1))
    | (go_at_call 10; (with_reducible refine hk1.out.mono ?_); rintro e w3 ⟨a, c, q1, rfl, hA1'⟩; have hA1 : AtL w B C a 1 c [2] w3 q1 tg1 := hA1'; clear hA1'; have hk2 := Lib.hid (hA1.addReg tg1_good.wf (by decide) (by decide) g2); clear hk1)
    | (go_at_call 66; (with_reducible refine hk2.out.mono ?_); rintro e w4 ⟨q2, rfl, hA2⟩; have hk3 := Lib.hid (hA2.setReg tg2_good.wf lit5 lit2 g3); clear hk2)
    | (go_at_call 27; (with_reducible refine (hno.out _).mono ?_); rintro e w5 ⟨rfl, rfl⟩)
    | (go_at_call 67; (with_reducible refine hk3.out.mono ?_); rintro e w6 ⟨q4, rfl, hA4⟩; have hk5 := Lib.hid (hA4.addOut1 tg3_good.wf (by decide) lit4 g4); clear hk3)
    | (go_at_call 9; (with_reducible refine hk5.out.mono ?_); rintro e w7 ⟨q5, rfl, hA5⟩; have hA5 := Lib.hid hA5.at_; clear hk5))
  go_ret
  obtain ⟨hI, hb, -, -, hB⟩ := hA5.out
  refine ⟨q5, ?_, hI, hB⟩
  rw [hb]; rfl

/-- A cycle of the chapter's netlist. -/
theorem tg_cyc {up x : Int} {ws : List Int} (c : Cyc tg4 ([up] ++ [x]) ws) : outR tg4 ws = [[x]] ∧ nxR tg4 ws = [bits .or .u64 (bits .and .u64 (18446744073709551615 - x) up) (bits .andNot .u64 x up)] := by
  have h1 := c.taken tg4_good (k := 0) (by decide)
  have h2 := c.taken tg4_good (k := 1) (by decide)
  have e2 : wordV 2 ws = up := h1
  have e4 : wordV 4 ws = x := h2
  have e5 : wordV 5 ws = 18446744073709551615 - x := by rw [show (5 : Int) = notV 4 by decide, wordV_not, e4]
  refine ⟨?_, ?_⟩
  · show [[wordV 4 ws]] = _; rw [e4]
  · show [bits .or .u64 (bits .and .u64 (wordV 5 ws) (wordV 2 ws)) (bits .andNot .u64 (wordV 4 ws) (wordV 2 ws))] = _
    rw [e2, e4, e5]
theorem tg_n1 : bits .or .u64 (bits .and .u64 (18446744073709551615 - 0) 18446744073709551615) (bits .andNot .u64 0 18446744073709551615) = 18446744073709551615 := by decide +kernel
theorem tg_n2 : bits .or .u64 (bits .and .u64 (18446744073709551615 - 18446744073709551615) 18446744073709551615) (bits .andNot .u64 18446744073709551615 18446744073709551615) = 0 := by decide +kernel
theorem tg_n3 : bits .or .u64 (bits .and .u64 (18446744073709551615 - 0) 1) (bits .andNot .u64 0 1) = 1 := by decide +kernel
theorem tg_n4 : bits .or .u64 (bits .and .u64 (18446744073709551615 - 1) 1) (bits .andNot .u64 1 1) = 0 := by decide +kernel
/-- What the register has, cycle by cycle. -/
def tgH (up : Int) (j : Nat) : Int := if j % 2 = 0 then 0 else up
theorem tg_next {up : Int} (h : up = 18446744073709551615 ∨ up = 1) {j : Nat} {ws : List Int} (c : Cyc tg4 ([up] ++ [tgH up j]) ws) : outR tg4 ws = [[tgH up j]] ∧ nxR tg4 ws = [tgH up (j + 1)] := by
  obtain ⟨e1, e2⟩ := tg_cyc c
  refine ⟨e1, e2.trans ?_⟩
  unfold tgH
  by_cases hj : j % 2 = 0
  · rw [if_pos hj, if_neg (by omega)]
    rcases h with rfl | rfl
    · rw [tg_n1]
    · rw [tg_n3]
  · rw [if_neg hj, if_pos (by omega)]
    rcases h with rfl | rfl
    · rw [tg_n2]
    · rw [tg_n4]
/-- The words of one row. -/
theorem tg_in (w : World) (up : Int) (h : Wd up) : InRows ((w.alloc (.cells #[.int .u64 up] 62)).alloc (.cells #[.slice (some ⟨w.heap.size, 0, none⟩) 1 1] 44)) (some ⟨w.heap.size + 1, 0, none⟩) 1 tg4.ins [up] := by
  refine ⟨rfl, rfl, fun i => ?_, by omega, .inr ⟨w.heap.size + 1, 0, rfl, by simp, fun i hi => ?_⟩⟩
  · match i with
    | 0 => exact h
    | i + 1 => simp
  · have hi0 : i = 0 := by
      have : tg4.ins.length = 1 := rfl
      omega
    subst hi0
    refine ⟨some ⟨w.heap.size, 0, none⟩, 1, by simp [go_sem]; rfl, rfl, by show 1 ≤ _; omega, .inr ⟨w.heap.size, 0, rfl, by simp; omega, fun k hk => ?_⟩⟩
    have hk0 : k = 0 := by
      have : (tg4.ins[0]'hi).lits.length = 1 := rfl
      omega
    subst hk0
    simp [go_sem]
    rfl

theorem tgH_bd {up : Int} (h : up = 18446744073709551615 ∨ up = 1) (j : Nat) : Wd (tgH up j) := by
  unfold tgH Wd
  split
  · omega
  · rcases h with rfl | rfl <;> omega
/-- A cycle of it told. -/
theorem tg_step {w : World} {S : Nat} {q : NPl} {p : SPl} {up : Int} (h : up = 18446744073709551615 ∨ up = 1) {j : Nat} (hj : j ≤ 5) {last : List Int} (hs : SimIs w S q p tg4 ⟨[tgH up j], last, j⟩) :
    Calls Tryz.prog 14 #[.pointer (some ⟨S, 0, none⟩), .slice (some ⟨w.heap.size + 1, 0, none⟩) 1 1] ((w.alloc (.cells #[.int .u64 up] 62)).alloc (.cells #[.slice (some ⟨w.heap.size, 0, none⟩) 1 1] 44)) fun e w' => ∃ (g r rc : Nat) (p' : SPl) (last' : List Int), e = .returned (.tuple #[.slice (some ⟨g, 0, none⟩) 1 1, .int .i64 0]) ∧ w'.cell? ⟨g, 0, none⟩ = some (.slice (some ⟨r, 0, none⟩) 1 rc) ∧ w'.cell? ⟨r, 0, none⟩ = some (.int .u64 (tgH up j)) ∧ SimIs w' S q p' tg4 ⟨[tgH up (j + 1)], last', j + 1⟩ ∧ Kept (fun k => k = S) w w' := by
  have hb : Below w.heap.size w ((w.alloc (.cells #[.int .u64 up] 62)).alloc (.cells #[.slice (some ⟨w.heap.size, 0, none⟩) 1 1] 44)) := ((Below.refl _ _).alloc (Nat.le_refl _) _).alloc (by simp) _
  have hup : Wd up := by unfold Wd; rcases h with rfl | rfl <;> omega
  refine (SStep_ok (hs.below hb) (by show j < 1000000; omega) (c := 1) (tg_in w up hup)).mono ?_
  rintro e w' ⟨ws, p', g, hc, rfl, hO, hS, hk⟩
  obtain ⟨e1, e2⟩ := tg_next h hc
  have hn : tg4.outs.length = 1 := rfl
  rw [e1, hn] at hO
  rw [e2] at hS
  obtain ⟨ra, rc, c1, c2, -⟩ := hO.at (i := 0) (by omega)
  obtain ⟨r, cap, hf⟩ := own_form c2.own (by show 0 < 1; omega)
  simp only [Value.slice.injEq] at hf
  obtain ⟨rfl, -, -⟩ := hf
  obtain ⟨b, off, e4, hb4, hcell⟩ := c2.row.at (by show 0 < 1; omega)
  simp at e4
  obtain ⟨rfl, rfl⟩ := e4
  have h0 := hcell 0 (by show 0 < 1; omega)
  exact ⟨g, r, rc, p', ws, rfl, c1, by simpa using h0, hS, (Kept.of_below hb).trans hk (fun _ h => .inl h)⟩
set_option maxHeartbeats 4000000 in
theorem tells_any8 (w : World) : Calls Tryz.prog 21 #[] w fun e w' => e = .returned (.bool true) ∧ Below w.heap.size w w' := by
  have htg := Lib.hid toggle_any
  have hnw := Lib.hid (fun (w2 : World) (q : NPl) (h : NetIs w2 q tg4) => SNew_any h tg4_good tg4_small)
  have hst := Lib.hid (fun (w2 : World) (S : Nat) (q : NPl) (p : SPl) (up : Int) (h : up = 18446744073709551615 ∨ up = 1) (j : Nat) (hj : j ≤ 5) (last : List Int) (hs : SimIs w2 S q p tg4 ⟨[tgH up j], last, j⟩) => tg_step h hj hs)
  have ix0 : ∀ W, (Instr.index 130 (.agg #[.int .u64 18446744073709551615, .int .u64 1]) (.int .i64 0)).run Tryz.prog W = .ok (.int .u64 18446744073709551615) W := fun W => by kernel_rfl
  have ix1 : ∀ W, (Instr.index 130 (.agg #[.int .u64 18446744073709551615, .int .u64 1]) (.int .i64 1)).run Tryz.prog W = .ok (.int .u64 1) W := fun W => by kernel_rfl
  have ix2 : ∀ W, (Instr.index 131 (.agg #[.int .u64 0, .int .u64 18446744073709551615, .int .u64 0]) (.int .i64 0)).run Tryz.prog W = .ok (.int .u64 0) W := fun W => by kernel_rfl
  have ix3 : ∀ W, (Instr.index 131 (.agg #[.int .u64 0, .int .u64 18446744073709551615, .int .u64 0]) (.int .i64 1)).run Tryz.prog W = .ok (.int .u64 18446744073709551615) W := fun W => by kernel_rfl
  have ix4 : ∀ W, (Instr.index 131 (.agg #[.int .u64 0, .int .u64 18446744073709551615, .int .u64 0]) (.int .i64 2)).run Tryz.prog W = .ok (.int .u64 0) W := fun W => by kernel_rfl
  have ix5 : ∀ W, (Instr.index 131 (.agg #[.int .u64 0, .int .u64 1, .int .u64 0]) (.int .i64 0)).run Tryz.prog W = .ok (.int .u64 0) W := fun W => by kernel_rfl
  have ix6 : ∀ W, (Instr.index 131 (.agg #[.int .u64 0, .int .u64 1, .int .u64 0]) (.int .i64 1)).run Tryz.prog W = .ok (.int .u64 1) W := fun W => by kernel_rfl
  have ix7 : ∀ W, (Instr.index 131 (.agg #[.int .u64 0, .int .u64 1, .int .u64 0]) (.int .i64 2)).run Tryz.prog W = .ok (.int .u64 0) W := fun W => by kernel_rfl
  go_enter Tryz.func21, Tryz.ntmps21
  go_wp2_with fail
  go_loopw [10] (fun s wr => ∃ i : Nat, i ≤ 2 ∧ s = .int .i64 i ∧ Hid (Below w.heap.size w wr)) (fun s _ => 2 - (intOf s).toNat)
  case atStart => exact ⟨0, by omega, rfl, Lib.hid (Below.refl _ _)⟩
  case round =>
    obtain ⟨i, hi, rfl, hB⟩ := hrel
    by_cases hlt : i < 2
    · have hcs : i = 0 ∨ i = 1 := by omega
      rcases hcs with rfl | rfl
      · go_wp2_with (first
          | (go_at_call 56; (with_reducible refine (htg.out _).mono ?_); rintro e w2 ⟨q0, rfl, hI0, hb2⟩; have hnw2 := Lib.hid (hnw.out _ _ hI0); have hB2 := Lib.hid (nextw hB.out hb2); clear hI0 hb2)
          | (go_at_call 6; (with_reducible refine hnw2.out.mono ?_); rintro e w3 ⟨S, q, p, rfl, hS, hSz, -, hb3⟩; have hSw : w.heap.size ≤ S := Nat.le_trans hB2.out.size hSz; have hB3 := Lib.hid (nextw hB2.out hb3); have hS := Lib.hid hS; clear hb3 hnw2))
        go_loopw [22] (fun s wr => ∃ (j : Nat) (p : SPl) (last : List Int), j ≤ 3 ∧ s = .int .i64 j ∧ Hid (SimIs wr S q p tg4 ⟨[tgH 18446744073709551615 j], last, j⟩) ∧ Hid (Below w.heap.size w wr)) (fun s _ => 3 - (intOf s).toNat)
        case atStart => exact ⟨0, p, [], by omega, rfl, hS, hB3⟩
        case round =>
          clear hS hB3 hB2 hB
          obtain ⟨j, p, last, hj, rfl, hS, hB⟩ := hrel
          by_cases hlt2 : j < 3
          · have hst1 := Lib.hid (hst.out _ S q p 18446744073709551615 (by decide) j (by omega) last hS.out)
            have hBz := hB.out.size
            have hcs2 : j = 0 ∨ j = 1 ∨ j = 2 := by omega
            rcases hcs2 with rfl | rfl | rfl
            · rw [show tgH 18446744073709551615 0 = 0 from rfl] at hst1
              go_wp2_with (go_at_call 14; (with_reducible refine hst1.out.mono ?_); rintro e w5 ⟨g, r, rc, p', last', rfl, k1, k2, hS5, hk5⟩; have hS5 := Lib.hid hS5; have hB5 := Lib.hid (hB.out.trans (hk5.below (fun k e => by subst e; exact hSw) hBz)); clear hk5 hst1)
              exact ⟨⟨0 + 1, p', last', by omega, by go_num, hS5, hB5⟩, by simp [intOf]⟩
            · rw [show tgH 18446744073709551615 1 = 18446744073709551615 from rfl] at hst1
              go_wp2_with (go_at_call 14; (with_reducible refine hst1.out.mono ?_); rintro e w5 ⟨g, r, rc, p', last', rfl, k1, k2, hS5, hk5⟩; have hS5 := Lib.hid hS5; have hB5 := Lib.hid (hB.out.trans (hk5.below (fun k e => by subst e; exact hSw) hBz)); clear hk5 hst1)
              exact ⟨⟨1 + 1, p', last', by omega, by go_num, hS5, hB5⟩, by simp [intOf]⟩
            · rw [show tgH 18446744073709551615 2 = 0 from rfl] at hst1
              go_wp2_with (go_at_call 14; (with_reducible refine hst1.out.mono ?_); rintro e w5 ⟨g, r, rc, p', last', rfl, k1, k2, hS5, hk5⟩; have hS5 := Lib.hid hS5; have hB5 := Lib.hid (hB.out.trans (hk5.below (fun k e => by subst e; exact hSw) hBz)); clear hk5 hst1)
              exact ⟨⟨2 + 1, p', last', by omega, by go_num, hS5, hB5⟩, by simp [intOf]⟩
          · obtain rfl : j = 3 := by omega
            go_wp2_with fail
            exact ⟨⟨1, by omega, by go_num, hB⟩, by simp [intOf]⟩
      · go_wp2_with (first
          | (go_at_call 56; (with_reducible refine (htg.out _).mono ?_); rintro e w2 ⟨q0, rfl, hI0, hb2⟩; have hnw2 := Lib.hid (hnw.out _ _ hI0); have hB2 := Lib.hid (nextw hB.out hb2); clear hI0 hb2)
          | (go_at_call 6; (with_reducible refine hnw2.out.mono ?_); rintro e w3 ⟨S, q, p, rfl, hS, hSz, -, hb3⟩; have hSw : w.heap.size ≤ S := Nat.le_trans hB2.out.size hSz; have hB3 := Lib.hid (nextw hB2.out hb3); have hS := Lib.hid hS; clear hb3 hnw2))
        go_loopw [22] (fun s wr => ∃ (j : Nat) (p : SPl) (last : List Int), j ≤ 3 ∧ s = .int .i64 j ∧ Hid (SimIs wr S q p tg4 ⟨[tgH 1 j], last, j⟩) ∧ Hid (Below w.heap.size w wr)) (fun s _ => 3 - (intOf s).toNat)
        case atStart => exact ⟨0, p, [], by omega, rfl, hS, hB3⟩
        case round =>
          clear hS hB3 hB2 hB
          obtain ⟨j, p, last, hj, rfl, hS, hB⟩ := hrel
          by_cases hlt2 : j < 3
          · have hst1 := Lib.hid (hst.out _ S q p 1 (by decide) j (by omega) last hS.out)
            have hBz := hB.out.size
            have hcs2 : j = 0 ∨ j = 1 ∨ j = 2 := by omega
            rcases hcs2 with rfl | rfl | rfl
            · rw [show tgH 1 0 = 0 from rfl] at hst1
              go_wp2_with (go_at_call 14; (with_reducible refine hst1.out.mono ?_); rintro e w5 ⟨g, r, rc, p', last', rfl, k1, k2, hS5, hk5⟩; have hS5 := Lib.hid hS5; have hB5 := Lib.hid (hB.out.trans (hk5.below (fun k e => by subst e; exact hSw) hBz)); clear hk5 hst1)
              exact ⟨⟨0 + 1, p', last', by omega, by go_num, hS5, hB5⟩, by simp [intOf]⟩
            · rw [show tgH 1 1 = 1 from rfl] at hst1
              go_wp2_with (go_at_call 14; (with_reducible refine hst1.out.mono ?_); rintro e w5 ⟨g, r, rc, p', last', rfl, k1, k2, hS5, hk5⟩; have hS5 := Lib.hid hS5; have hB5 := Lib.hid (hB.out.trans (hk5.below (fun k e => by subst e; exact hSw) hBz)); clear hk5 hst1)
              exact ⟨⟨1 + 1, p', last', by omega, by go_num, hS5, hB5⟩, by simp [intOf]⟩
            · rw [show tgH 1 2 = 0 from rfl] at hst1
              go_wp2_with (go_at_call 14; (with_reducible refine hst1.out.mono ?_); rintro e w5 ⟨g, r, rc, p', last', rfl, k1, k2, hS5, hk5⟩; have hS5 := Lib.hid hS5; have hB5 := Lib.hid (hB.out.trans (hk5.below (fun k e => by subst e; exact hSw) hBz)); clear hk5 hst1)
              exact ⟨⟨2 + 1, p', last', by omega, by go_num, hS5, hB5⟩, by simp [intOf]⟩
          · obtain rfl : j = 3 := by omega
            go_wp2_with fail
            exact ⟨⟨2, by omega, by go_num, hB⟩, by simp [intOf]⟩
    · obtain rfl : i = 2 := by omega
      go_wp2_with fail
      go_ret
      exact ⟨rfl, hB.out⟩
end Go.Proofs.YtafoohdndlhbnaaGreat
end

section
namespace Go.Proofs.YtafoohdndlhbnaaGreat
open Go.RowKit Go.ChangeShapes Go.WideShapes

theorem words_of {zs : List Int} (h : ∀ n ∈ zs, (Lit.int .u64 n).wf = true) : Words zs := by
  intro i
  by_cases hi : i < zs.length
  · have e : zs.getD i 0 = zs[i] := by simp [List.getD, hi]
    have := bounds_u64 (h _ (List.getElem_mem hi))
    rw [e]; omega
  · have e : zs.getD i 0 = 0 := by rw [List.getD_eq_getElem?_getD, List.getElem?_eq_none (by omega)]; rfl
    rw [e]; omega
theorem isLit_of {l : Int} (h : (Go.Lit.int .u32 l).wf = true) : IsLit l := by
  have := bounds_u32 h
  unfold IsLit; omega
theorem lits_of {zs : List Int} (h : ∀ n ∈ zs, (Go.Lit.int .u32 n).wf = true) : ∀ i, IsLit (zs.getD i 0) := by
  intro i
  by_cases hi : i < zs.length
  · have e : zs.getD i 0 = zs[i] := by simp [List.getD, hi]
    rw [e]; exact isLit_of (h _ (List.getElem_mem hi))
  · have e : zs.getD i 0 = 0 := by rw [List.getD_eq_getElem?_getD, List.getElem?_eq_none (by omega)]; rfl
    rw [e]; unfold IsLit; omega
/-- A slice that came in: as much of it as its length says. -/
theorem row_of_in {k : IntKind} {w : World} {a : Option Addr} {len cap : Nat} {zs : List Int} (h : IsRow k w a len cap zs) : len ≤ cap ∧ cap ≤ 9223372036854775807 ∧ Row k w a len (zs.take len) := by
  rcases h with ⟨rfl, rfl, rfl, rfl⟩ | ⟨x, rfl, hlc, hcap, hzl, hcell, hwf⟩
  · exact ⟨by omega, by omega, rfl, by omega, .inl rfl⟩
  · unfold maxLen at hcap
    refine ⟨hlc, by omega, by rw [List.length_take]; omega, by omega, ?_⟩
    by_cases h0 : len = 0
    · exact .inl h0
    · right
      obtain ⟨b, off, rfl, hc⟩ := ints_at hcell (by omega)
      refine ⟨b, off, rfl, World.block_lt_of_cell? w ⟨b, off + 0, none⟩ (hc 0 (by omega)), fun i hi => ?_⟩
      rw [hc i (by omega)]
      have : (zs.take len).getD i 0 = zs.getD i 0 := by simp [List.getD, hi]
      rw [this]
theorem words_in {w : World} {a : Option Addr} {len cap : Nat} {zs : List Int} (h : IsRow .u64 w a len cap zs) (m : Nat) : Words (zs.take m) := by
  rcases h with ⟨rfl, rfl, rfl, rfl⟩ | ⟨x, rfl, hlc, hcap, hzl, hcell, hwf⟩
  · intro i; simp
  · exact words_of fun n hn => hwf n (List.mem_of_mem_take hn)
theorem lits_in {w : World} {a : Option Addr} {len cap : Nat} {zs : List Int} (h : IsRow .u32 w a len cap zs) (m : Nat) : ∀ i, IsLit ((zs.take m).getD i 0) := by
  rcases h with ⟨rfl, rfl, rfl, rfl⟩ | ⟨x, rfl, hlc, hcap, hzl, hcell, hwf⟩
  · intro i; unfold IsLit; simp
  · exact lits_of fun n hn => hwf n (List.mem_of_mem_take hn)
end Go.Proofs.YtafoohdndlhbnaaGreat
end
